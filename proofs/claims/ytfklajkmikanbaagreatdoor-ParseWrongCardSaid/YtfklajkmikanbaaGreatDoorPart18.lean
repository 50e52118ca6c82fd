/- Texts of mine put together (a claim has at most so many files): TreeDep, ParCond. -/
import Derived.Test.YtfklajkmikanbaaGreatDoorPart17
import Derived.Test.YtfklajkmikanbaaGreatDoorParEith
/- What the landed Depth gives; whether all depths are small. No condition but sizes. -/
namespace Go.Proofs.YtfklajkmikanbaaGreatDoor.LandedT
open Go.RowKit

attribute [local go_sem] Oper.semAt_some

theorem boxed_keep {B : Nat} {X Y : World} {b : Nat} {t : TypeId} {v : Value} (h : Boxed X b t v) (hb : Below B X Y) (hlt : b < B) : Boxed Y b t v := (hb.block b hlt).trans h

/-- Between two rounds of Depth's loop. -/
def Mosts (w : World) (pre : List Nat) (W : World) : Prop := Boxed W (w.heap.size + 1) 3 (.int .i64 ((pre.foldl max 0 : Nat) : Int)) ∧ Below w.heap.size w W

set_option maxRecDepth 100000 in
set_option maxHeartbeats 4000000 in
theorem depth_any (e : Ex) (w : World) (hin : ExIn w w.heap.size e) (hd : depthOf e ≤ 1000000) : Calls Tryz.prog 59 #[e.val] w (Quietly (.int .i64 (depthOf e : Nat)) w) := by
  have HC := Lib.hid (fun W => depths_any e W)
  obtain ⟨xs, hxs⟩ : ∃ xs, xs = preD 1 e := ⟨_, rfl⟩
  have hmx : xs.foldl max 0 = depthOf e := by
    have := max_pre e 0 0
    rw [hxs]
    simp only [Nat.zero_add] at this
    rw [this]
    omega
  obtain ⟨W0, hW0⟩ : ∃ W0, W0 = ((w.alloc (.cells e.cells.toArray 48)).alloc (.cells #[.int .i64 0] 3)).alloc (.cells e.cells.toArray 48) := ⟨_, rfl⟩
  have hz : W0.heap.size = w.heap.size + 3 := by rw [hW0]; simp
  have hb0 : Below w.heap.size w W0 := by rw [hW0]; exact below_alloc (two_below w _ _) (Nat.le_refl _) _
  have q1 : Boxed W0 (w.heap.size + 1) 3 (.int .i64 0) := by
    rw [hW0]
    have h := Boxed.new (w.alloc (.cells e.cells.toArray 48)) 3 (.int .i64 0)
    rw [World.size_alloc] at h
    exact h.alloc _
  have q2 : Box W0 (w.heap.size + 2) 48 e.cells.toArray := by
    rw [hW0]
    have h := Box.new ((w.alloc (.cells e.cells.toArray 48)).alloc (.cells #[.int .i64 0] 3)) 48 e.cells.toArray
    simp only [World.size_alloc] at h
    exact h
  have hG := depths_give (9 - 1) (by omega) w.heap.size (w.heap.size + 2) e w W0 hin hb0 (by omega) hd q2
  rw [← hxs] at hG
  have hbd : ∀ pre x r, xs = pre ++ x :: r → pre.foldl max 0 ≤ 1000000 ∧ x ≤ 1000000 := fun pre x r h => by
    have h1 : xs.foldl max 0 ≤ 1000000 := by omega
    have h2 := (max_all 1000000 xs 0).1 h1
    exact ⟨(max_all 1000000 pre 0).2 ⟨by omega, fun n hn => h2.2 n (by rw [h]; simp [hn])⟩, h2.2 x (by rw [h]; simp)⟩
  obtain ⟨R, hR⟩ : ∃ R, R = depthOf e := ⟨_, rfl⟩
  rw [← hR] at hmx ⊢
  have HW0 := Lib.hid hW0
  clear hin hd q2 hW0 hR hxs
  obtain ⟨kd, op, nm, nu, A, c, ks⟩ := e
  unfold Ex.val Ex.cells at *
  simp only at HC HW0 ⊢
  refine (callsIn_wide (n := 9)).1 ?_
  refine callsIn_of_wp_marks Tryz.func59 rfl trivial ?_ rfl
  simp only [Tryz.ntmps59, List.size_toArray, List.length_cons, List.length_nil, Nat.reduceAdd, Nat.reduceSub, Array.replicate_succ, Array.replicate_zero, List.push_toArray, List.append_toArray, List.nil_append, List.cons_append]
  gi_wp2_with (refine ⟨trivial, ?_⟩; gi_at_call 71; refine (callsIn_wide.2 (HC.out _)).mono ?_; rintro e' w' ⟨rfl, rfl⟩)
  rw [← HW0.out]
  refine wpIn_seqFree rfl (by omega) (gf := 89) (lb := #[.pointer (some ⟨w.heap.size + 2, 0, none⟩)]) rfl trivial (enters_of Tryz.func89 (by kernel_rfl) rfl)
    hG (by omega) (fun _ => rfl) (Mosts w) (fun _ _ _ => False) (fun pre X Y hs hx hb => ⟨boxed_keep hs.1 hb (by omega), hs.2.trans (hb.mono (by omega))⟩) (fun _ _ _ _ h _ _ => h) ⟨q1, hb0⟩
    (fun x => { tmps := #[.agg #[.int .i64 kd, .string op, .string nm, .int .u64 nu, .slice A ks.length c], .pointer (some ⟨w.heap.size, 0, none⟩), .int .i64 0, .pointer (some ⟨w.heap.size + 1, 0, none⟩), .int .i64 (x : Int),
      .agg #[.int .i64 kd, .string op, .string nm, .int .u64 nu, .slice A ks.length c], .func (.func 89) #[] #[.pointer (some ⟨w.heap.size + 1 + 1, 0, none⟩)], .int .i64 (x : Int), undef, undef, undef, undef], defers := [] }) ?assign ?body ?done ?stop
  case assign =>
    intro l x W K hK
    gi_wp2
    exact hK
  case body =>
    rintro l pre x W ⟨hm, hb⟩ hsz ⟨r, hr⟩
    obtain ⟨d1, d2⟩ := hbd pre x r hr
    have c1 := hm.cell
    have f1 := hm.frozen
    have HS : Hid (∀ v, Spares w.heap.size W0.heap.size W (W.setCell ⟨w.heap.size + 1, 0, none⟩ v)) := fun v => .set _ _ _ (by omega) (by omega)
    have HB : Hid (∀ v, Below w.heap.size w (W.setCell ⟨w.heap.size + 1, 0, none⟩ v)) := fun v => hb.trans (Below.setCell (Below.refl _ W) (by simp) v)
    have HM : Hid (∀ v, Boxed (W.setCell ⟨w.heap.size + 1, 0, none⟩ v) (w.heap.size + 1) 3 v) := fun v => hm.set v
    clear hG hbd hr hb hm HC HW0 hmx
    gi_wp2
    have hc : max ((pre.foldl max 0 : Nat) : Int) (x : Int) = (((pre ++ [x]).foldl max 0 : Nat) : Int) := by
      rw [List.foldl_append]
      show _ = ((max (pre.foldl max 0) x : Nat) : Int)
      omega
    exact ⟨HS.out _, by rw [← hc]; exact HM.out _, HB.out _⟩
  case done =>
    rintro D W hD hlt ⟨hm, hb⟩ hK
    have c1 := hm.cell
    clear hG hbd HC HW0
    gi_wp2
    refine ⟨by simp, .inl ⟨_, _, rfl, run_takeDeferred hK, ?_⟩⟩
    refine ⟨.int .i64 (R : Int), ?_, rfl, hb.trans (below_put W D w.heap.size _ (by omega))⟩
    simp [results, Tryz.f59, go_sem]
  case stop => exact fun _ _ _ _ _ _ _ h => h.elim

end Go.Proofs.YtfklajkmikanbaaGreatDoor.LandedT

/- What the landed parser's cond gives. Conditions: sizes; what the start lays, as far as the library reads it. -/
namespace Go.Proofs.YtfklajkmikanbaaGreatDoor.LandedP
open Go.RowKit

mutual
theorem depth_bare : ∀ e : Ex, depthOf e.bare = depthOf e
  | .node kd op nm nu A c ks => by
    unfold Ex.bare depthOf
    rw [depths_bare ks 0]
theorem depths_bare : ∀ (l : List Ex) (n : Nat), depthsOf n (baresE l) = depthsOf n l
  | [], n => rfl
  | k :: r, n => by
    unfold baresE depthsOf
    rw [depth_bare k, depths_bare r]
end

section
variable {w : World} {g : Nat} {E : Env} {R : List Tk}

/-- The fault is set. -/
theorem rdr_fault {W : World} {R' : List Tk} {F F' : Flt} (h : RdrAt 66 W g E R' F) :
    RdrAt 66 (((W.setCell ⟨g, 4, none⟩ (.int .i64 F'.e)).setCell ⟨g, 5, none⟩ (.int .i64 F'.file)).setCell ⟨g, 6, none⟩ (.complex .f64 F'.re F'.im)) g E R' F' ∧
      W.grownBy (((W.setCell ⟨g, 4, none⟩ (.int .i64 F'.e)).setCell ⟨g, 5, none⟩ (.int .i64 F'.file)).setCell ⟨g, 6, none⟩ (.complex .f64 F'.re F'.im)) (some g) := by
  obtain ⟨A, c, h⟩ := h
  have ho : W.grownBy (((W.setCell ⟨g, 4, none⟩ (.int .i64 F'.e)).setCell ⟨g, 5, none⟩ (.int .i64 F'.file)).setCell ⟨g, 6, none⟩ (.complex .f64 F'.re F'.im)) (some g) := only_trans (only_trans (only_set _ _ _ _) (only_set _ _ _ _)) (only_set _ _ _ _)
  refine ⟨⟨A, c, ?_, lies_only h.lies (Nat.le_refl _) (Nat.le_of_lt h.box.lt) ho, h.cap, h.room, h.ok, fun W2 hW2 => h.laid W2 ((below_set (Nat.le_refl _) (below_set (Nat.le_refl _) (below_set (Nat.le_refl _) (Below.refl _ _)))).trans hW2)⟩, ho⟩
  have := ((h.box.set 4 (.int .i64 F'.e)).set 5 (.int .i64 F'.file)).set 6 (.complex .f64 F'.re F'.im)
  unfold rdCells at this ⊢
  simpa using this

theorem cond_end {W : World} {X : Rx (List Ex)} {R1 : List Tk} {e : Ex} {k : Nat} (hX : X = if sgL [125] R1 = true then .ok ([e.bare], R1.tail) else .error (3, R1)) (hg : w.grownBy W (some g)) (hr : RdrAt 66 W g E (restL (sgL [125] R1) R1) Flt.none)
    (hs : SlP (fun b => w.heap.size ≤ b) W 5 Ex.cells (ExP (fun b => w.heap.size ≤ b) W) (some ⟨k, 0, none⟩) 1 [e]) :
    Gave 66 g E (ExsNew w.heap.size) SlShape X w (.returned (.tuple #[.slice (some ⟨k, 0, none⟩) 1 1, .bool (sgL [125] R1)])) W := by
  refine ⟨hg, ?_⟩
  cases h : sgL [125] R1
  · rw [h] at hX hr
    exact .inr ⟨3, R1, _, hX, rfl, ⟨_, _, _, rfl⟩, .inl ⟨rfl, hr⟩⟩
  · rw [h] at hX hr
    exact .inl ⟨[e.bare], R1.tail, _, hX, rfl, ⟨_, 1, [e], rfl, rfl, hs⟩, hr⟩
/-- The slice was laid first. -/
theorem cond_first {W W5 : World} {X : Rx (List Ex)} {R1 : List Tk} {e : Ex} (hX : X = if sgL [125] R1 = true then .ok ([e.bare], R1.tail) else .error (3, R1)) (hl : g < w.heap.size) (hg : w.grownBy W5 (some g)) (hz : w.heap.size ≤ W5.heap.size) (hin : ExP (fun b => w.heap.size ≤ b) W5 e)
    (hg6 : (W5.drew.alloc (.cells e.cells.toArray 48)).grownBy W (some g)) (hr : RdrAt 66 W g E (restL (sgL [125] R1) R1) Flt.none) :
    Gave 66 g E (ExsNew w.heap.size) SlShape X w (.returned (.tuple #[.slice (some ⟨W5.heap.size, 0, none⟩) 1 1, .bool (sgL [125] R1)])) W := by
  have hm : Move (fun b => w.heap.size ≤ b) (fun b => w.heap.size ≤ b) (W5.drew.alloc (.cells e.cells.toArray 48)) W := Move.grown hg6 fun b _ hp => ⟨hp, fun e => by have := Option.some.inj e; omega⟩
  refine cond_end hX (only_trans (grow_alloc (only_drew hg) _) hg6) hr ?_
  refine (one_sl (w := W5.drew) W5.heap.size rfl hz ((hin.move (.same_below (Below.refl _ _).drew)).move (Move.grown (World.grownBy_alloc W5.drew _ none) fun b hb hp => ⟨hp, by simp⟩))).move hm fun _ _ h => h.move hm
/-- It was laid last. -/
theorem cond_last {W W5 : World} {X : Rx (List Ex)} {R1 : List Tk} {e : Ex} (hX : X = if sgL [125] R1 = true then .ok ([e.bare], R1.tail) else .error (3, R1)) (hl : g < w.heap.size) (hg : w.grownBy W5 (some g)) (hin : ExP (fun b => w.heap.size ≤ b) W5 e)
    (hg6 : W5.drew.grownBy W (some g)) (hr : RdrAt 66 W g E (restL (sgL [125] R1) R1) Flt.none) :
    Gave 66 g E (ExsNew w.heap.size) SlShape X w (.returned (.tuple #[.slice (some ⟨W.heap.size, 0, none⟩) 1 1, .bool (sgL [125] R1)])) (W.alloc (.cells e.cells.toArray 48)) := by
  have hm : Move (fun b => w.heap.size ≤ b) (fun b => w.heap.size ≤ b) W5.drew W := Move.grown hg6 fun b _ hp => ⟨hp, fun e => by have := Option.some.inj e; omega⟩
  have hg7 := only_trans (only_drew hg) hg6
  refine cond_end hX (grow_alloc hg7 _) (hr.alloc _) ?_
  exact one_sl W.heap.size rfl hg7.size (((hin.move (.same_below (Below.refl _ _).drew)).move hm).move (Move.grown (World.grownBy_alloc W _ none) fun b hb hp => ⟨hp, by simp⟩))

abbrev zFlt : Array Value := #[.int .i64 0, .int .i64 0, .complex .f64 0 0]

set_option maxRecDepth 100000 in
set_option maxHeartbeats 8000000 in
theorem cond_any (hE : ∀ W, E.laid W → Laid W) (hD : ∀ e R1, eitherX (R.tail.length + 1) [] Lvl.zero R.tail = .ok (e, R1) → depthOf e ≤ 1000000) (h : RdrAt 66 w g E R Flt.none) :
    Calls Tryz.prog 50 #[.pointer (some ⟨g, 0, none⟩)] w (Gave 66 g E (ExsNew w.heap.size) SlShape (condX R) w) := by
  have hst := store_cx
  have HH := Lib.hid (here_any 6 Flt.none h)
  have HGL := Lib.hid h.lt
  have HR := Lib.hid h
  have HDD := Lib.hid hD
  clear h hD
  go_enter Tryz.func50, Tryz.ntmps50
  go_wp2_with fail
  refine HH.out.mono ?_
  rintro e w1 ⟨rfl, hb1⟩
  obtain ⟨F, hF⟩ : ∃ F, F = hereV E 6 R := ⟨_, rfl⟩
  rw [← hF]
  have HF := Lib.hid hF
  have HB1 := Lib.hid (Box.new w1 33 #[.int .i64 F.e, .int .i64 F.file, .complex .f64 F.re F.im])
  have HBN := Lib.hid (below_alloc hb1 (Nat.le_refl _) (.cells #[.int .i64 F.e, .int .i64 F.file, .complex .f64 F.re F.im] 33))
  have HR1 := Lib.hid (HR.out.step HBN.out)
  have HSG := Lib.hid (sign_any HR1.out ⟨#[123]⟩)
  rw [show ((⟨#[123]⟩ : ByteArray)).data.toList = [123] from rfl] at HSG
  have HZ1 := Lib.hid hb1.size
  clear hF hb1 HH HR
  obtain ⟨fe, ff, fr, fi⟩ := F
  unfold Flt.val
  dsimp only at HB1 HBN HR1 HSG ⊢
  cases hsg : sgL [123] R
  · rw [hsg] at HSG
    have HEQ : Hid (condX R = .ok ([], R)) := by
      show condX R = _
      unfold condX
      rw [if_neg (by rw [hsg]; decide)]
    clear hsg
    go_wp2_with fail
    refine HSG.out.mono ?_
    rintro e w2 ⟨rfl, h2, hg2⟩
    have HR2 := Lib.hid h2
    have HG2 := Lib.hid (only_trans (only_below HBN.out g) hg2)
    clear h2 hg2 HSG
    go_wp2
    go_ret2
    exact ⟨HG2.out, .inl ⟨[], R, _, HEQ.out, rfl, ⟨none, 0, [], rfl, rfl, .nil _ _ _ _ _⟩, HR2.out⟩⟩
  · rw [hsg] at HSG
    have HEQ : Hid (condX R = match eitherX (R.tail.length + 1) [] Lvl.zero R.tail with
        | .error x => .error x
        | .ok (e, R1) => if 30 < depthOf e then .error (6, R) else if sgL [125] R1 = true then .ok ([e], R1.tail) else .error (3, R1)) := by
      show condX R = _
      unfold condX
      rw [if_pos hsg]
      rfl
    clear hsg
    go_wp2_with fail
    refine HSG.out.mono ?_
    rintro e w2 ⟨rfl, h2, hg2⟩
    have HEI := Lib.hid (either_any hE (show RdrAt 66 w2 g E R.tail Flt.none from h2))
    have HG2 := Lib.hid (only_trans (only_below HBN.out g) hg2)
    have HB2 := Lib.hid (box_only HB1.out (by have := HGL.out; have := HZ1.out; omega) hg2)
    clear h2 hg2 HSG HB1 HR1 HBN
    go_wp2_with fail
    refine HEI.out.mono ?_
    rintro e w3 ⟨hg3, h3⟩
    have HG3 := Lib.hid (only_trans HG2.out hg3)
    have HB3 := Lib.hid (box_only HB2.out (by have := HGL.out; have := HZ1.out; omega) hg3)
    have HZ2 := Lib.hid HB2.out.lt
    clear hg3 HEI HG2 HB2
    rcases h3 with ⟨a, R1, v, hx, rfl, ⟨e1, rfl, rfl, hin⟩, hr⟩ | ⟨err, R1, v, hx, rfl, ⟨e1, rfl⟩, hr⟩
    · have HE1 : Hid (condX R = if 30 < depthOf e1.bare then .error (6, R) else if sgL [125] R1 = true then .ok ([e1.bare], R1.tail) else .error (3, R1)) := by
        have := HEQ.out
        rw [hx] at this
        exact this
      have hd1 : depthOf e1 ≤ 1000000 := by rw [← depth_bare]; exact HDD.out _ _ hx
      have hin1 : ExP (fun b => w.heap.size ≤ b) (w3.alloc (.cells e1.cells.toArray 48)) e1 := hin.move (Move.grown (World.grownBy_alloc w3 _ none) fun b hb hp => ⟨by have := HZ1.out; have := HZ2.out; omega, by simp⟩)
      have HDE := Lib.hid (LandedT.depth_any e1 _ hin1.ex hd1)
      have HIN := Lib.hid hin1
      have HR3 := Lib.hid (hr.alloc (.cells e1.cells.toArray 48))
      have HBE := Lib.hid (Box.new w3 48 e1.cells.toArray)
      have HB4 := Lib.hid (HB3.out.alloc (.cells e1.cells.toArray 48))
      have HG4 := Lib.hid (grow_alloc HG3.out (.cells e1.cells.toArray 48))
      have HZ3 := Lib.hid HB3.out.lt
      rw [depth_bare] at HE1
      clear hx hin hr hin1 HEQ HB3 HG3
      obtain ⟨D, hD⟩ : ∃ D, D = depthOf e1 := ⟨_, rfl⟩
      rw [← hD] at HE1 HDE hd1
      obtain ⟨kd, op, nm, nu, A, c, ks⟩ := e1
      unfold Ex.val at *
      unfold Ex.cells at *
      dsimp only at *
      clear hD
      go_wp2_with fail
      refine HDE.out.mono ?_
      rintro e w5 ⟨rfl, hb5⟩
      have HB5 := Lib.hid (HB4.out.step hb5)
      have HBE5 := Lib.hid (HBE.out.step hb5)
      have HR5 := Lib.hid (HR3.out.step hb5)
      have HG5 := Lib.hid (grow_step HG4.out hb5)
      have HIN5 := Lib.hid (HIN.out.move (.same_below hb5))
      clear hb5 HDE HB4 HBE HR3 HG4 HIN
      by_cases hd : 30 < D
      · have HE2 : Hid (condX R = .error (6, R)) := by
          have := HE1.out
          rw [if_pos hd] at this
          exact this
        have hdI : (30 : Int) < (D : Int) := by omega
        obtain ⟨q0, q1, q2, z0, z1, z2, hl⟩ := box3 HB5.out
        obtain ⟨A6, c6, hr6⟩ := HR5.out
        have c4 := hr6.box.cell 4
        have c5 := hr6.box.cell 5
        have c7 := hr6.box.cell 6
        have f4 := hr6.box.free 4
        have f5 := hr6.box.free 5
        have f7 := hr6.box.free 6
        have hgl := hr6.box.lt
        unfold rdCells at c4 c5 c7
        simp only [List.getElem?_toArray, List.getElem?_cons_zero, List.getElem?_cons_succ] at c4 c5 c7
        clear hr6 hd
        go_wp2
        go_ret2
        obtain ⟨h1, h2⟩ := rdr_fault (F' := ⟨fe, ff, fr, fi⟩) HR5.out
        exact ⟨only_trans HG5.out h2, .inr ⟨6, R, _, HE2.out, rfl, ⟨none, 0, 0, rfl⟩, .inr ⟨by decide, R1, by rw [← HF.out]; exact h1⟩⟩⟩
      · have HE2 : Hid (condX R = if sgL [125] R1 = true then .ok ([(Ex.node kd op nm nu A c ks).bare], R1.tail) else .error (3, R1)) := by
          have := HE1.out
          rw [if_neg hd] at this
          exact this
        have hdI : ¬ (30 : Int) < (D : Int) := by omega
        obtain ⟨q0, q1, q2, q3, q4, z0, z1, z2, z3, z4, hl⟩ := box5 HBE5.out
        have hne : w3.heap.size ≠ g := by have := HGL.out; have := HZ1.out; have := HZ2.out; have := HZ3.out; omega
        have HS5 : Hid (∀ W, Below w5.heap.size w5 W → Calls Tryz.prog 40 #[.pointer (some ⟨g, 0, none⟩), .string ⟨#[125]⟩] W (Took g E R1 (sgL [125] R1) W)) := fun W hW => sign_any (HR5.out.step hW) ⟨#[125]⟩
        clear hd
        go_wp2_with fail
        go_region_with (first
          | (go_at_call 40; refine (HS5.out w5.drew (Below.refl _ _).drew).mono ?_; rintro e w6 ⟨rfl, h6, hg6⟩; obtain ⟨p0, p1, p2, p3, p4, y0, y1, y2, y3, y4, hl6⟩ := box5 (box_only HBE5.out.drew hne hg6); have H6 := Lib.hid h6; have HG6 := Lib.hid hg6; clear h6 hg6)
          | (go_at_call 40; refine (HS5.out _ (below_alloc (Below.refl _ _).drew (Nat.le_refl _) _)).mono ?_; rintro e w6 ⟨rfl, h6, hg6⟩; have H6 := Lib.hid h6; have HG6 := Lib.hid hg6; clear h6 hg6))
        all_goals
          go_wp2
          go_ret2
          first
            | exact cond_first HE2.out HGL.out HG5.out (by have := HG5.out.size; exact this) HIN5.out HG6.out H6.out
            | exact cond_last HE2.out HGL.out HG5.out HIN5.out HG6.out H6.out
    · have HE1 : Hid (condX R = .error (err, R1)) := by
        have := HEQ.out
        rw [hx] at this
        exact this
      have HR3 := Lib.hid (hr.step ((Below.refl _ _).alloc (Nat.le_refl _) (.cells e1.cells.toArray 48)))
      have HG4 := Lib.hid (grow_alloc HG3.out (.cells e1.cells.toArray 48))
      clear hx hr HEQ
      obtain ⟨kd, op, nm, nu, A, c, ks⟩ := e1
      unfold Ex.val
      unfold Ex.cells at HR3 HG4
      dsimp only at *
      go_wp2
      go_ret2
      exact ⟨HG4.out, .inr ⟨err, R1, _, HE1.out, rfl, ⟨none, 0, 0, rfl⟩, HR3.out⟩⟩
end

end Go.Proofs.YtfklajkmikanbaaGreatDoor.LandedP
