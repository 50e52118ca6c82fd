/- What the landed Parse gives. Condition: what the start lays, as far as the library reads it. -/
import Derived.Test.YtfklajkmikanbaaGreatDoorPart24
import Derived.Test.YtfklajkmikanbaaGreatDoorSeqFree
namespace Go.Proofs.YtfklajkmikanbaaGreatDoor.LandedP
open Go.RowKit

/-- Two structs. -/
theorem results_two {P : Program} {fn : Func} {a b : Tmp} {ty uy : TypeId} (h : fn.results = #[.cell a ty, .cell b uy]) (tmps : Array Value) (w : World) (g j : Nat) (T U : TypeId) (cs ds : Array Value)
    (ht : tmps.getD a undef = .pointer (some ⟨g, 0, none⟩)) (hb : Box w g T cs) (d : TypeDesc) (hu : P.underlying ty = some d) (hd : d.isRow = true) (hi : (P.info? ty).map (·.size) = some cs.size)
    (ht2 : tmps.getD b undef = .pointer (some ⟨j, 0, none⟩)) (hb2 : Box w j U ds) (d2 : TypeDesc) (hu2 : P.underlying uy = some d2) (hd2 : d2.isRow = true) (hi2 : (P.info? uy).map (·.size) = some ds.size) :
    (results fn tmps).run P w = .ok (.tuple #[.agg cs, .agg ds]) w := by
  have hl := run_loadVar_mid (P := P) w g 0 ty cs.toList d hb.range hu hd (by simpa using hi)
  have hl2 := run_loadVar_mid (P := P) w j 0 uy ds.toList d2 hb2.range hu2 hd2 (by simpa using hi2)
  simp only [Array.toArray_toList] at hl hl2
  have ht' : tmps[a]?.getD undef = .pointer (some ⟨g, 0, none⟩) := by simpa using ht
  have ht2' : tmps[b]?.getD undef = .pointer (some ⟨j, 0, none⟩) := by simpa using ht2
  simp [results, h, ht', ht2', asAddr, hl, hl2]

theorem item_grow {u u' : Unt} {R R' : List Tk} (h : itemX u R = .ok (u', R')) : u'.defs.length + u'.pols.length ≤ u.defs.length + u.pols.length + 1 := by
  unfold itemX at h
  split at h
  · split at h
    · cases h
    · cases h
      simp
      omega
  split at h
  · split at h
    · cases h
    · cases h
      simp
      omega
  split at h
  · unfold mainX at h
    split at h
    · cases h
    · split at h
      · split at h
        · cases h
        · split at h
          · cases h
          · cases h
            simp
      · cases h
  cases h

theorem untSize : (Tryz.prog.info? 29).map (·.size) = some 5 := by kernel_rfl
abbrev zUnt : Array Value := #[.slice none 0 0, .slice none 0 0, .slice none 0 0, .int .i64 0, .int .i64 0]

/-- The unit, or what is wrong. -/
def ParseRes (E : Env) (X : Except (Int × List Tk) Unt) (w : World) : Ending → World → Prop := fun e w' => Below w.heap.size w w' ∧
  ((∃ u : Unt, X = .ok u.bare ∧ e = .returned (.tuple #[u.val, Flt.none.val]) ∧ UntP (fun b => w.heap.size ≤ b) w' u) ∨
   (∃ err R', X = .error (err, R') ∧ e = .returned (.tuple #[.agg zUnt, (hereV E err R').val])))

/-- Where the loop stands. -/
def LoopSt (w : World) (E : Env) (X : Except (Int × List Tk) Unt) (n : Nat) (W : World) : Prop := ∃ (u : Unt) (R : List Tk) (f : Nat), n = R.length ∧ X = unitLoop f u.bare R ∧ R.length < f ∧
  UniAt (w.heap.size + 5) (w.heap.size + 3) (w.heap.size + 4) u W ∧ RdrAt 66 W (w.heap.size + 3) E R Flt.none ∧ Below w.heap.size w W ∧
  Box W (w.heap.size + 1) 29 zUnt ∧ Box W (w.heap.size + 2) 33 #[.int .i64 0, .int .i64 0, .complex .f64 0 0] ∧ u.defs.length + u.pols.length + R.length ≤ 1000000

section
variable {w : World} {E : Env} {R : List Tk}

theorem UniAt.unt {B g k : Nat} {u : Unt} {W : World} (h : UniAt B g k u W) : UntP (fun b => B ≤ b) W u := by
  have hm : Move (Un B u) (fun b => B ≤ b) W W := Move.of _ fun _ _ h => h.1
  obtain ⟨A1, c1, e1, n1, _⟩ := own_form h.drow
  obtain ⟨A2, c2, e2, n2, _⟩ := own_form h.prow
  cases e1
  cases e2
  exact ⟨⟨LiesP.of_own h.drow fun _ _ _ _ h => h, fun d hd => (h.defs d hd).move hm, n1, own_cap h.drow⟩, ⟨LiesP.of_own h.prow fun _ _ _ _ h => h, fun d hd => (h.pols d hd).move hm, n2, own_cap h.prow⟩, h.main.move hm fun _ _ h => h, h.kind, h.data⟩

/-- What stands beside is kept by an item. -/
theorem Kp.box {B g k : Nat} {W W' : World} {b : Nat} {T : TypeId} {cs : Array Value} (h : Kp B g k W W') (hb : Box W b T cs) (h1 : b < B) (h2 : b ≠ g) (h3 : b ≠ k) : Box W' b T cs := (h.block b h1 hb.lt h2 h3).trans hb

theorem parse_start (A : Option Addr) (c : Nat) (hl : Lies w w.heap.size 4 A R.length (toksT R)) (hc : R.length ≤ c) (hR : R.length ≤ 1000000) (hok : ∀ t ∈ R, TkOk t) (hE : ∀ W, Below w.heap.size w W → E.laid W) (W : World)
    (hW : W = ((((w.alloc (.cells #[.int .i64 E.e, .int .i64 E.file, .complex .f64 E.re E.im] 33)).alloc (.cells zUnt 29)).alloc (.cells #[.int .i64 0, .int .i64 0, .complex .f64 0 0] 33)).alloc (.cells (rdCells A R.length c E Flt.none) 66)).alloc (.cells zUnt 29)) :
    LoopSt w E (parseX R) R.length W := by
  have hz : W.heap.size = w.heap.size + 5 := by rw [hW]; simp
  have hb : Below w.heap.size w W := by
    rw [hW]
    exact below_alloc (below_alloc (below3 w _ _ _) (Nat.le_refl _) _) (Nat.le_refl _) _
  have b1 : Box W (w.heap.size + 1) 29 zUnt := by rw [hW]; exact (((new2 w _ _ _).alloc _).alloc _).alloc _
  have b2 : Box W (w.heap.size + 2) 33 #[.int .i64 0, .int .i64 0, .complex .f64 0 0] := by rw [hW]; exact ((new3 w _ _ _ _).alloc _).alloc _
  have b3 : Box W (w.heap.size + 3) 66 (rdCells A R.length c E Flt.none) := by
    rw [hW]
    have h := Box.new (((w.alloc (.cells #[.int .i64 E.e, .int .i64 E.file, .complex .f64 E.re E.im] 33)).alloc (.cells zUnt 29)).alloc (.cells #[.int .i64 0, .int .i64 0, .complex .f64 0 0] 33)) 66 (rdCells A R.length c E Flt.none)
    simp only [World.size_alloc] at h
    exact h.alloc _
  have b4 : Box W (w.heap.size + 4) 29 zUnt := by
    rw [hW]
    have h := Box.new ((((w.alloc (.cells #[.int .i64 E.e, .int .i64 E.file, .complex .f64 E.re E.im] 33)).alloc (.cells zUnt 29)).alloc (.cells #[.int .i64 0, .int .i64 0, .complex .f64 0 0] 33)).alloc (.cells (rdCells A R.length c E Flt.none) 66)) 29 zUnt
    simp only [World.size_alloc] at h
    exact h
  refine ⟨emptyU, R, R.length + 1, rfl, rfl, Nat.lt_succ_self _, ⟨by omega, by omega, by omega, b4, ⟨rfl, .inl ⟨rfl, rfl⟩⟩, ⟨rfl, .inl ⟨rfl, rfl⟩⟩, Apart.nil_left _, fun d hd => absurd hd (by simp [emptyU]), fun d hd => absurd hd (by simp [emptyU]), .nil _ _ _ _ _, by unfold I64 emptyU; dsimp only; omega, by unfold I64 emptyU; dsimp only; omega⟩, ⟨A, c, b3, (hl.below hb).wider (by omega), hc, hR, hok, fun W2 hW2 => hE W2 (hb.trans (hW2.mono (by omega)))⟩, hb, b1, b2, by show 0 + 0 + _ ≤ _; omega⟩

theorem loop_end {f : Nat} {u : Unt} (h : ([] : List Tk).length < f) : unitLoop f u [] = if u.main.length = 0 then .error (11, []) else .ok u := by
  cases f with
  | zero => simp at h
  | succ f => rfl
theorem loop_item {f : Nat} {u u' : Unt} {t : Tk} {r R' : List Tk} (h : itemX u (t :: r) = .ok (u', R')) : unitLoop (f + 1) u (t :: r) = unitLoop f u' R' := by
  rw [unitLoop, if_neg (by simp), h]
theorem loop_bad {f : Nat} {u : Unt} {t : Tk} {r : List Tk} {x : Int × List Tk} (h : itemX u (t :: r) = .error x) : unitLoop (f + 1) u (t :: r) = .error x := by
  rw [unitLoop, if_neg (by simp), h]

/-- Both results are written. -/
theorem two_end {W W' : World} {a0 a1 a2 a3 a4 b0 b1 b2 : Value} (hb : Below w.heap.size w W) (h1 : Box W (w.heap.size + 1) 29 zUnt) (h2 : Box W (w.heap.size + 2) 33 #[.int .i64 0, .int .i64 0, .complex .f64 0 0])
    (hW : W' = (((((((W.setCell ⟨w.heap.size + 1, 0, none⟩ a0).setCell ⟨w.heap.size + 1, 1, none⟩ a1).setCell ⟨w.heap.size + 1, 2, none⟩ a2).setCell ⟨w.heap.size + 1, 3, none⟩ a3).setCell ⟨w.heap.size + 1, 4, none⟩ a4).setCell ⟨w.heap.size + 2, 0, none⟩ b0).setCell ⟨w.heap.size + 2, 1, none⟩ b1).setCell ⟨w.heap.size + 2, 2, none⟩ b2) :
    Box W' (w.heap.size + 1) 29 #[a0, a1, a2, a3, a4] ∧ Box W' (w.heap.size + 2) 33 #[b0, b1, b2] ∧ Below w.heap.size w W' ∧ Move (fun b => w.heap.size + 5 ≤ b) (fun b => w.heap.size ≤ b) W W' := by
  obtain ⟨W5, hW5⟩ : ∃ W5, W5 = ((((W.setCell ⟨w.heap.size + 1, 0, none⟩ a0).setCell ⟨w.heap.size + 1, 1, none⟩ a1).setCell ⟨w.heap.size + 1, 2, none⟩ a2).setCell ⟨w.heap.size + 1, 3, none⟩ a3).setCell ⟨w.heap.size + 1, 4, none⟩ a4 := ⟨_, rfl⟩
  rw [← hW5] at hW
  have o5 : W.grownBy W5 (some (w.heap.size + 1)) := by rw [hW5]; exact set5_only
  have c5 : Box W5 (w.heap.size + 1) 29 #[a0, a1, a2, a3, a4] := by rw [hW5]; exact set5_box h1
  have o8 : W5.grownBy W' (some (w.heap.size + 2)) := by rw [hW]; exact set3_only
  have c8 : Box W' (w.heap.size + 2) 33 #[b0, b1, b2] := by rw [hW]; exact set3_box (box_only h2 (by omega) o5)
  have hb5 : Below w.heap.size w W5 := below_only hb (by omega) hb.size o5
  exact ⟨box_only c5 (by omega) o8, c8, below_only hb5 (by omega) hb5.size o8, (Move.grown (Q := fun b => w.heap.size + 5 ≤ b) o5 fun b _ hp => ⟨hp, fun e => by have := Option.some.inj e; omega⟩).trans (Move.grown o8 fun b _ hp => ⟨by omega, fun e => by have := Option.some.inj e; omega⟩)⟩

set_option maxRecDepth 100000 in
set_option maxHeartbeats 8000000 in
theorem parse_any (A : Option Addr) (c : Nat) (hl : Lies w w.heap.size 4 A R.length (toksT R)) (hc : R.length ≤ c) (hR : R.length ≤ 1000000) (hok : ∀ t ∈ R, TkOk t) (hE : ∀ W, Below w.heap.size w W → E.laid W) (hE2 : ∀ W, E.laid W → Laid W) :
    Calls Tryz.prog 10 #[.slice A R.length c, E.toFlt.val] w (ParseRes E (parseX R) w) := by
  have hst := store_cx
  have H0 := Lib.hid (parse_start A c hl hc hR hok hE)
  obtain ⟨m, hm⟩ := least_measure (LoopSt w E (parseX R))
  have HM := Lib.hid hm
  generalize parseX R = X at H0 hm HM ⊢
  obtain ⟨N, hN⟩ : ∃ N, N = R.length := ⟨_, rfl⟩
  rw [← hN] at H0 ⊢
  clear hm hN hl hc hR hok hE
  obtain ⟨⟨fe, ff, fr, fi⟩, la⟩ := E
  unfold Flt.val
  unfold rdCells at H0
  dsimp only at H0 ⊢
  go_enter Tryz.func10, Tryz.ntmps10
  go_wp2_with fail
  simp only [Nat.add_assoc, Nat.reduceAdd]
  go_loopw [] (fun wr => ∃ n, LoopSt w ⟨⟨fe, ff, fr, fi⟩, la⟩ X n wr) (fun wr => m wr)
  case atStart => exact ⟨_, H0.out _ rfl⟩
  case round =>
    clear H0
    obtain ⟨n, hr⟩ := hrel
    obtain ⟨⟨u, R', f, hn, hXX, hf, hu, hrd, hbw, hbu, hbf, hcnt⟩, _⟩ := HM.out _ n hr
    clear hr
    have HU := Lib.hid hu
    have HRD := Lib.hid hrd
    have HBW := Lib.hid hbw
    have HBU := Lib.hid hbu
    have HBF := Lib.hid hbf
    have HXX := Lib.hid hXX
    have HN := Lib.hid hn
    have HF := Lib.hid (And.intro hf hcnt)
    obtain ⟨A1, c1, hr1⟩ := hrd
    have r0 := hr1.box.cell 0
    have hgl := hr1.box.lt
    unfold rdCells at r0
    simp only [List.getElem?_toArray, List.getElem?_cons_zero] at r0
    clear hu hbw hbu hbf hXX hn hf hcnt hr1
    cases R' with
    | nil =>
      have HEN : Hid (X = if u.main.length = 0 then .error (11, []) else .ok u.bare) := by
        have := HXX.out
        rw [loop_end HF.out.1, show u.bare.main = u.main from rfl] at this
        exact this
      have c2 := HU.out.box.cell 2
      have hkl := HU.out.box.lt
      unfold Unt.cells at c2
      simp only [List.getElem?_toArray, List.getElem?_cons_zero, List.getElem?_cons_succ] at c2
      simp only [List.length_nil] at r0
      by_cases hm : u.main.length = 0
      · have HE2 : Hid (X = .error (11, [])) := by
          have := HEN.out
          rw [if_pos hm] at this
          exact this
        have HH := Lib.hid (here_any 11 Flt.none HRD.out)
        rw [hm] at c2
        clear hm HEN HXX
        go_wp2_with fail
        refine HH.out.mono ?_
        rintro e w2 ⟨rfl, hb2⟩
        have HBU2 := Lib.hid (HBU.out.step hb2)
        have HBF2 := Lib.hid (HBF.out.step hb2)
        have HBW2 := Lib.hid (below_step HBW.out (Nat.le_refl _) hb2)
        clear hb2 HH HBU HBF HBW c2 r0
        obtain ⟨p0, p1, p2, p3, p4, y0, y1, y2, y3, y4, pl⟩ := box5 HBU2.out
        obtain ⟨q0, q1, q2, z0, z1, z2, ql⟩ := box3 HBF2.out
        obtain ⟨F, hF⟩ : ∃ F, F = hereV (⟨⟨fe, ff, fr, fi⟩, la⟩ : Env) 11 [] := ⟨_, rfl⟩
        rw [← hF]
        have HFF := Lib.hid hF
        clear hF
        obtain ⟨ge, gf, gr, gi⟩ := F
        unfold Flt.val
        dsimp only
        go_wp2_with fail
        try simp only [Exit.inBlock, Exit.then]
        obtain ⟨h1, h2, h3, h4⟩ := two_end HBW2.out HBU2.out HBF2.out rfl
        exact bodyPost_ret (results_two rfl _ _ (w.heap.size + 1) (w.heap.size + 2) 29 33 _ _ rfl h1 _ Tryz.underlying29 rfl untSize rfl h2 _ Tryz.underlying33 rfl fltSize) rfl ⟨h3, .inr ⟨11, [], HE2.out, by rw [← HFF.out]; rfl⟩⟩
      · have HE2 : Hid (X = .ok u.bare) := by
          have := HEN.out
          rw [if_neg hm] at this
          exact this
        have hm2 : ¬ (u.main.length : Int) = 0 := by omega
        have c0 := HU.out.box.cell 0
        have c1 := HU.out.box.cell 1
        have c3 := HU.out.box.cell 3
        have c4 := HU.out.box.cell 4
        unfold Unt.cells at c0 c1 c3 c4
        simp only [List.getElem?_toArray, List.getElem?_cons_zero, List.getElem?_cons_succ] at c0 c1 c3 c4
        obtain ⟨p0, p1, p2, p3, p4, y0, y1, y2, y3, y4, pl⟩ := box5 HBU.out
        obtain ⟨q0, q1, q2, z0, z1, z2, ql⟩ := box3 HBF.out
        clear hm HEN HXX
        go_wp2_with fail
        try simp only [Exit.inBlock, Exit.then]
        obtain ⟨h1, h2, h3, h4⟩ := two_end HBW.out HBU.out HBF.out rfl
        exact bodyPost_ret (results_two rfl _ _ (w.heap.size + 1) (w.heap.size + 2) 29 33 _ _ rfl h1 _ Tryz.underlying29 rfl untSize rfl h2 _ Tryz.underlying33 rfl fltSize) rfl ⟨h3, .inl ⟨u, HE2.out, rfl, HU.out.unt.move h4⟩⟩
    | cons t r =>
      have HIT := Lib.hid (item_any hE2 HU.out HRD.out HF.out.2)
      obtain ⟨K, hK⟩ : ∃ K, K = r.length + 1 := ⟨_, rfl⟩
      simp only [List.length_cons] at r0
      rw [← hK] at r0
      have hK0 : (0 : Int) < (K : Int) := by omega
      obtain ⟨f', rfl⟩ : ∃ f', f = f' + 1 := ⟨f - 1, by have := HF.out.1; simp only [List.length_cons] at this; omega⟩
      clear hK
      go_wp2_with fail
      refine HIT.out.mono ?_
      rintro e w2 ⟨hk2, h2⟩
      have HBU2 := Lib.hid (hk2.box HBU.out (by omega) (by omega) (by omega))
      have HBF2 := Lib.hid (hk2.box HBF.out (by omega) (by omega) (by omega))
      have HBW2 := Lib.hid (hk2.below HBW.out (by omega) (by omega) (by omega))
      clear hk2 HIT HBU HBF HBW r0
      rcases h2 with ⟨u', R2, hx, rfl, hu2, hr2⟩ | ⟨err, R2, hx, rfl, hw2⟩
      · have hlt := item_len hx
        have hgr := item_grow hx
        have hfin : LoopSt w ⟨⟨fe, ff, fr, fi⟩, la⟩ X R2.length w2 := by
          have h1 := HF.out
          refine ⟨u', R2, f', rfl, ?_, by omega, hu2, hr2, HBW2.out, HBU2.out, HBF2.out, ?_⟩
          · have := HXX.out
            rw [loop_item hx] at this
            exact this
          · have e1 : u'.bare.defs.length = u'.defs.length := by simp [Unt.bare]
            have e2 : u'.bare.pols.length = u'.pols.length := by simp [Unt.bare]
            have e3 : u.bare.defs.length = u.defs.length := by simp [Unt.bare]
            have e4 : u.bare.pols.length = u.pols.length := by simp [Unt.bare]
            omega
        have HFIN := Lib.hid hfin
        have HLT := Lib.hid hlt
        clear hx hu2 hr2 hlt hgr hfin HBU2 HBF2 HBW2 HU HRD
        go_wp2
        exact ⟨⟨_, HFIN.out⟩, Nat.lt_of_le_of_lt (HM.out _ _ HFIN.out).2 (by rw [HN.out]; exact HLT.out)⟩
      · have HE2 : Hid (X = .error (err, R2)) := by
          have := HXX.out
          rw [loop_bad hx] at this
          exact this
        have HWR := Lib.hid (wrong_any err hw2)
        clear hx hw2 HXX
        go_wp2_with fail
        refine HWR.out.mono ?_
        rintro e w3 ⟨rfl, hb3⟩
        have HBU3 := Lib.hid (HBU2.out.step hb3)
        have HBF3 := Lib.hid (HBF2.out.step hb3)
        have HBW3 := Lib.hid (below_step HBW2.out (Nat.le_refl _) hb3)
        clear hb3 HWR HBU2 HBF2 HBW2
        obtain ⟨p0, p1, p2, p3, p4, y0, y1, y2, y3, y4, pl⟩ := box5 HBU3.out
        obtain ⟨q0, q1, q2, z0, z1, z2, ql⟩ := box3 HBF3.out
        obtain ⟨F, hF⟩ : ∃ F, F = hereV (⟨⟨fe, ff, fr, fi⟩, la⟩ : Env) err R2 := ⟨_, rfl⟩
        rw [← hF]
        have HFF := Lib.hid hF
        clear hF
        obtain ⟨ge, gf, gr, gi⟩ := F
        unfold Flt.val
        dsimp only
        go_wp2_with fail
        try simp only [Exit.inBlock, Exit.then]
        obtain ⟨h1, h2, h3, h4⟩ := two_end HBW3.out HBU3.out HBF3.out rfl
        exact bodyPost_ret (results_two rfl _ _ (w.heap.size + 1) (w.heap.size + 2) 29 33 _ _ rfl h1 _ Tryz.underlying29 rfl untSize rfl h2 _ Tryz.underlying33 rfl fltSize) rfl ⟨h3, .inr ⟨err, R2, HE2.out, by rw [← HFF.out]; rfl⟩⟩
end

end Go.Proofs.YtfklajkmikanbaaGreatDoor.LandedP
