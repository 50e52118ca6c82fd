/- Texts of mine put together (a claim has at most so many files): ParJoin, ParCmpd. -/
import Derived.Test.YtfklajkmikanbaaGreatDoorParNumb
import Derived.StillTailTactics
import Derived.Test.YtfklajkmikanbaaGreatDoorPart12
/- What the landed parser's joined gives. No condition. -/
namespace Go.Proofs.YtfklajkmikanbaaGreatDoor.LandedP
open Go.RowKit

/-- An expression came back: it lies where P tells; nothing that was there has turned. -/
def Joined (P : Nat → Prop) (a : Ex) (w : World) : Ending → World → Prop := fun e w' => Below w.heap.size w w' ∧ ∃ r : Ex, r.bare = a ∧ e = .returned r.val ∧ ExP P w' r

theorem joined_bare (kd : Int) (l : List Ex) (e : Ex) : joinedE kd (l.map Ex.bare) e.bare = match l with
    | [] => e.bare
    | a :: _ => pairE kd a.bare e.bare := by
  cases l <;> rfl

theorem new2 (w : World) (o : Obj) (T : TypeId) (cs : Array Value) : Box ((w.alloc o).alloc (.cells cs T)) (w.heap.size + 1) T cs := by
  have h := Box.new (w.alloc o) T cs
  rwa [World.size_alloc] at h
theorem new3 (w : World) (o p : Obj) (T : TypeId) (cs : Array Value) : Box (((w.alloc o).alloc p).alloc (.cells cs T)) (w.heap.size + 1 + 1) T cs := by
  have h := Box.new ((w.alloc o).alloc p) T cs
  rwa [World.size_alloc, World.size_alloc] at h
theorem below2 (w : World) (o p : Obj) : Below w.heap.size w ((w.alloc o).alloc p) := below_alloc (below_alloc (Below.refl _ _) (Nat.le_refl _) _) (Nat.le_refl _) _
theorem below3 (w : World) (o p q : Obj) : Below w.heap.size w (((w.alloc o).alloc p).alloc q) := below_alloc (below2 w o p) (Nat.le_refl _) _
theorem Move.same_below {P : Nat → Prop} {w w' : World} (h : Below w.heap.size w w') : Move P P w w' := .below h fun _ _ h => h

section
variable {P : Nat → Prop} {w : World}

/-- An element's cells. -/
theorem SlP.head {A : Option Addr} {c : Nat} {a : Ex} {l : List Ex} (h : SlP P w 5 Ex.cells (ExP P w) A c (a :: l)) : ∃ b o, A = some ⟨b, o, none⟩ ∧ b < w.heap.size ∧ P b ∧ ExP P w a ∧ ExAt w b o a := by
  obtain ⟨b, o, h1, h2, h3, h4⟩ := h.lies.2 (by simp)
  refine ⟨b, o, h1, h2, h3, h.all a (by simp), ?_⟩
  obtain ⟨kd, op, nm, nu, A', c', ks⟩ := a
  have hc : ∀ j u, (Ex.cells (.node kd op nm nu A' c' ks))[j]? = some u → w.cell? ⟨b, o + j, none⟩ = some u := fun j u hu => h4 j u (by
    rw [List.flatMap_cons, List.getElem?_append_left (List.getElem?_eq_some_iff.1 hu).1]
    exact hu)
  exact ⟨hc 0 _ rfl, hc 1 _ rfl, hc 2 _ rfl, hc 3 _ rfl, hc 4 _ rfl⟩

set_option maxRecDepth 100000 in
set_option maxHeartbeats 4000000 in
theorem joined_any (hP : ∀ b, w.heap.size ≤ b → P b) (kd : Int) (hkd : I64 kd) (A : Option Addr) (c : Nat) (l : List Ex) (e : Ex) (hl : SlP P w 5 Ex.cells (ExP P w) A c l) (he : ExP P w e) (hn : l.length ≤ 1000000) :
    Calls Tryz.prog 88 #[.int .i64 kd, .slice A l.length c, e.val] w (Joined P (joinedE kd (l.map Ex.bare) e.bare) w) := by
  rw [joined_bare]
  have HE := Lib.hid he
  have HKD := Lib.hid hkd
  have HP := Lib.hid hP
  obtain ⟨kd2, op2, nm2, nu2, A2, c2, ks2⟩ := e
  have hB : Box (w.alloc (.cells (Ex.node kd2 op2 nm2 nu2 A2 c2 ks2).cells.toArray 48)) w.heap.size 48 #[.int .i64 kd2, .string op2, .string nm2, .int .u64 nu2, .slice A2 ks2.length c2] := Box.new _ _ _
  cases l with
  | nil =>
    clear hl he hkd hP hB
    unfold Ex.val
    simp only [List.length_nil]
    go_enter Tryz.func88, Tryz.ntmps88
    go_wp2_with fail
    try simp only [Exit.inBlock, Exit.then]
    exact bodyPost_ret (results_box rfl _ _ (w.heap.size + 1) 48 _ rfl (new2 _ _ _ _) _ Tryz.underlying48 rfl exSize) rfl ⟨below2 _ _ _, _, rfl, rfl, HE.out.move (.same_below (below2 _ _ _))⟩
  | cons a l =>
    obtain ⟨b, o, rfl, hb, hPb, hea, ha⟩ := hl.head
    have HA := Lib.hid hea
    obtain ⟨kd1, op1, nm1, nu1, A1, c1, ks1⟩ := a
    obtain ⟨q0, q1, q2, q3, q4⟩ := ha
    obtain ⟨m, hm⟩ : ∃ m, m = l.length + 1 := ⟨_, rfl⟩
    simp only [List.length_cons] at hn ⊢
    rw [← hm] at hn ⊢
    have hnI : (0 : Int) < (m : Int) := by omega
    have hn0 : 0 < m := by omega
    have hnz : ¬ (m : Int) = 0 := by omega
    have hnzn : ¬ m = 0 := by omega
    clear hl he hkd hP hB hm hea
    unfold Ex.val
    dsimp only
    go_enter Tryz.func88, Tryz.ntmps88
    go_wp2_with fail
    go_region
    all_goals go_wp2_with fail
    try simp only [Exit.inBlock, Exit.then]
    have hb3 : ∀ p q r, Below w.heap.size w (((w.alloc p).alloc q).alloc r).drew := fun p q r => (below3 w p q r).drew
    refine bodyPost_ret (results_box rfl _ _ (w.heap.size + 1) 48 _ rfl ((new2 _ _ _ _).alloc _).drew _ Tryz.underlying48 rfl exSize) rfl ⟨hb3 _ _ _, .node kd ⟨#[]⟩ ⟨#[]⟩ 0 (some ⟨w.heap.size + 1 + 1, 0, none⟩) 2 [.node kd1 op1 nm1 nu1 A1 c1 ks1, .node kd2 op2 nm2 nu2 A2 c2 ks2], rfl, rfl, ?_⟩
    exact (pair_in (w := (w.alloc _).alloc _) (w1 := ((w.alloc _).alloc _).alloc _) (w.heap.size + 1 + 1) (by simp) HKD.out rfl (HP.out _ (by omega)) (HA.out.move (.same_below (below3 w _ _ _))) (HE.out.move (.same_below (below3 w _ _ _)))).move (.same_below (Below.refl _ _).drew)
end

end Go.Proofs.YtfklajkmikanbaaGreatDoor.LandedP

/- What the landed parser's compared gives. Condition: what the start lays, as far as the library reads it. -/
namespace Go.Proofs.YtfklajkmikanbaaGreatDoor.LandedP
open Go.RowKit

abbrev exZ : Array Value := #[.int .i64 0, .string ⟨#[]⟩, .string ⟨#[]⟩, .int .u64 0, .slice none 0 0]

section
variable {w : World} {g : Nat} {E : Env} {R : List Tk}

/-- A kid that has just been laid. -/
theorem one_in {P : Nat → Prop} {w w1 : World} {kd : Int} {nm : ByteArray} {T : TypeId} {a : Ex} (k : Nat) (hk : k = w.heap.size) (hkd : I64 kd) (hnm : StrIn nm) (hw : w1 = w.alloc (.cells a.cells.toArray T)) (hP : P k) (ha : ExP P w1 a) :
    ExP P w1 (.node kd ⟨#[]⟩ nm 0 (some ⟨k, 0, none⟩) 1 [a]) := by
  subst hw
  refine .mk (.new k hk (by simp) (by simp [Ex.cells_len]) hP) (fun x hx => ?_) (Nat.le_refl _) (by decide) hkd (by decide) hnm (by unfold U64; omega)
  obtain rfl : x = a := by simpa using hx
  exact ha

set_option maxRecDepth 100000 in
set_option maxHeartbeats 4000000 in
theorem compared_any (hE : ∀ W, E.laid W → Laid W) (h : RdrAt 66 w g E R Flt.none) :
    Calls Tryz.prog 85 #[.pointer (some ⟨g, 0, none⟩)] w (Gave 66 g E (ExNew w.heap.size) ExShape (comparedX R) w) := by
  have HNA := Lib.hid (name_any (h.alloc (.cells exZ 48)))
  have HGL := Lib.hid h.lt
  clear h
  go_enter Tryz.func85, Tryz.ntmps85
  go_wp2_with fail
  refine HNA.out.mono ?_
  rintro e w1 ⟨hg1, h1⟩
  have HB1 := Lib.hid (box_only (Box.new w 48 exZ) (by have := HGL.out; omega) hg1)
  have HG1 := Lib.hid (only_trans (only_alloc w (.cells exZ 48) g) hg1)
  clear HNA hg1
  rcases h1 with ⟨s, hs, rfl, h1, hsi⟩ | ⟨hs, rfl, h1⟩
  · have HS := Lib.hid hs
    have HSI := Lib.hid hsi
    have HSG := Lib.hid (sign_any h1 ⟨#[38]⟩)
    rw [show ((⟨#[38]⟩ : ByteArray)).data.toList = [38] from rfl] at HSG
    clear hs hsi h1
    cases hsg : sgL [38] R.tail
    · rw [hsg] at HSG
      have HE : Hid (comparedX R = .ok (leafS s, R.tail)) := by
        show comparedX R = _
        unfold comparedX
        rw [HS.out]
        dsimp only
        rw [if_neg (by rw [hsg]; decide)]
      clear hsg
      go_wp2_with fail
      refine HSG.out.mono ?_
      rintro e w2 ⟨rfl, h2, hg2⟩
      have HB2 := Lib.hid (box_only HB1.out (by have := HGL.out; omega) hg2)
      have HG2 := Lib.hid (only_trans HG1.out hg2)
      have HR2 := Lib.hid h2
      clear HB1 HG1 HSG h2 hg2
      obtain ⟨q0, q1, q2, q3, q4, z0, z1, z2, z3, z4, hl⟩ := box5 HB2.out
      go_wp2_with fail
      try simp only [Exit.inBlock, Exit.then]
      exact bodyPost_ret (results_box_tmp rfl _ _ w.heap.size 48 _ rfl (set5_box HB2.out) _ Tryz.underlying48 rfl exSize) rfl ⟨grow_new HG2.out set5_only (Nat.le_refl _), .inl ⟨leafS s, R.tail, _, HE.out, rfl, ⟨leafS s, rfl, rfl, leafS_in _ _ HSI.out⟩, HR2.out.other set5_only HGL.out⟩⟩
    · rw [hsg] at HSG
      have HE : Hid (comparedX R = match singleX R.tail.tail with
          | .error x => .error x
          | .ok (x, R') => .ok (.node 6 ⟨#[]⟩ s 0 none 0 [x], R')) := by
        show comparedX R = _
        unfold comparedX
        rw [HS.out]
        dsimp only
        rw [if_pos hsg]
        rfl
      clear hsg
      go_wp2_with fail
      refine HSG.out.mono ?_
      rintro e w2 ⟨rfl, h2, hg2⟩
      have HB2 := Lib.hid (box_only HB1.out (by have := HGL.out; omega) hg2)
      have HG2 := Lib.hid (only_trans HG1.out hg2)
      have HSN := Lib.hid (single_any hE (show RdrAt 66 w2 g E R.tail.tail Flt.none from h2))
      clear HB1 HG1 HSG h2 hg2
      go_wp2_with fail
      refine HSN.out.mono ?_
      rintro e w3 ⟨hg3, h3⟩
      have HB3 := Lib.hid (box_only HB2.out (by have := HGL.out; omega) hg3)
      have HG3 := Lib.hid (only_trans HG2.out hg3)
      have HZ3 : Hid (w.heap.size < w2.heap.size) := HB2.out.lt
      have H3 : Hid (∃ (b : Bool) (e2 : Ex), e = .returned (.tuple #[e2.val, .bool b]) ∧ ((b = true ∧ ∃ R2, comparedX R = .ok (.node 6 ⟨#[]⟩ s 0 none 0 [e2.bare], R2) ∧ ExP (fun x => w.heap.size < x) w3 e2 ∧ RdrAt 66 w3 g E R2 Flt.none) ∨ (b = false ∧ ∃ err R2, comparedX R = .error (err, R2) ∧ Wrong 66 w3 g E err R2))) := by
        have he := HE.out
        have hz := HZ3.out
        rcases h3 with ⟨a, R2, v, hx, rfl, ⟨e2, rfl, rfl, hin⟩, hr⟩ | ⟨err, R2, v, hx, rfl, ⟨e2, rfl⟩, hr⟩
        · rw [hx] at he
          exact ⟨true, e2, rfl, .inl ⟨rfl, R2, he, hin.move (Move.of _ fun b hb hp => by omega), hr⟩⟩
        · rw [hx] at he
          exact ⟨false, e2, rfl, .inr ⟨rfl, err, R2, he, hr⟩⟩
      clear h3 hg3 HB2 HG2 HSN HE
      obtain ⟨b, e2, rfl, H4⟩ := H3.out
      have H4 := Lib.hid H4
      clear H3
      obtain ⟨kd2, op2, nm2, nu2, A2, c2, ks2⟩ := e2
      unfold Ex.val
      dsimp only
      obtain ⟨q0, q1, q2, q3, q4, z0, z1, z2, z3, z4, hl⟩ := box5 HB3.out
      go_wp2_with fail
      try simp only [Exit.inBlock, Exit.then]
      have hB := (set5_box (a0 := .int .i64 6) (a1 := .string ⟨#[]⟩) (a2 := .string s) (a3 := .int .u64 0) (a4 := .slice (some ⟨w3.heap.size + 1, 0, none⟩) 1 1) HB3.out)
      have hO : w3.grownBy _ (some w.heap.size) := set5_only (w := w3) (g := w.heap.size) (a0 := .int .i64 6) (a1 := .string ⟨#[]⟩) (a2 := .string s) (a3 := .int .u64 0) (a4 := .slice (some ⟨w3.heap.size + 1, 0, none⟩) 1 1)
      have hs : (((((w3.setCell ⟨w.heap.size, 0, none⟩ (.int .i64 6)).setCell ⟨w.heap.size, 1, none⟩ (.string ⟨#[]⟩)).setCell ⟨w.heap.size, 2, none⟩ (.string s)).setCell ⟨w.heap.size, 3, none⟩ (.int .u64 0)).setCell ⟨w.heap.size, 4, none⟩ (.slice (some ⟨w3.heap.size + 1, 0, none⟩) 1 1)).heap.size = w3.heap.size := by simp [World.setCell]
      generalize ((((w3.setCell ⟨w.heap.size, 0, none⟩ (.int .i64 6)).setCell ⟨w.heap.size, 1, none⟩ (.string ⟨#[]⟩)).setCell ⟨w.heap.size, 2, none⟩ (.string s)).setCell ⟨w.heap.size, 3, none⟩ (.int .u64 0)).setCell ⟨w.heap.size, 4, none⟩ (.slice (some ⟨w3.heap.size + 1, 0, none⟩) 1 1) = w4 at *
      have hsz := HZ3.out
      have hl3 := HB3.out.lt
      refine bodyPost_ret (results_box_tmp rfl _ _ w.heap.size 48 _ rfl ((hB.alloc _).alloc _) _ Tryz.underlying48 rfl exSize) rfl ⟨grow_alloc (grow_alloc (grow_new HG3.out hO (Nat.le_refl _)) _) _, ?_⟩
      rcases H4.out with ⟨rfl, R2, hx, he2, hr2⟩ | ⟨rfl, err, R2, hx, hr2⟩
      · refine .inl ⟨_, R2, _, hx, rfl, ⟨.node 6 ⟨#[]⟩ s 0 (some ⟨w3.heap.size + 1, 0, none⟩) 1 [.node kd2 op2 nm2 nu2 A2 c2 ks2], rfl, rfl, ?_⟩, ((hr2.other hO HGL.out).alloc _).alloc _⟩
        refine one_in (w := w4.alloc (.cells (Ex.node kd2 op2 nm2 nu2 A2 c2 ks2).cells.toArray 48)) (w3.heap.size + 1) (by simp; omega) (by unfold I64; omega) HSI.out rfl (by omega) ?_
        exact he2.move ((Move.grown (Q := fun x => w.heap.size ≤ x) hO fun b hb hp => ⟨by omega, by simp; omega⟩).trans ((Move.grown (Q := fun x => w.heap.size ≤ x) (World.grownBy_alloc w4 _ none) fun b hb hp => ⟨hp, by simp⟩).trans (Move.grown (World.grownBy_alloc _ _ none) fun b hb hp => ⟨hp, by simp⟩)))
      · exact .inr ⟨err, R2, _, hx, rfl, ⟨.node 6 ⟨#[]⟩ s 0 (some ⟨w3.heap.size + 1, 0, none⟩) 1 [.node kd2 op2 nm2 nu2 A2 c2 ks2], rfl⟩, ((hr2.other hO HGL.out).step ((Below.refl _ _).alloc (Nat.le_refl _) _)).step ((Below.refl _ _).alloc (Nat.le_refl _) _)⟩
  · have HE : Hid (comparedX R = .error (3, R)) := by
      show comparedX R = _
      unfold comparedX
      rw [hs]
    have HR := Lib.hid h1
    obtain ⟨q0, q1, q2, q3, q4, z0, z1, z2, z3, z4, hl⟩ := box5 HB1.out
    clear hs h1
    go_wp2_with fail
    try simp only [Exit.inBlock, Exit.then]
    exact bodyPost_ret (results_box_tmp rfl _ _ w.heap.size 48 _ rfl (set5_box HB1.out) _ Tryz.underlying48 rfl exSize) rfl ⟨grow_new HG1.out set5_only (Nat.le_refl _), .inr ⟨3, R, _, HE.out, rfl, ⟨leafS ⟨#[]⟩, rfl⟩, .inl ⟨rfl, HR.out.other set5_only HGL.out⟩⟩⟩
end

end Go.Proofs.YtfklajkmikanbaaGreatDoor.LandedP
