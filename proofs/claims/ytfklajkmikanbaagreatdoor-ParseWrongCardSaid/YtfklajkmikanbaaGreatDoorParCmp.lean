/- What the landed parser's comparison gives. Condition: what the start lays, as far as the library reads it. -/
import Derived.Test.YtfklajkmikanbaaGreatDoorPart13
import Derived.Test.YtfklajkmikanbaaGreatDoorPart15
import Derived.Test.YtfklajkmikanbaaGreatDoorParNumb
namespace Go.Proofs.YtfklajkmikanbaaGreatDoor.LandedP
open Go.RowKit

section
variable {w : World} {g : Nat} {E : Env} {R : List Tk}

/-- The two sides of a comparison, just laid. -/
theorem cmp_in {P : Nat → Prop} {w w1 : World} {s : List UInt8} {T : TypeId} {a b : Ex} (k : Nat) (hk : k = w.heap.size) (hs : s.length ≤ 2) (hw : w1 = w.alloc (.cells (a.cells.toArray ++ b.cells.toArray) T)) (hP : P k) (ha : ExP P w1 a) (hb : ExP P w1 b) :
    ExP P w1 (.node 4 (strOf s) ⟨#[]⟩ 0 (some ⟨k, 0, none⟩) 2 [a, b]) := by
  subst hw
  refine .mk (.new k hk (by simp) (by simp [Ex.cells_len]) hP) (fun x hx => ?_) (Nat.le_refl _) (by decide) (by unfold I64; omega) (Nat.le_trans (Nat.le_of_eq (show (strOf s).size = s.length from by simp [strOf, ByteArray.size])) (Nat.le_trans hs (by decide))) (by decide) (by unfold U64; omega)
  rcases List.mem_cons.1 hx with rfl | hx
  · exact ha
  · obtain rfl : x = b := by simpa using hx
    exact hb

theorem op_short : ∀ {R : List Tk} {s : List UInt8}, opH R opsL = some s → s.length ≤ 2 := by
  intro R s h
  simp only [opsL, opH] at h
  split at h
  · cases h; decide
  split at h
  · cases h; decide
  split at h
  · cases h; decide
  split at h
  · cases h; decide
  split at h
  · cases h; decide
  split at h
  · cases h; decide
  cases h

set_option maxRecDepth 100000 in
set_option maxHeartbeats 4000000 in
theorem comparison_any (hE : ∀ W, E.laid W → Laid W) (h : RdrAt 66 w g E R Flt.none) :
    Calls Tryz.prog 68 #[.pointer (some ⟨g, 0, none⟩)] w (Gave 66 g E (ExNew w.heap.size) ExShape (comparisonX R) w) := by
  have HNA := Lib.hid (compared_any hE (h.alloc (.cells exZ 48)))
  have HGL := Lib.hid h.lt
  clear h
  go_enter Tryz.func68, Tryz.ntmps68
  go_wp2_with fail
  refine HNA.out.mono ?_
  rintro e w1 ⟨hg1, h1⟩
  have HB1 := Lib.hid (box_only (Box.new w 48 exZ) (by have := HGL.out; omega) hg1)
  have HG1 := Lib.hid (only_trans (only_alloc w (.cells exZ 48) g) hg1)
  clear HNA hg1
  rcases h1 with ⟨a, R1, v, hx, rfl, ⟨e1, rfl, rfl, hin⟩, hr⟩ | ⟨err, R1, v, hx, rfl, ⟨e1, rfl⟩, hr⟩
  · have HX := Lib.hid hx
    have HI1 := Lib.hid (hin.move (Q := fun x => w.heap.size < x) (Move.of _ fun b hb hp => by simp at hp; omega))
    have hgl := HGL.out
    have hl1 := HB1.out.lt
    have HOP := Lib.hid (op_any (hr.alloc (.cells e1.cells.toArray 48)))
    have HBL1 := Lib.hid (Box.new w1 48 e1.cells.toArray)
    clear hx hin hr
    obtain ⟨kd, op, nm, nu, A, c, ks⟩ := e1
    unfold Ex.val
    unfold Ex.cells at HOP HBL1
    dsimp only at HOP HBL1 ⊢
    go_wp2_with fail
    refine HOP.out.mono ?_
    rintro e w2 ⟨hg2, h2⟩
    have HB2 := Lib.hid (box_only (HB1.out.alloc (.cells (Ex.node kd op nm nu A c ks).cells.toArray 48)) (by omega) hg2)
    have HBL2 := Lib.hid (box_only HBL1.out (by omega) hg2)
    have HG2 := Lib.hid (only_trans (grow_alloc HG1.out (.cells (Ex.node kd op nm nu A c ks).cells.toArray 48)) hg2)
    have HI2 := Lib.hid (HI1.out.move (Q := fun x => w.heap.size < x) ((Move.grown (Q := fun x => w.heap.size < x) (World.grownBy_alloc w1 (.cells (Ex.node kd op nm nu A c ks).cells.toArray 48) none) fun b hb hp => ⟨hp, by simp⟩).trans (Move.grown hg2 fun b hb hp => ⟨hp, by simp; omega⟩)))
    clear HOP hg2 HB1 HBL1 HG1 HI1
    rcases h2 with ⟨s, hs, rfl, h2⟩ | ⟨hs, rfl, h2⟩
    · have HE : Hid (comparisonX R = match numberX R1.tail with
          | .error x => .error x
          | .ok (b, R2) => .ok (.node 4 (strOf s) ⟨#[]⟩ 0 none 0 [(Ex.node kd op nm nu A c ks).bare, b], R2)) := by
        show comparisonX R = _
        unfold comparisonX
        rw [HX.out]
        dsimp only
        rw [hs]
        rfl
      have HSS := Lib.hid (op_short hs)
      have HNU := Lib.hid (number_any hE h2)
      clear hs h2 HX
      go_wp2_with fail
      refine HNU.out.mono ?_
      rintro e w3 ⟨hg3, h3⟩
      have HK2 := Lib.hid HBL2.out.lt
      have HB3 := Lib.hid (box_only HB2.out (by omega) hg3)
      have HBL3 := Lib.hid (box_only HBL2.out (by omega) hg3)
      have HG3 := Lib.hid (only_trans HG2.out hg3)
      have HI3 := Lib.hid (HI2.out.move (Q := fun x => w.heap.size < x) (Move.grown hg3 fun b hb hp => ⟨hp, by simp; omega⟩))
      have H3 : Hid (∃ (b : Bool) (e2 : Ex), e = .returned (.tuple #[e2.val, .bool b]) ∧ ((b = true ∧ ∃ R2, comparisonX R = .ok (.node 4 (strOf s) ⟨#[]⟩ 0 none 0 [(Ex.node kd op nm nu A c ks).bare, e2.bare], R2) ∧ ExP (fun x => w.heap.size < x) w3 e2 ∧ RdrAt 66 w3 g E R2 Flt.none) ∨ (b = false ∧ ∃ err R2, comparisonX R = .error (err, R2) ∧ Wrong 66 w3 g E err R2))) := by
        have he := HE.out
        have hz := HK2.out
        rcases h3 with ⟨a, R2, v, hx, rfl, ⟨e2, rfl, rfl, hin⟩, hr⟩ | ⟨err, R2, v, hx, rfl, ⟨e2, rfl⟩, hr⟩
        · rw [hx] at he
          exact ⟨true, e2, rfl, .inl ⟨rfl, R2, he, hin.move (Move.of _ fun b hb hp => by omega), hr⟩⟩
        · rw [hx] at he
          exact ⟨false, e2, rfl, .inr ⟨rfl, err, R2, he, hr⟩⟩
      clear h3 hg3 HB2 HBL2 HG2 HI2 HNU HE
      obtain ⟨b, e2, rfl, H4⟩ := H3.out
      have H4 := Lib.hid H4
      clear H3
      obtain ⟨kd2, op2, nm2, nu2, A2, c2, ks2⟩ := e2
      unfold Ex.val
      dsimp only
      obtain ⟨q0, q1, q2, q3, q4, z0, z1, z2, z3, z4, hl⟩ := box5 HB3.out
      obtain ⟨p0, p1, p2, p3, p4, y0, y1, y2, y3, y4, hl2⟩ := box5 HBL3.out
      go_wp2_with fail
      try simp only [Exit.inBlock, Exit.then]
      have hB := (set5_box (a0 := .int .i64 4) (a1 := .string (strOf s)) (a2 := .string ⟨#[]⟩) (a3 := .int .u64 0) (a4 := .slice (some ⟨w3.heap.size + 1, 0, none⟩) 2 2) HB3.out)
      have hO : w3.grownBy _ (some w.heap.size) := set5_only (w := w3) (g := w.heap.size) (a0 := .int .i64 4) (a1 := .string (strOf s)) (a2 := .string ⟨#[]⟩) (a3 := .int .u64 0) (a4 := .slice (some ⟨w3.heap.size + 1, 0, none⟩) 2 2)
      have hs : (((((w3.setCell ⟨w.heap.size, 0, none⟩ (.int .i64 4)).setCell ⟨w.heap.size, 1, none⟩ (.string (strOf s))).setCell ⟨w.heap.size, 2, none⟩ (.string ⟨#[]⟩)).setCell ⟨w.heap.size, 3, none⟩ (.int .u64 0)).setCell ⟨w.heap.size, 4, none⟩ (.slice (some ⟨w3.heap.size + 1, 0, none⟩) 2 2)).heap.size = w3.heap.size := by simp [World.setCell]
      generalize ((((w3.setCell ⟨w.heap.size, 0, none⟩ (.int .i64 4)).setCell ⟨w.heap.size, 1, none⟩ (.string (strOf s))).setCell ⟨w.heap.size, 2, none⟩ (.string ⟨#[]⟩)).setCell ⟨w.heap.size, 3, none⟩ (.int .u64 0)).setCell ⟨w.heap.size, 4, none⟩ (.slice (some ⟨w3.heap.size + 1, 0, none⟩) 2 2) = w4 at *
      have hl3 := HB3.out.lt
      refine bodyPost_ret (results_box_tmp rfl _ _ w.heap.size 48 _ rfl ((hB.alloc _).alloc _) _ Tryz.underlying48 rfl exSize) rfl ⟨grow_alloc (grow_alloc (grow_new HG3.out hO (Nat.le_refl _)) _) _, ?_⟩
      rcases H4.out with ⟨rfl, R2, hx, he2, hr2⟩ | ⟨rfl, err, R2, hx, hr2⟩
      · refine .inl ⟨_, R2, _, hx, rfl, ⟨.node 4 (strOf s) ⟨#[]⟩ 0 (some ⟨w3.heap.size + 1, 0, none⟩) 2 [.node kd op nm nu A c ks, .node kd2 op2 nm2 nu2 A2 c2 ks2], rfl, rfl, ?_⟩, ((hr2.other hO HGL.out).alloc _).alloc _⟩
        have hmv : ∀ o1 o2, Move (fun x => w.heap.size < x) (fun x => w.heap.size ≤ x) w3 ((w4.alloc o1).alloc o2) := fun o1 o2 => (Move.grown (Q := fun x => w.heap.size ≤ x) hO fun b hb hp => ⟨by omega, by simp; omega⟩).trans ((Move.grown (Q := fun x => w.heap.size ≤ x) (World.grownBy_alloc w4 _ none) fun b hb hp => ⟨hp, by simp⟩).trans (Move.grown (World.grownBy_alloc _ _ none) fun b hb hp => ⟨hp, by simp⟩))
        exact cmp_in (w := w4.alloc (.cells (Ex.node kd2 op2 nm2 nu2 A2 c2 ks2).cells.toArray 48)) (w3.heap.size + 1) (by simp; omega) HSS.out rfl (by omega) (HI3.out.move (hmv _ _)) (he2.move (hmv _ _))
      · exact .inr ⟨err, R2, _, hx, rfl, ⟨.node 4 (strOf s) ⟨#[]⟩ 0 (some ⟨w3.heap.size + 1, 0, none⟩) 2 [.node kd op nm nu A c ks, .node kd2 op2 nm2 nu2 A2 c2 ks2], rfl⟩, ((hr2.other hO HGL.out).step ((Below.refl _ _).alloc (Nat.le_refl _) _)).step ((Below.refl _ _).alloc (Nat.le_refl _) _)⟩
    · have HE : Hid (comparisonX R = .error (3, R1)) := by
        show comparisonX R = _
        unfold comparisonX
        rw [HX.out]
        dsimp only
        rw [hs]
      have HR := Lib.hid h2
      obtain ⟨q0, q1, q2, q3, q4, z0, z1, z2, z3, z4, hl⟩ := box5 HB2.out
      clear hs h2 HX
      go_wp2_with fail
      try simp only [Exit.inBlock, Exit.then]
      exact bodyPost_ret (results_box_tmp rfl _ _ w.heap.size 48 _ rfl (set5_box HB2.out) _ Tryz.underlying48 rfl exSize) rfl ⟨grow_new HG2.out set5_only (Nat.le_refl _), .inr ⟨3, R1, _, HE.out, rfl, ⟨.node 0 ⟨#[]⟩ ⟨#[]⟩ 0 none 0 [], rfl⟩, .inl ⟨rfl, HR.out.other set5_only HGL.out⟩⟩⟩
  · have HE : Hid (comparisonX R = .error (err, R1)) := by
      show comparisonX R = _
      unfold comparisonX
      rw [hx]
    have HR := Lib.hid hr
    obtain ⟨q0, q1, q2, q3, q4, z0, z1, z2, z3, z4, hl⟩ := box5 HB1.out
    clear hx hr
    obtain ⟨kd, op, nm, nu, A, c, ks⟩ := e1
    unfold Ex.val
    dsimp only
    go_wp2_with fail
    try simp only [Exit.inBlock, Exit.then]
    exact bodyPost_ret (results_box_tmp rfl _ _ w.heap.size 48 _ rfl ((set5_box HB1.out).alloc _) _ Tryz.underlying48 rfl exSize) rfl ⟨grow_alloc (grow_new HG1.out set5_only (Nat.le_refl _)) _, .inr ⟨err, R1, _, HE.out, rfl, ⟨.node 0 ⟨#[]⟩ ⟨#[]⟩ 0 none 0 [], rfl⟩, (HR.out.other set5_only HGL.out).step ((Below.refl _ _).alloc (Nat.le_refl _) _)⟩⟩
end

end Go.Proofs.YtfklajkmikanbaaGreatDoor.LandedP
