/- Texts of mine put together (a claim has at most so many files): ParAnds, ParWhole, ParGoes. -/
import Derived.Test.YtfklajkmikanbaaGreatDoorPart13
/- What the landed parser's ands and whole give. No condition but sizes. -/
namespace Go.Proofs.YtfklajkmikanbaaGreatDoor.LandedP
open Go.RowKit

/-- A level, as it lies. -/
structure LvP (P : Nat → Prop) (w : World) (x : Lvl) : Prop where
  or : SlP P w 5 Ex.cells (ExP P w) x.oA x.oc x.or
  and : SlP P w 5 Ex.cells (ExP P w) x.aA x.ac x.and
  one : x.or.length ≤ 1 ∧ x.and.length ≤ 1
  nots : x.nots ≤ 1000000
def Lvl.bare (x : Lvl) : Lvl := ⟨none, 0, x.or.map Ex.bare, none, 0, x.and.map Ex.bare, x.nots⟩
theorem LvP.move {P Q : Nat → Prop} {w w' : World} {x : Lvl} (h : LvP P w x) (hm : Move P Q w w') : LvP Q w' x := ⟨h.or.move hm fun _ _ h => h.move hm, h.and.move hm fun _ _ h => h.move hm, h.one, h.nots⟩

theorem notsE_add : ∀ (n : Nat) (e : Ex), notsE (n + 1) e = notsE n (notE e) := fun _ _ => rfl
theorem not_bare (A : Option Addr) (c : Nat) (a : Ex) : (Ex.node 3 ⟨#[]⟩ ⟨#[]⟩ 0 A c [a]).bare = notE a.bare := rfl

section
variable {P : Nat → Prop} {w : World}

/-- The loop's state. -/
def AndSt (P : Nat → Prop) (w : World) (x : Lvl) (N : Nat) (X : Ex) (k : Nat) (W : World) : Prop := ∃ e : Ex, X = notsE (N - k) e.bare ∧ Box W (w.heap.size + 1) 48 e.cells.toArray ∧ ExP (fun b => P b ∧ b ≠ w.heap.size + 1 ∧ b ≠ w.heap.size + 2) W e ∧
  Box W w.heap.size 137 x.cells.toArray ∧ Box W (w.heap.size + 2) 48 #[.int .i64 0, .string ⟨#[]⟩, .string ⟨#[]⟩, .int .u64 0, .slice none 0 0] ∧ Below w.heap.size w W

set_option maxRecDepth 100000 in
set_option maxHeartbeats 4000000 in
theorem ands_any (hP : ∀ b, w.heap.size ≤ b → P b) (x : Lvl) (e : Ex) (hx : LvP P w x) (he : ExP P w e) :
    Calls Tryz.prog 87 #[x.val, e.val] w (Joined P (x.bare.ands e.bare) w) := by
  have HP := Lib.hid hP
  have HX := Lib.hid hx
  obtain ⟨N, hN⟩ : ∃ N, N = x.nots := ⟨_, rfl⟩
  have hN1 : N ≤ 1000000 := by rw [hN]; exact hx.nots
  obtain ⟨X, hX⟩ : ∃ X, X = notsE N e.bare := ⟨_, rfl⟩
  have HR : Hid (x.bare.ands e.bare = joinedE 2 (x.and.map Ex.bare) X) := by
    rw [hX, hN]; rfl
  have HS : Hid (∀ W, W = ((w.alloc (.cells x.cells.toArray 137)).alloc (.cells e.cells.toArray 48)).alloc (.cells #[.int .i64 0, .string ⟨#[]⟩, .string ⟨#[]⟩, .int .u64 0, .slice none 0 0] 48) → AndSt P w x N X 0 W) := by
    intro W hW
    subst hW
    refine ⟨e, by rw [hX]; rfl, (new2 _ _ _ _).alloc _, he.move ?_, ((Box.new _ _ _).alloc _).alloc _, new3 _ _ _ _ _, below3 _ _ _ _⟩
    exact Move.below (below3 _ _ _ _) fun b hb hp => ⟨hp, by omega, by omega⟩
  have HM : Hid (∀ k (wr : World), AndSt P w x N X k wr → k < N → ∃ (kd : Int) (op nm : ByteArray) (nu : Int) (A : Option Addr) (c : Nat) (ks : List Ex), Box wr (w.heap.size + 1) 48 #[.int .i64 kd, .string op, .string nm, .int .u64 nu, .slice A ks.length c] ∧
      ∀ W, W = (((((wr.setCell ⟨w.heap.size + 1, 0, none⟩ (.int .i64 3)).setCell ⟨w.heap.size + 1, 1, none⟩ (.string ⟨#[]⟩)).setCell ⟨w.heap.size + 1, 2, none⟩ (.string ⟨#[]⟩)).setCell ⟨w.heap.size + 1, 3, none⟩ (.int .u64 0)).setCell ⟨w.heap.size + 1, 4, none⟩ (.slice (some ⟨wr.heap.size, 0, none⟩) 1 1)).alloc (.cells #[.int .i64 kd, .string op, .string nm, .int .u64 nu, .slice A ks.length c] 48) → AndSt P w x N X (k + 1) W) := by
    rintro k wr ⟨e', h1, h2, h3, h4, h5, h6⟩ hk
    have hl2 := h2.lt
    have hl5 := h5.lt
    obtain ⟨kd, op, nm, nu, A, c, ks⟩ := e'
    refine ⟨kd, op, nm, nu, A, c, ks, h2, ?_⟩
    have hB := set5_box (a0 := .int .i64 3) (a1 := .string ⟨#[]⟩) (a2 := .string ⟨#[]⟩) (a3 := .int .u64 0) (a4 := .slice (some ⟨wr.heap.size, 0, none⟩) 1 1) (show Box wr (w.heap.size + 1) 48 #[.int .i64 kd, .string op, .string nm, .int .u64 nu, .slice A ks.length c] from h2)
    have hO : wr.grownBy (((((wr.setCell ⟨w.heap.size + 1, 0, none⟩ (.int .i64 3)).setCell ⟨w.heap.size + 1, 1, none⟩ (.string ⟨#[]⟩)).setCell ⟨w.heap.size + 1, 2, none⟩ (.string ⟨#[]⟩)).setCell ⟨w.heap.size + 1, 3, none⟩ (.int .u64 0)).setCell ⟨w.heap.size + 1, 4, none⟩ (.slice (some ⟨wr.heap.size, 0, none⟩) 1 1)) (some (w.heap.size + 1)) := set5_only
    have hs : (((((wr.setCell ⟨w.heap.size + 1, 0, none⟩ (.int .i64 3)).setCell ⟨w.heap.size + 1, 1, none⟩ (.string ⟨#[]⟩)).setCell ⟨w.heap.size + 1, 2, none⟩ (.string ⟨#[]⟩)).setCell ⟨w.heap.size + 1, 3, none⟩ (.int .u64 0)).setCell ⟨w.heap.size + 1, 4, none⟩ (.slice (some ⟨wr.heap.size, 0, none⟩) 1 1)).heap.size = wr.heap.size := by simp [World.setCell]
    generalize ((((wr.setCell ⟨w.heap.size + 1, 0, none⟩ (.int .i64 3)).setCell ⟨w.heap.size + 1, 1, none⟩ (.string ⟨#[]⟩)).setCell ⟨w.heap.size + 1, 2, none⟩ (.string ⟨#[]⟩)).setCell ⟨w.heap.size + 1, 3, none⟩ (.int .u64 0)).setCell ⟨w.heap.size + 1, 4, none⟩ (.slice (some ⟨wr.heap.size, 0, none⟩) 1 1) = w4 at *
    rintro W rfl
    have hm : Move (fun b => P b ∧ b ≠ w.heap.size + 1 ∧ b ≠ w.heap.size + 2) (fun b => P b ∧ b ≠ w.heap.size + 1 ∧ b ≠ w.heap.size + 2) wr (w4.alloc (.cells #[.int .i64 kd, .string op, .string nm, .int .u64 nu, .slice A ks.length c] 48)) :=
      (Move.grown hO fun b hb hp => ⟨hp, fun e => hp.2.1 (Option.some.inj e).symm⟩).trans (Move.grown (World.grownBy_alloc w4 _ none) fun b hb hp => ⟨hp, by simp⟩)
    refine ⟨.node 3 ⟨#[]⟩ ⟨#[]⟩ 0 (some ⟨wr.heap.size, 0, none⟩) 1 [.node kd op nm nu A c ks], ?_, hB.alloc _, ?_, (box_only h4 (by omega) hO).alloc _, (box_only h5 (by omega) hO).alloc _, (below_only h6 (by omega) h6.size hO).alloc (Nat.le_trans h6.size (Nat.le_of_eq hs.symm)) _⟩
    · rw [h1, show N - k = (N - (k + 1)) + 1 from by omega, notsE_add, not_bare]
    · exact one_in (w := w4) wr.heap.size hs.symm (by unfold I64; omega) (by show (0 : Nat) ≤ _; omega) rfl ⟨HP.out _ h6.size, by omega, by omega⟩ (h3.move hm)
  have HJ : Hid (∀ (wr : World), AndSt P w x N X N wr → ∃ (kd : Int) (op nm : ByteArray) (nu : Int) (A : Option Addr) (c : Nat) (ks : List Ex), Box wr (w.heap.size + 1) 48 #[.int .i64 kd, .string op, .string nm, .int .u64 nu, .slice A ks.length c] ∧
      Calls Tryz.prog 88 #[.int .i64 2, .slice x.aA x.and.length x.ac, .agg #[.int .i64 kd, .string op, .string nm, .int .u64 nu, .slice A ks.length c]] wr (Joined (fun b => P b ∧ b ≠ w.heap.size + 1 ∧ b ≠ w.heap.size + 2) (x.bare.ands e.bare) wr)) := by
    rintro wr ⟨e', h1, h2, h3, h4, h5, h6⟩
    have hl5 := h5.lt
    have hj := joined_any (w := wr) (P := fun b => P b ∧ b ≠ w.heap.size + 1 ∧ b ≠ w.heap.size + 2) (fun b hb => ⟨HP.out _ (Nat.le_trans h6.size hb), by omega, by omega⟩) 2 (by unfold I64; omega) x.aA x.ac x.and e' (HX.out.and.move (Move.below h6 fun b hb hp => ⟨hp, by omega, by omega⟩) fun a _ ha => ha.move (Move.below h6 fun b hb hp => ⟨hp, by omega, by omega⟩)) h3 (by have := HX.out.one; omega)
    rw [Nat.sub_self] at h1
    rw [show e'.bare = X from h1.symm, ← HR.out] at hj
    obtain ⟨kd, op, nm, nu, A, c, ks⟩ := e'
    exact ⟨kd, op, nm, nu, A, c, ks, h2, hj⟩
  have HBX : Hid (∀ k (wr : World), AndSt P w x N X k wr → Box wr w.heap.size 137 x.cells.toArray ∧ Box wr (w.heap.size + 2) 48 #[.int .i64 0, .string ⟨#[]⟩, .string ⟨#[]⟩, .int .u64 0, .slice none 0 0] ∧ Below w.heap.size w wr) := fun k wr ⟨_, _, _, _, h4, h5, h6⟩ => ⟨h4, h5, h6⟩
  clear hP hx he hX HR HX
  generalize x.bare.ands e.bare = Y at HJ ⊢
  obtain ⟨oA, oc, ors, aA, ac, ands, nots⟩ := x
  obtain ⟨kd0, op0, nm0, nu0, A0, c0, ks0⟩ := e
  obtain rfl : N = nots := hN
  unfold Lvl.val Ex.val
  unfold Lvl.cells at HS HBX
  unfold Ex.cells at HS
  dsimp only at HS HJ HBX ⊢
  go_enter Tryz.func87, Tryz.ntmps87
  go_wp2_with fail
  go_loopw [7] (fun v wr => ∃ k : Nat, v = .int .i64 (k : Int) ∧ k ≤ N ∧ Hid (AndSt P w ⟨oA, oc, ors, aA, ac, ands, N⟩ N X k wr)) (fun v _ => N - (intOf v).toNat)
  case atStart => exact ⟨0, rfl, Nat.zero_le _, HS.out _ rfl⟩
  case round =>
    obtain ⟨k, rfl, hk, HK⟩ := hrel
    clear HS
    by_cases hlt : k < N
    · obtain ⟨kd, op, nm, nu, A, c, ks, hb, hn⟩ := HM.out k wr HK.out hlt
      have HN := Lib.hid hn
      obtain ⟨q0, q1, q2, q3, q4, z0, z1, z2, z3, z4, hl⟩ := box5 hb
      clear hn hb HM HJ HBX
      go_wp2
      go_roundw
      case rel => exact ⟨k + 1, by go_num, by omega, HN.out _ rfl⟩
      case measure => simp [intOf]; omega
    · obtain rfl : k = N := by omega
      obtain ⟨kd, op, nm, nu, A, c, ks, hb, hj⟩ := HJ.out wr HK.out
      obtain ⟨hb1, hb2, hb3⟩ := HBX.out _ wr HK.out
      have HB2 := Lib.hid hb2
      have HB3 := Lib.hid hb3
      have HJ2 := Lib.hid hj
      obtain ⟨q0, q1, q2, q3, q4, z0, z1, z2, z3, z4, hl⟩ := box5 hb
      have p1 := hb1.cell 1
      have pl := hb1.lt
      simp only [List.getElem?_toArray, List.getElem?_cons_zero, List.getElem?_cons_succ] at p1
      clear hb hb1 hb2 hb3 hj HM HJ HBX HK
      go_wp2_with fail
      refine HJ2.out.mono ?_
      rintro e w2 ⟨h1, r, rfl, rfl, h2⟩
      have HB4 := Lib.hid (HB2.out.step h1)
      have HN4 := Lib.hid (below_step HB3.out (Nat.le_refl _) h1)
      have HE4 := Lib.hid h2
      obtain ⟨kd5, op5, nm5, nu5, A5, c5, ks5⟩ := r
      unfold Ex.val
      dsimp only
      clear h1 h2 HJ2 q0 q1 q2 q3 q4 z0 z1 z2 z3 z4 hl p1 pl
      obtain ⟨q0, q1, q2, q3, q4, z0, z1, z2, z3, z4, hl⟩ := box5 HB4.out
      go_wp2_with fail
      try simp only [Exit.inBlock, Exit.then]
      refine bodyPost_ret (results_box rfl _ _ (w.heap.size + 2) 48 _ rfl (set5_box HB4.out) _ Tryz.underlying48 rfl exSize) rfl ⟨below_only HN4.out (by omega) HN4.out.size set5_only, _, rfl, rfl, ?_⟩
      exact HE4.out.move (Move.grown set5_only fun b hb hp => ⟨hp.1, fun e => hp.2.2 (Option.some.inj e).symm⟩)
end

end Go.Proofs.YtfklajkmikanbaaGreatDoor.LandedP

/- What the landed parser's whole gives. No condition but sizes. -/
namespace Go.Proofs.YtfklajkmikanbaaGreatDoor.LandedP
open Go.RowKit

theorem box_after {w1 : World} {g B : Nat} {t : TypeId} {cs : Array Value} (h : Box w1 g t cs) (hg : g < B) (i : Nat) (u : Value) (hu : cs[i]? = some u) (W : World) (hW : Below B w1 W) : W.cell? ⟨g, i, none⟩ = some u := by
  rw [hW.cell (p := ⟨g, i, none⟩) hg, h.cell i]
  exact hu

section
variable {P : Nat → Prop} {w : World}

set_option maxRecDepth 100000 in
set_option maxHeartbeats 4000000 in
theorem whole_any (hP : ∀ b, w.heap.size ≤ b → P b) (x : Lvl) (e : Ex) (hx : LvP P w x) (he : ExP P w e) :
    Calls Tryz.prog 70 #[x.val, e.val] w (Joined P (x.bare.whole e.bare) w) := by
  have HR : Hid (x.bare.whole e.bare = joinedE 1 (x.or.map Ex.bare) (x.bare.ands e.bare)) := rfl
  obtain ⟨w0, hw0⟩ : ∃ w0, w0 = ((w.alloc (.cells x.cells.toArray 137)).alloc (.cells e.cells.toArray 48)).alloc (.cells #[.int .i64 0, .string ⟨#[]⟩, .string ⟨#[]⟩, .int .u64 0, .slice none 0 0] 48) := ⟨_, rfl⟩
  have hb0 : Below w.heap.size w w0 := by rw [hw0]; exact below3 _ _ _ _
  have hz : w0.heap.size = w.heap.size + 3 := by rw [hw0]; simp
  have HBL : Box w0 w.heap.size 137 x.cells.toArray := by rw [hw0]; exact ((Box.new _ _ _).alloc _).alloc _
  have HBE : Box w0 (w.heap.size + 1) 48 e.cells.toArray := by rw [hw0]; exact (new2 _ _ _ _).alloc _
  have HBR := Lib.hid (show Box w0 (w.heap.size + 2) 48 #[.int .i64 0, .string ⟨#[]⟩, .string ⟨#[]⟩, .int .u64 0, .slice none 0 0] by rw [hw0]; exact new3 _ _ _ _ _)
  have HBW := Lib.hid hb0
  have hmv : ∀ W, Below (w.heap.size + 2) w0 W → Move P (fun b => P b ∧ b ≠ w.heap.size + 2) w W := fun W hW => Move.below (hb0.trans (hW.mono (by omega))) fun b hb hp => ⟨hp, by omega⟩
  have HA : Hid (∀ W, Below (w.heap.size + 2) w0 W → Calls Tryz.prog 87 #[x.val, e.val] W (Joined (fun b => P b ∧ b ≠ w.heap.size + 2) (x.bare.ands e.bare) W)) := fun W hW =>
    ands_any (fun b hb => ⟨hP b (by have := hW.size; omega), by have := hW.size; omega⟩) x e (hx.move (hmv W hW)) (he.move (hmv W hW))
  have HJ : Hid (∀ W r, Below (w.heap.size + 2) w0 W → r.bare = x.bare.ands e.bare → ExP (fun b => P b ∧ b ≠ w.heap.size + 2) W r → Calls Tryz.prog 88 #[.int .i64 1, .slice x.oA x.or.length x.oc, r.val] W (Joined (fun b => P b ∧ b ≠ w.heap.size + 2) (x.bare.whole e.bare) W)) := fun W r hW hr hin => by
    have := joined_any (w := W) (P := fun b => P b ∧ b ≠ w.heap.size + 2) (fun b hb => ⟨hP b (by have := hW.size; omega), by have := hW.size; omega⟩) 1 (by unfold I64; omega) x.oA x.oc x.or r (hx.or.move (hmv W hW) fun a _ ha => ha.move (hmv W hW)) hin (by have := hx.one; omega)
    rw [hr] at this
    exact this
  have HW0 := Lib.hid hw0
  have HZ := Lib.hid hz
  clear hx he hP HR hw0 hb0 hmv hz
  generalize x.bare.whole e.bare = Y at HJ ⊢
  generalize x.bare.ands e.bare = Z at HA HJ
  obtain ⟨oA, oc, ors, aA, ac, ands, N⟩ := x
  obtain ⟨kd0, op0, nm0, nu0, A0, c0, ks0⟩ := e
  unfold Lvl.val Ex.val at *
  unfold Lvl.cells at HBL HW0
  unfold Ex.cells at HBE HW0
  dsimp only at HA HJ HBL HBE HW0 ⊢
  have g0 := box_after HBL (show w.heap.size < w.heap.size + 2 by omega) 0 _ rfl
  have g1 := box_after HBL (show w.heap.size < w.heap.size + 2 by omega) 1 _ rfl
  have g2 := box_after HBL (show w.heap.size < w.heap.size + 2 by omega) 2 _ rfl
  have k0 := box_after HBE (show w.heap.size + 1 < w.heap.size + 2 by omega) 0 _ rfl
  have k1 := box_after HBE (show w.heap.size + 1 < w.heap.size + 2 by omega) 1 _ rfl
  have k2 := box_after HBE (show w.heap.size + 1 < w.heap.size + 2 by omega) 2 _ rfl
  have k3 := box_after HBE (show w.heap.size + 1 < w.heap.size + 2 by omega) 3 _ rfl
  have k4 := box_after HBE (show w.heap.size + 1 < w.heap.size + 2 by omega) 4 _ rfl
  have hd : Below (w.heap.size + 2) w0 w0.drew := (Below.refl _ _).drew
  clear HBL HBE
  go_enter Tryz.func70, Tryz.ntmps70
  go_upto_region 1 with (fail)
  rw [← HW0.out]
  clear HW0
  simp only [Nat.add_assoc, Nat.reduceAdd]
  go_region_held3 (fun W => Below (w.heap.size + 2) w0 W) (first | exact hd | exact n1 | exact n2 | (refine below_set (Nat.le_refl _) (below_set (Nat.le_refl _) (below_set (Nat.le_refl _) (below_set (Nat.le_refl _) (below_set (Nat.le_refl _) ?_)))); assumption)) (first
    | (go_at_call 88; refine (HJ.out _ _ n1 HR1.out HI1.out).mono ?_; rintro e x2 ⟨hb2, r2, hr2, rfl, hi2⟩; have n2 : Below (w.heap.size + 2) w0 x2 := n1.trans (hb2.mono (by have := n1.size; have := HZ.out; omega)); have HR2 := Lib.hid hr2; have HI2 := Lib.hid hi2; clear hr2 hi2; have HBR2 := Lib.hid (HBR1.out.step hb2); obtain ⟨q0, q1, q2, q3, q4, z0, z1, z2, z3, z4, hl⟩ := box5 HBR2.out; obtain ⟨kd, op, nm, nu, A, c, ks⟩ := r2; simp only [Ex.val])
    | (go_at_call 87; refine (HA.out _ hd).mono ?_; rintro e x1 ⟨hb1, r1, hr1, rfl, hi1⟩; have n1 : Below (w.heap.size + 2) w0 x1 := hd.trans (hb1.mono (by have := hd.size; have := HZ.out; omega)); have HR1 := Lib.hid hr1; have HI1 := Lib.hid hi1; clear hr1 hi1; have HBR1 := Lib.hid (HBR.out.drew.step hb1)))
  all_goals
    go_wp2_with fail
    try simp only [Exit.inBlock, Exit.then]
    have hbw : Below w.heap.size w x2 := HBW.out.trans (n2.mono (by omega))
    refine bodyPost_ret (results_box rfl _ _ (w.heap.size + 2) 48 _ rfl (set5_box HBR2.out) _ Tryz.underlying48 rfl exSize) rfl ⟨below_only hbw (by omega) hbw.size set5_only, _, HR2.out, rfl, ?_⟩
    exact HI2.out.move (Move.grown set5_only fun b hb hp => ⟨hp.1, fun e => hp.2 (Option.some.inj e).symm⟩)
end

end Go.Proofs.YtfklajkmikanbaaGreatDoor.LandedP

/- What the landed parser's goesOn gives. No condition but sizes. -/
namespace Go.Proofs.YtfklajkmikanbaaGreatDoor.LandedP
open Go.RowKit

/-- It goes on, or not: the level in block k, and the operand. -/
def Went (P : Nat → Prop) (g k : Nat) (E : Env) (R : List Tk) (x : Lvl) (e : Ex) (w : World) : Ending → World → Prop := fun r w' =>
  (∃ x' x2 : Lvl, goesX x.bare e.bare R = some x' ∧ x2.bare = x' ∧ r = .returned (.bool true) ∧ Box w' k 137 x2.cells.toArray ∧ LvP P w' x2 ∧ RdrAt 66 w' g E R.tail Flt.none ∧ ∃ w1, w.grownBy w1 (some g) ∧ w1.grownBy w' (some k)) ∨
  (goesX x.bare e.bare R = none ∧ r = .returned (.bool false) ∧ RdrAt 66 w' g E R Flt.none ∧ w.grownBy w' (some g))

section
variable {P : Nat → Prop} {w : World} {g k : Nat} {E : Env} {R : List Tk}

theorem one_sl {P : Nat → Prop} {w : World} {T : TypeId} {a : Ex} (j : Nat) (hj : j = w.heap.size) (hP : P j) (ha : ExP P (w.alloc (.cells a.cells.toArray T)) a) : SlP P (w.alloc (.cells a.cells.toArray T)) 5 Ex.cells (ExP P (w.alloc (.cells a.cells.toArray T))) (some ⟨j, 0, none⟩) 1 [a] :=
  ⟨.new j hj (by simp) (by simp [Ex.cells_len]) hP, fun x hx => by obtain rfl : x = a := by simpa using hx
                                                                   exact ha, Nat.le_refl _, by decide⟩

theorem set3_size (w : World) (k : Nat) (a b c : Value) : (((w.setCell ⟨k, 0, none⟩ a).setCell ⟨k, 1, none⟩ b).setCell ⟨k, 2, none⟩ c).heap.size = w.heap.size := by simp [World.setCell]

/-- The end of the way behind '&&'. -/
theorem went_and {x : Lvl} {e r : Ex} {Z : Ex} {w2 x1 W : World} (HE : goesX x.bare e.bare R = some ⟨none, 0, x.bare.or, none, 0, [Z], 0⟩) (HP : ∀ b, w.heap.size ≤ b → P b) (HG : ∀ b, P b → b ≠ g ∧ b ≠ k) (HGK : g < k ∧ k < w.heap.size)
    (HX2 : LvP P w2 x) (HB2 : Box w2 k 137 x.cells.toArray) (HR2 : RdrAt 66 w2 g E (restL true R) Flt.none) (HG2 : w.grownBy w2 (some g)) (hz2 : w.heap.size < w2.heap.size) (HB1 : Below w2.drew.heap.size w2.drew x1) (HR1 : r.bare = Z) (HI1 : ExP P x1 r)
    (w4 : World) (hw4 : w4 = ((x1.setCell ⟨k, 0, none⟩ (.slice x.oA x.or.length x.oc)).setCell ⟨k, 1, none⟩ (.slice (some ⟨x1.heap.size, 0, none⟩) 1 1)).setCell ⟨k, 2, none⟩ (.int .i64 0)) (hW : W = w4.alloc (.cells r.cells.toArray 48)) :
    Went P g k E R x e w (.returned (.bool true)) W := by
  subst hW
  have hd : Below w2.heap.size w2 x1 := (Below.refl _ _).drew.trans HB1
  have hbk := HB2.step hd
  have hs : w4.heap.size = x1.heap.size := by rw [hw4]; exact set3_size _ _ _ _ _
  have hO : x1.grownBy w4 (some k) := by rw [hw4]; exact set3_only
  have hB : Box w4 k 137 #[.slice x.oA x.or.length x.oc, .slice (some ⟨x1.heap.size, 0, none⟩) 1 1, .int .i64 0] := by rw [hw4]; exact set3_box hbk
  have hP1 : ∀ b, P b → b ≠ k := fun b hb => (HG b hb).2
  have hm1 : Move P P x1 (w4.alloc (.cells r.cells.toArray 48)) := (Move.grown hO fun b _ hp => ⟨hp, fun e => hP1 b hp (Option.some.inj e).symm⟩).trans (Move.grown (World.grownBy_alloc w4 _ none) fun b hb hp => ⟨hp, by simp⟩)
  have hm2 : Move P P w2 (w4.alloc (.cells r.cells.toArray 48)) := (Move.same_below hd).trans hm1
  refine .inl ⟨_, ⟨x.oA, x.oc, x.or, some ⟨x1.heap.size, 0, none⟩, 1, [r], 0⟩, HE, ?_, rfl, hB.alloc _, ⟨HX2.or.move hm2 fun a _ ha => ha.move hm2, one_sl x1.heap.size hs.symm (HP _ (by have := hd.size; omega)) (HI1.move hm1), ⟨HX2.one.1, Nat.le_refl _⟩, by show (0 : Nat) ≤ _; omega⟩, ?_, x1, grow_step HG2 hd, grow_alloc hO _⟩
  · rw [← HR1]; rfl
  · exact ((RdrAt.step (show RdrAt _ _ _ _ R.tail _ from HR2) hd).other hO HGK.1).alloc _

set_option maxRecDepth 100000 in
set_option maxHeartbeats 8000000 in
theorem goes_and (hP : ∀ b, w.heap.size ≤ b → P b) (hg : ∀ b, P b → b ≠ g ∧ b ≠ k) (hgk : g < k) (x : Lvl) (e : Ex) (hx : LvP P w x) (he : ExP P w e) (hb : Box w k 137 x.cells.toArray) (h : RdrAt 66 w g E R Flt.none) (hs : sgL [38, 38] R = true) :
    Calls Tryz.prog 69 #[.pointer (some ⟨g, 0, none⟩), .pointer (some ⟨k, 0, none⟩), e.val] w (Went P g k E R x e w) := by
  have HE : Hid (goesX x.bare e.bare R = some ⟨none, 0, x.bare.or, none, 0, [x.bare.ands e.bare], 0⟩) := by
    show goesX _ _ _ = _
    unfold goesX
    rw [if_pos hs]
  have HS := Lib.hid (sign_any (h.alloc (.cells e.cells.toArray 48)) ⟨#[38, 38]⟩)
  rw [show ((⟨#[38, 38]⟩ : ByteArray)).data.toList = [38, 38] from rfl, hs] at HS
  have HBX := Lib.hid (hb.alloc (.cells e.cells.toArray 48))
  have HBE := Lib.hid (Box.new w 48 e.cells.toArray)
  have HGK := Lib.hid (And.intro hgk hb.lt)
  have HX := Lib.hid hx
  have HEX := Lib.hid he
  have HP := Lib.hid hP
  have HG := Lib.hid hg
  clear h hs hb hx he hP hg
  obtain ⟨oA, oc, ors, aA, ac, ands, N⟩ := x
  obtain ⟨kd0, op0, nm0, nu0, A0, c0, ks0⟩ := e
  unfold Lvl.cells at HBX
  unfold Ex.cells at HBE HBX HS
  unfold Ex.val
  dsimp only at HBX HBE HS ⊢
  go_enter Tryz.func69, Tryz.ntmps69
  go_wp2_with fail
  refine HS.out.mono ?_
  rintro r w2 ⟨rfl, h2, hg2⟩
  have hgk2 := HGK.out
  have HB2 := Lib.hid (box_only HBX.out (by omega) hg2)
  have HE2 := Lib.hid (box_only HBE.out (by omega) hg2)
  have HR2 := Lib.hid h2
  have HG2 := Lib.hid (only_trans (only_alloc w (.cells (Ex.node kd0 op0 nm0 nu0 A0 c0 ks0).cells.toArray 48) g) hg2)
  have hmv : Move P P w w2 := Move.grown HG2.out fun b hb hp => ⟨hp, fun e => (HG.out b hp).1 (Option.some.inj e).symm⟩
  have HX2 := Lib.hid (HX.out.move hmv)
  have hz2 : w.heap.size < w2.heap.size := HE2.out.lt
  have HA : Hid (Calls Tryz.prog 87 #[(Lvl.mk oA oc ors aA ac ands N).val, (Ex.node kd0 op0 nm0 nu0 A0 c0 ks0).val] w2.drew (Joined P ((Lvl.mk oA oc ors aA ac ands N).bare.ands (Ex.node kd0 op0 nm0 nu0 A0 c0 ks0).bare) w2.drew)) :=
    ands_any (w := w2.drew) (fun b hb => HP.out b (by have : w2.drew.heap.size = w2.heap.size := rfl; omega)) _ _ ((HX.out.move hmv).move (.same_below (Below.refl _ _).drew)) ((HEX.out.move hmv).move (.same_below (Below.refl _ _).drew))
  clear h2 hg2 HS HBX HBE hmv
  generalize (Lvl.mk oA oc ors aA ac ands N).bare.ands (Ex.node kd0 op0 nm0 nu0 A0 c0 ks0).bare = Z at HA HE
  unfold Lvl.val Ex.val at HA
  dsimp only at HA
  obtain ⟨q0, q1, q2, z0, z1, z2, hl⟩ := box3 HB2.out
  obtain ⟨p0, p1, p2, p3, p4, y0, y1, y2, y3, y4, hl2⟩ := box5 HE2.out
  go_wp2_with fail
  go_region_with (first
    | (go_at_call 87; refine HA.out.mono ?_; rintro e x1 ⟨hb1, r1, hr1, rfl, hi1⟩; have HR1 := Lib.hid hr1; have HI1 := Lib.hid hi1; obtain ⟨u0, u1, u2, v0, v1, v2, ul⟩ := box3 (HB2.out.drew.step hb1); have HB1 := Lib.hid hb1; clear hr1 hi1 hb1; obtain ⟨kd, op, nm, nu, A, c, ks⟩ := r1; simp only [Ex.val]))
  all_goals
    go_wp2
    go_ret
    exact went_and HE.out HP.out HG.out HGK.out HX2.out HB2.out HR2.out HG2.out hz2 HB1.out HR1.out HI1.out _ rfl rfl
end

end Go.Proofs.YtfklajkmikanbaaGreatDoor.LandedP
