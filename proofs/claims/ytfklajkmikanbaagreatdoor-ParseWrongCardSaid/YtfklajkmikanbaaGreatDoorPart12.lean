/- Texts of mine put together (a claim has at most so many files): ParBox, ParSing, SeqBox. -/
import Derived.Test.YtfklajkmikanbaaGreatDoorPart8
import Derived.Test.YtfklajkmikanbaaGreatDoorPart10
import Derived.Test.YtfklajkmikanbaaGreatDoorPart11
import Derived.RangeFuncBox
import Derived.RangeFuncLeaves
import Derived.Test.YtfklajkmikanbaaGreatDoorProg
/- Boxes of two to six cells: their cells, written whole; what a call leaves that turned one old block. No program. -/
namespace Go.Proofs.YtfklajkmikanbaaGreatDoor.LandedP
open Go.RowKit

theorem grow_new {a w w' : World} {g k : Nat} (h : a.grownBy w (some g)) (ho : w.grownBy w' (some k)) (hk : a.heap.size ≤ k) : a.grownBy w' (some g) :=
  ⟨ho.os.trans h.os, ho.tape.trans h.tape, ho.output.trans h.output, Nat.le_trans h.size ho.size,
    fun i hi hn => (ho.block i (Nat.lt_of_lt_of_le hi h.size) (fun e => by injection e; omega)).trans (h.block i hi hn)⟩
theorem grow_step {a w w' : World} {g : Nat} (h : a.grownBy w (some g)) (hb : Below w.heap.size w w') : a.grownBy w' (some g) := only_trans h (only_below hb g)
theorem grow_alloc {a w : World} {g : Nat} (h : a.grownBy w (some g)) (o : Obj) : a.grownBy (w.alloc o) (some g) := only_trans h (only_alloc w o g)
/-- A call that began later. -/
theorem grow_after {a w w' : World} {g : Nat} (h : a.grownBy w (some g)) (k : w.grownBy w' (some g)) : a.grownBy w' (some g) := only_trans h k

section
variable {w : World} {g : Nat} {T : TypeId}

theorem box2 {z0 z1 : Value} (h : Box w g T #[z0, z1]) : w.cell? ⟨g, 0, none⟩ = some z0 ∧ w.cell? ⟨g, 1, none⟩ = some z1 ∧ w.frozen? ⟨g, 0, none⟩ = false ∧ w.frozen? ⟨g, 1, none⟩ = false ∧ g < w.heap.size :=
  ⟨h.cell 0, h.cell 1, h.free 0, h.free 1, h.lt⟩
theorem set2_only {a0 a1 : Value} : w.grownBy ((w.setCell ⟨g, 0, none⟩ a0).setCell ⟨g, 1, none⟩ a1) (some g) := by
  exact only_trans (only_set _ _ _ _) (only_set _ _ _ _)
theorem set2_box {z0 z1 a0 a1 : Value} (h : Box w g T #[z0, z1]) : Box ((w.setCell ⟨g, 0, none⟩ a0).setCell ⟨g, 1, none⟩ a1) g T #[a0, a1] := by
  have := ((h.set 0 a0).set 1 a1)
  simpa using this
theorem box3 {z0 z1 z2 : Value} (h : Box w g T #[z0, z1, z2]) : w.cell? ⟨g, 0, none⟩ = some z0 ∧ w.cell? ⟨g, 1, none⟩ = some z1 ∧ w.cell? ⟨g, 2, none⟩ = some z2 ∧ w.frozen? ⟨g, 0, none⟩ = false ∧ w.frozen? ⟨g, 1, none⟩ = false ∧ w.frozen? ⟨g, 2, none⟩ = false ∧ g < w.heap.size :=
  ⟨h.cell 0, h.cell 1, h.cell 2, h.free 0, h.free 1, h.free 2, h.lt⟩
theorem set3_only {a0 a1 a2 : Value} : w.grownBy (((w.setCell ⟨g, 0, none⟩ a0).setCell ⟨g, 1, none⟩ a1).setCell ⟨g, 2, none⟩ a2) (some g) := by
  exact only_trans (only_trans (only_set _ _ _ _) (only_set _ _ _ _)) (only_set _ _ _ _)
theorem set3_box {z0 z1 z2 a0 a1 a2 : Value} (h : Box w g T #[z0, z1, z2]) : Box (((w.setCell ⟨g, 0, none⟩ a0).setCell ⟨g, 1, none⟩ a1).setCell ⟨g, 2, none⟩ a2) g T #[a0, a1, a2] := by
  have := (((h.set 0 a0).set 1 a1).set 2 a2)
  simpa using this
theorem box4 {z0 z1 z2 z3 : Value} (h : Box w g T #[z0, z1, z2, z3]) : w.cell? ⟨g, 0, none⟩ = some z0 ∧ w.cell? ⟨g, 1, none⟩ = some z1 ∧ w.cell? ⟨g, 2, none⟩ = some z2 ∧ w.cell? ⟨g, 3, none⟩ = some z3 ∧ w.frozen? ⟨g, 0, none⟩ = false ∧ w.frozen? ⟨g, 1, none⟩ = false ∧ w.frozen? ⟨g, 2, none⟩ = false ∧ w.frozen? ⟨g, 3, none⟩ = false ∧ g < w.heap.size :=
  ⟨h.cell 0, h.cell 1, h.cell 2, h.cell 3, h.free 0, h.free 1, h.free 2, h.free 3, h.lt⟩
theorem set4_only {a0 a1 a2 a3 : Value} : w.grownBy ((((w.setCell ⟨g, 0, none⟩ a0).setCell ⟨g, 1, none⟩ a1).setCell ⟨g, 2, none⟩ a2).setCell ⟨g, 3, none⟩ a3) (some g) := by
  exact only_trans (only_trans (only_trans (only_set _ _ _ _) (only_set _ _ _ _)) (only_set _ _ _ _)) (only_set _ _ _ _)
theorem set4_box {z0 z1 z2 z3 a0 a1 a2 a3 : Value} (h : Box w g T #[z0, z1, z2, z3]) : Box ((((w.setCell ⟨g, 0, none⟩ a0).setCell ⟨g, 1, none⟩ a1).setCell ⟨g, 2, none⟩ a2).setCell ⟨g, 3, none⟩ a3) g T #[a0, a1, a2, a3] := by
  have := ((((h.set 0 a0).set 1 a1).set 2 a2).set 3 a3)
  simpa using this
theorem box5 {z0 z1 z2 z3 z4 : Value} (h : Box w g T #[z0, z1, z2, z3, z4]) : w.cell? ⟨g, 0, none⟩ = some z0 ∧ w.cell? ⟨g, 1, none⟩ = some z1 ∧ w.cell? ⟨g, 2, none⟩ = some z2 ∧ w.cell? ⟨g, 3, none⟩ = some z3 ∧ w.cell? ⟨g, 4, none⟩ = some z4 ∧ w.frozen? ⟨g, 0, none⟩ = false ∧ w.frozen? ⟨g, 1, none⟩ = false ∧ w.frozen? ⟨g, 2, none⟩ = false ∧ w.frozen? ⟨g, 3, none⟩ = false ∧ w.frozen? ⟨g, 4, none⟩ = false ∧ g < w.heap.size :=
  ⟨h.cell 0, h.cell 1, h.cell 2, h.cell 3, h.cell 4, h.free 0, h.free 1, h.free 2, h.free 3, h.free 4, h.lt⟩
theorem set5_only {a0 a1 a2 a3 a4 : Value} : w.grownBy (((((w.setCell ⟨g, 0, none⟩ a0).setCell ⟨g, 1, none⟩ a1).setCell ⟨g, 2, none⟩ a2).setCell ⟨g, 3, none⟩ a3).setCell ⟨g, 4, none⟩ a4) (some g) := by
  exact only_trans (only_trans (only_trans (only_trans (only_set _ _ _ _) (only_set _ _ _ _)) (only_set _ _ _ _)) (only_set _ _ _ _)) (only_set _ _ _ _)
theorem set5_box {z0 z1 z2 z3 z4 a0 a1 a2 a3 a4 : Value} (h : Box w g T #[z0, z1, z2, z3, z4]) : Box (((((w.setCell ⟨g, 0, none⟩ a0).setCell ⟨g, 1, none⟩ a1).setCell ⟨g, 2, none⟩ a2).setCell ⟨g, 3, none⟩ a3).setCell ⟨g, 4, none⟩ a4) g T #[a0, a1, a2, a3, a4] := by
  have := (((((h.set 0 a0).set 1 a1).set 2 a2).set 3 a3).set 4 a4)
  simpa using this
theorem box6 {z0 z1 z2 z3 z4 z5 : Value} (h : Box w g T #[z0, z1, z2, z3, z4, z5]) : w.cell? ⟨g, 0, none⟩ = some z0 ∧ w.cell? ⟨g, 1, none⟩ = some z1 ∧ w.cell? ⟨g, 2, none⟩ = some z2 ∧ w.cell? ⟨g, 3, none⟩ = some z3 ∧ w.cell? ⟨g, 4, none⟩ = some z4 ∧ w.cell? ⟨g, 5, none⟩ = some z5 ∧ w.frozen? ⟨g, 0, none⟩ = false ∧ w.frozen? ⟨g, 1, none⟩ = false ∧ w.frozen? ⟨g, 2, none⟩ = false ∧ w.frozen? ⟨g, 3, none⟩ = false ∧ w.frozen? ⟨g, 4, none⟩ = false ∧ w.frozen? ⟨g, 5, none⟩ = false ∧ g < w.heap.size :=
  ⟨h.cell 0, h.cell 1, h.cell 2, h.cell 3, h.cell 4, h.cell 5, h.free 0, h.free 1, h.free 2, h.free 3, h.free 4, h.free 5, h.lt⟩
theorem set6_only {a0 a1 a2 a3 a4 a5 : Value} : w.grownBy ((((((w.setCell ⟨g, 0, none⟩ a0).setCell ⟨g, 1, none⟩ a1).setCell ⟨g, 2, none⟩ a2).setCell ⟨g, 3, none⟩ a3).setCell ⟨g, 4, none⟩ a4).setCell ⟨g, 5, none⟩ a5) (some g) := by
  exact only_trans (only_trans (only_trans (only_trans (only_trans (only_set _ _ _ _) (only_set _ _ _ _)) (only_set _ _ _ _)) (only_set _ _ _ _)) (only_set _ _ _ _)) (only_set _ _ _ _)
theorem set6_box {z0 z1 z2 z3 z4 z5 a0 a1 a2 a3 a4 a5 : Value} (h : Box w g T #[z0, z1, z2, z3, z4, z5]) : Box ((((((w.setCell ⟨g, 0, none⟩ a0).setCell ⟨g, 1, none⟩ a1).setCell ⟨g, 2, none⟩ a2).setCell ⟨g, 3, none⟩ a3).setCell ⟨g, 4, none⟩ a4).setCell ⟨g, 5, none⟩ a5) g T #[a0, a1, a2, a3, a4, a5] := by
  have := ((((((h.set 0 a0).set 1 a1).set 2 a2).set 3 a3).set 4 a4).set 5 a5)
  simpa using this
theorem box7 {z0 z1 z2 z3 z4 z5 z6 : Value} (h : Box w g T #[z0, z1, z2, z3, z4, z5, z6]) : w.cell? ⟨g, 0, none⟩ = some z0 ∧ w.cell? ⟨g, 1, none⟩ = some z1 ∧ w.cell? ⟨g, 2, none⟩ = some z2 ∧ w.cell? ⟨g, 3, none⟩ = some z3 ∧ w.cell? ⟨g, 4, none⟩ = some z4 ∧ w.cell? ⟨g, 5, none⟩ = some z5 ∧ w.cell? ⟨g, 6, none⟩ = some z6 ∧ w.frozen? ⟨g, 0, none⟩ = false ∧ w.frozen? ⟨g, 1, none⟩ = false ∧ w.frozen? ⟨g, 2, none⟩ = false ∧ w.frozen? ⟨g, 3, none⟩ = false ∧ w.frozen? ⟨g, 4, none⟩ = false ∧ w.frozen? ⟨g, 5, none⟩ = false ∧ w.frozen? ⟨g, 6, none⟩ = false ∧ g < w.heap.size :=
  ⟨h.cell 0, h.cell 1, h.cell 2, h.cell 3, h.cell 4, h.cell 5, h.cell 6, h.free 0, h.free 1, h.free 2, h.free 3, h.free 4, h.free 5, h.free 6, h.lt⟩
theorem set7_only {a0 a1 a2 a3 a4 a5 a6 : Value} : w.grownBy (((((((w.setCell ⟨g, 0, none⟩ a0).setCell ⟨g, 1, none⟩ a1).setCell ⟨g, 2, none⟩ a2).setCell ⟨g, 3, none⟩ a3).setCell ⟨g, 4, none⟩ a4).setCell ⟨g, 5, none⟩ a5).setCell ⟨g, 6, none⟩ a6) (some g) := by
  exact only_trans (only_trans (only_trans (only_trans (only_trans (only_trans (only_set _ _ _ _) (only_set _ _ _ _)) (only_set _ _ _ _)) (only_set _ _ _ _)) (only_set _ _ _ _)) (only_set _ _ _ _)) (only_set _ _ _ _)
theorem set7_box {z0 z1 z2 z3 z4 z5 z6 a0 a1 a2 a3 a4 a5 a6 : Value} (h : Box w g T #[z0, z1, z2, z3, z4, z5, z6]) : Box (((((((w.setCell ⟨g, 0, none⟩ a0).setCell ⟨g, 1, none⟩ a1).setCell ⟨g, 2, none⟩ a2).setCell ⟨g, 3, none⟩ a3).setCell ⟨g, 4, none⟩ a4).setCell ⟨g, 5, none⟩ a5).setCell ⟨g, 6, none⟩ a6) g T #[a0, a1, a2, a3, a4, a5, a6] := by
  have := (((((((h.set 0 a0).set 1 a1).set 2 a2).set 3 a3).set 4 a4).set 5 a5).set 6 a6)
  simpa using this
end

/-! ### Expressions -/
theorem leafN_in (P : Nat → Prop) (w : World) {v : Nat} (h : v ≤ 18446744073709551615) : ExP P w (leafN v) := by
  unfold leafN
  exact .mk (.empty _ _ _ _) (fun k hk => absurd hk (by simp)) (Nat.le_refl _) (by decide) (by unfold I64; omega) (by decide) (by decide) (by unfold U64; omega)
theorem leafS_in (P : Nat → Prop) (w : World) {s : ByteArray} (h : StrIn s) : ExP P w (leafS s) := by
  unfold leafS
  exact .mk (.empty _ _ _ _) (fun k hk => absurd hk (by simp)) (Nat.le_refl _) (by decide) (by unfold I64; omega) (by decide) h (by unfold U64; omega)
theorem leafN_bare (v : Nat) : (leafN v).bare = leafN v := rfl
theorem leafS_bare (s : ByteArray) : (leafS s).bare = leafS s := rfl
theorem Ex.val_cells (e : Ex) : e.val = .agg e.cells.toArray := by cases e; rfl

/-- An expression that came back, new. -/
def ExNew (n : Nat) (w : World) (a : Ex) (v : Value) : Prop := ∃ e : Ex, e.bare = a ∧ v = e.val ∧ ExP (fun b => n ≤ b) w e
def ExShape (v : Value) : Prop := ∃ e : Ex, v = e.val

/-- What a method that reads something gives: that, or what is wrong. -/
def Gave {α : Type} (T : TypeId) (g : Nat) (E : Env) (V : World → α → Value → Prop) (S : Value → Prop) (x : Rx α) (w : World) : Ending → World → Prop := fun e w' => w.grownBy w' (some g) ∧
  ((∃ a R' v, x = .ok (a, R') ∧ e = .returned (.tuple #[v, .bool true]) ∧ V w' a v ∧ RdrAt T w' g E R' Flt.none) ∨
   (∃ err R' v, x = .error (err, R') ∧ e = .returned (.tuple #[v, .bool false]) ∧ S v ∧ Wrong T w' g E err R'))

theorem RdrAt.alloc {T : TypeId} {w : World} {g : Nat} {E : Env} {F : Flt} {R : List Tk} (h : RdrAt T w g E R F) (o : Obj) : RdrAt T (w.alloc o) g E R F := h.step ((Below.refl _ _).alloc (Nat.le_refl _) o)
theorem RdrAt.lt {T : TypeId} {w : World} {g : Nat} {E : Env} {F : Flt} {R : List Tk} (h : RdrAt T w g E R F) : g < w.heap.size := by
  obtain ⟨_, _, h⟩ := h
  exact h.box.lt
theorem RdrAt.len {T : TypeId} {w : World} {g : Nat} {E : Env} {F : Flt} {R : List Tk} (h : RdrAt T w g E R F) : R.length ≤ 1000000 := by
  obtain ⟨_, _, h⟩ := h
  exact h.room

end Go.Proofs.YtfklajkmikanbaaGreatDoor.LandedP

/- What the landed parser's single gives. Condition: what the start lays, as far as the library reads it. -/
namespace Go.Proofs.YtfklajkmikanbaaGreatDoor.LandedP
open Go.RowKit

theorem exSize : (Tryz.prog.info? 48).map (·.size) = some 5 := by kernel_rfl

section
variable {w : World} {g : Nat} {E : Env} {R : List Tk}

set_option maxRecDepth 100000 in
set_option maxHeartbeats 4000000 in
theorem single_any (hE : ∀ W, E.laid W → Laid W) (h : RdrAt 66 w g E R Flt.none) :
    Calls Tryz.prog 39 #[.pointer (some ⟨g, 0, none⟩)] w (Gave 66 g E (ExNew w.heap.size) ExShape (singleX R) w) := by
  have HNU := Lib.hid (num_any hE 18446744073709551615 18446744073709551615 rfl (h.alloc (.cells #[.int .i64 0, .string ⟨#[]⟩, .string ⟨#[]⟩, .int .u64 0, .slice none 0 0] 48)))
  have HGL := Lib.hid h.lt
  clear h
  go_enter Tryz.func39, Tryz.ntmps39
  go_wp2_with fail
  refine HNU.out.mono ?_
  rintro e w1 ⟨hg1, h1⟩
  have hB1 := box_only (Box.new w 48 #[.int .i64 0, .string ⟨#[]⟩, .string ⟨#[]⟩, .int .u64 0, .slice none 0 0]) (by have := HGL.out; omega) hg1
  have hG1 := only_trans (only_alloc w (.cells #[.int .i64 0, .string ⟨#[]⟩, .string ⟨#[]⟩, .int .u64 0, .slice none 0 0] 48) g) hg1
  clear HNU hg1
  rcases h1 with ⟨v, hv, rfl, h1⟩ | ⟨hv, rfl, h1⟩
  · have HB := Lib.hid hB1
    have HG := Lib.hid hG1
    have HV := Lib.hid hv
    have HR := Lib.hid h1
    obtain ⟨q0, q1, q2, q3, q4, z0, z1, z2, z3, z4, hl⟩ := box5 hB1
    clear hB1 hG1 hv h1
    go_wp2_with fail
    try simp only [Exit.inBlock, Exit.then]
    refine bodyPost_ret (results_box_tmp rfl _ _ w.heap.size 48 _ rfl (set5_box HB.out) _ Tryz.underlying48 rfl exSize) rfl ⟨grow_new HG.out set5_only (Nat.le_refl _), .inl ⟨leafN v, R.tail, _, ?_, rfl, ⟨leafN v, rfl, rfl, leafN_in _ _ ?_⟩, HR.out.other set5_only HGL.out⟩⟩
    · unfold singleX; rw [HV.out]
    · obtain ⟨_, _, _, _, _, h⟩ := numH_cons HV.out; exact h
  · have HN := Lib.hid (name_any h1)
    have HB := Lib.hid hB1
    have HG := Lib.hid hG1
    have HV := Lib.hid hv
    clear hB1 hG1 hv h1
    go_wp2_with fail
    refine HN.out.mono ?_
    rintro e w2 ⟨hg2, h2⟩
    have hB2 := box_only HB.out (by have := HGL.out; omega) hg2
    have HB2 := Lib.hid hB2
    have HG2 := Lib.hid (only_trans HG.out hg2)
    obtain ⟨q0, q1, q2, q3, q4, z0, z1, z2, z3, z4, hl⟩ := box5 hB2
    clear hB2 hg2 HN HB HG
    rcases h2 with ⟨s, hs, rfl, h2, h3⟩ | ⟨hs, rfl, h2⟩
    · have HR := Lib.hid h2
      have HS := Lib.hid hs
      have HI := Lib.hid h3
      clear hs h2 h3
      go_wp2_with fail
      try simp only [Exit.inBlock, Exit.then]
      refine bodyPost_ret (results_box_tmp rfl _ _ w.heap.size 48 _ rfl (set5_box HB2.out) _ Tryz.underlying48 rfl exSize) rfl ⟨grow_new HG2.out set5_only (Nat.le_refl _), .inl ⟨leafS s, R.tail, _, ?_, rfl, ⟨leafS s, rfl, rfl, leafS_in _ _ HI.out⟩, HR.out.other set5_only HGL.out⟩⟩
      unfold singleX; rw [HV.out, HS.out]
    · have HR := Lib.hid h2
      have HS := Lib.hid hs
      clear hs h2
      go_wp2_with fail
      try simp only [Exit.inBlock, Exit.then]
      refine bodyPost_ret (results_box_tmp rfl _ _ w.heap.size 48 _ rfl (set5_box HB2.out) _ Tryz.underlying48 rfl exSize) rfl ⟨grow_new HG2.out set5_only (Nat.le_refl _), .inr ⟨3, R, _, ?_, rfl, ⟨leafS ⟨#[]⟩, rfl⟩, .inl ⟨rfl, HR.out.other set5_only HGL.out⟩⟩⟩
      unfold singleX; rw [HV.out, HS.out]
end

end Go.Proofs.YtfklajkmikanbaaGreatDoor.LandedP

/- A loop over a function value that gives a known list, and that keeps its state in a box of its own: what such an iterator owes, and the walk of a loop over it. -/
namespace Go.Proofs.YtfklajkmikanbaaGreatDoor
open Go.RowKit

/-- What the iterator owes: it gives the elements of xs in their order, or stops where a round says so; between two rounds it writes the box Bx alone. -/
def SeqOwn {α : Type} (F : Fence) (n : Nat) (P : Program) (g : Nat) (lb : Array Value) (encs : α → Array Value) (Bx : Nat) (t : TypeId) (Kp : World → World → Prop) (xs : List α) (w : World) : Prop :=
  ∀ (l : Nat) (J Jx : List α → World → Prop) (W : World), Below w.heap.size w W →
    (∀ pre W1 v v', J pre W1 → Boxed W1 Bx t v → J pre (W1.setCell ⟨Bx, 0, none⟩ v')) →
    (∀ pre x W1, J pre W1 → (∃ r, xs = pre ++ x :: r) → YieldAt F (n - 1) P l (encs x) W1 fun e W' =>
      (e = .returned (.bool true) ∧ J (pre ++ [x]) W' ∧ Kp W1 W') ∨ (e = .returned (.bool false) ∧ Jx (pre ++ [x]) W')) →
    J [] W → CallsIn F n P g (#[.func (.yield l) #[] #[]] ++ lb) W fun e W' => (∃ v, e = .returned v) ∧ (J xs W' ∨ ∃ pre, pre <+: xs ∧ Jx pre W')

/-- The loop's record. -/
def recOf (fn : FuncId) (tmps : Array Value) (ps : Array Tmp) (assign body : Code) (D : Nat) (st : LoopState) (pe : Option Code) : Loop := { state := st, pending := pe, fn, tmps, params := ps, assign, body, defers := D }

/-- The two blocks that the loop lays for itself. -/
def Records (D : Nat) (rec : Loop) (W : World) : Prop := W.heap[D + 1]? = some (.loop rec) ∧ W.heap[D]? = some (.deferred (some []))

theorem Records.lt {D : Nat} {r : Loop} {W : World} (h : Records D r W) : D + 1 < W.heap.size := (Array.getElem?_eq_some_iff.1 h.1).1
theorem Records.put {D : Nat} {r : Loop} {W : World} (h : Records D r W) (r' : Loop) : Records D r' (W.putObj (D + 1) (.loop r')) :=
  ⟨World.putObj_heap_same h.lt, (World.putObj_heap_other (by omega)).trans h.2⟩
theorem Records.set {D b : Nat} {r : Loop} {W : World} (h : Records D r W) (hb : b < D) (v : Value) : Records D r (W.setCell ⟨b, 0, none⟩ v) :=
  ⟨(Below.heap_setCell W _ v _ (by simp only; omega)).trans h.1, (Below.heap_setCell W _ v _ (by simp only; omega)).trans h.2⟩
theorem Records.kept {D B : Nat} {r : Loop} {W W' : World} (h : Records D r W) (hk : KeepsFrom B W W') (hB : B ≤ D) : Records D r W' :=
  ⟨hk.same _ _ (by omega) h.1 rfl, hk.same _ _ hB h.2 rfl⟩

theorem wpIn_seqOwn {α : Type} {F : Fence} {n : Nat} {P : Program} {g : Operand} {ps : Array Tmp} {assign body : Code} {Q : Exit → Act → World → Prop} {a : Act} {w : World}
    (hro : F.round = none) (h1 : 1 ≤ n) {gf : Nat} {lb : Array Value} (hg : a.eval g = .func (.func gf) #[] lb) (hFg : F.fn gf) (eg : ∀ args w, (callFunc gf args).run P w = .ok (.enter gf args) w)
    {encs : α → Array Value} {Bx : Nat} {t : TypeId} {Kp : World → World → Prop} {xs : List α} (hseq : SeqOwn F (n - 1) P gf lb encs Bx t Kp xs w) (hBx : Bx < w.heap.size)
    (hKt : ∀ {A B C : World}, Kp A B → Kp B C → Kp A C) (hKb : ∀ (W : World) (l : Nat) (o o' : Obj), w.heap.size ≤ l → W.heap[l]? = some o → o.isCells = false → Kp W (W.putObj l o')) (hps : ∀ x, (encs x).size = ps.size)
    (I : List α → World → Prop) (Ix : Code → List α → World → Prop) (hI : OwnFrom w.heap.size I) (hIx : ∀ c, OwnFrom w.heap.size (Ix c))
    (hIs : ∀ pre W v v', I pre W → Boxed W Bx t v → I pre (W.setCell ⟨Bx, 0, none⟩ v')) (h0 : I [] w) (a₁ : α → Act)
    (hassign : ∀ (l : Nat) (x : α) (W : World) (K : Act → World → Prop), K (a₁ x) W →
      assign.wpIn (F.inRound l) (n - 1 - 1) P (Exit.then K (fun _ _ _ => False)) { tmps := (ps.zip (encs x)).foldl (fun t (p, v) => t.setIfInBounds p v) a.tmps, defers := [] } W)
    (hbody : ∀ (l : Nat) (pre : List α) (x : α) (W : World), I pre W → (∃ r, xs = pre ++ x :: r) → body.wpIn (F.inRound l) (n - 1 - 1) P (ownPostG w.heap.size Kp I Ix (pre ++ [x]) W) (a₁ x) W)
    (hdone : ∀ (D : Nat) (W : World), w.heap.size ≤ D → I xs W → W.heap[D]? = some (.deferred (some [])) → Q .normal { a with defers := { target := .collected D, args := #[] } :: a.defers } W)
    (hstop : ∀ (D : Nat) (c : Code) (pre : List α) (W : World), w.heap.size ≤ D → pre <+: xs → Ix c pre W → W.heap[D]? = some (.deferred (some [])) → c.wpIn F n P Q { a with defers := { target := .collected D, args := #[] } :: a.defers } W) :
    (Code.rangeFunc g ps assign body).wpIn F n P Q a w := by
  refine wpIn_rangeFunc fun fn hfn => ?_
  rw [hro]
  obtain ⟨rec, hrec⟩ : ∃ rec : LoopState → Option Code → Loop, rec = recOf fn a.tmps ps assign body w.heap.size := ⟨_, rfl⟩
  obtain ⟨D, hD⟩ : ∃ D, D = w.heap.size := ⟨_, rfl⟩
  obtain ⟨W1, hW1⟩ : ∃ W1, W1 = (w.alloc (.deferred (some []))).alloc (.loop (rec .ready none)) := ⟨_, rfl⟩
  have hR1 : Records D (rec .ready none) W1 := by
    have e := World.alloc_heap_new (w.alloc (.deferred (some []))) (.loop (rec .ready none))
    rw [World.size_alloc] at e
    rw [hW1, hD]
    exact ⟨e, (Below.heap_alloc _ _ _ (by simp)).trans (World.alloc_heap_new w _)⟩
  have hI1 : I [] W1 := by rw [hW1]; exact hI.alloc _ (hI.alloc _ h0)
  have hb1 : Below w.heap.size w W1 := by rw [hW1]; exact ((Below.refl _ w).alloc (Nat.le_refl _) _).alloc (by simp) _
  refine ⟨D + 1, [{ target := .collected D, args := #[] }], W1, { target := .fn (.func gf) lb, args := #[.func (.yield (D + 1)) #[] #[]] }, W1, gf, #[.func (.yield (D + 1)) #[] #[]] ++ lb, W1, ?_, ?_, ?_, ?_, fun _ => h1, ?_⟩
  · rw [hW1, hrec, hD]
    exact run_enterLoop_outer _ _ _ _ _
  · simp only [resolve, hg]
    simp [go_sem]
  · intro f' hf'
    simp [Target.leads] at hf'
    subst hf'
    exact hFg
  · simp [invoke, go_sem, eg]
  · have hcall := hseq (D + 1) (fun pre W => I pre W ∧ Records D (rec .ready none) W) (fun pre W => ∃ c, Ix c pre W ∧ Records D (rec .done (some c)) W) W1 hb1
      (fun pre W v v' hs hv => ⟨hIs pre W v v' hs.1 hv, hs.2.set (by omega) v'⟩)
      (fun pre x W hs hr => by
        obtain ⟨hi, hrc⟩ := hs
        have hy := run_yield (P := P) (args := encs x) hrc.1 (by rw [hrec]; exact hps x)
        rw [hrec] at hy
        refine ⟨fn, _, assign, body, hy, roundIn_of_wpIn hfn (hassign _ x W _ ⟨_, run_beginRound hrc.1 (by rw [hrec]; rfl), ?_⟩)⟩
        have hrb := hrc.put { rec .ready none with state := .busy }
        have hkb := hKb W (D + 1) _ (.loop { rec .ready none with state := .busy }) (by omega) hrc.1 rfl
        refine wpIn_mono (hbody _ pre x _ (hI.putObj _ hi (by omega) hrc.1 rfl) hr) ?_
        obtain ⟨Wb, hWb⟩ : ∃ Wb, Wb = W.putObj (D + 1) (.loop { rec .ready none with state := .busy }) := ⟨_, rfl⟩
        rw [← hWb] at hrb hkb ⊢
        have fin : ∀ (jump : Option Code) (W3 : World), KeepsFrom w.heap.size Wb W3 →
            (Instr.endRound (D + 1) jump).run P W3 = .ok (.bool jump.isNone) (W3.putObj (D + 1) (.loop (rec (if jump.isNone then .ready else .done) jump))) ∧
            Records D { rec .ready none with state := .busy } W3 := fun jump W3 hk => by
          have hr3 := hrb.kept hk (by omega)
          have e := run_endRound (P := P) jump hr3.1
          refine ⟨?_, hr3⟩
          rw [hrec] at e ⊢
          exact e
        rintro e a3 W3 hp
        cases e with
        | normal =>
          obtain ⟨hk, hkp, hi3⟩ := hp
          obtain ⟨hr3, hrc3⟩ := fin none W3 hk
          exact ⟨_, _, hr3, .inl ⟨rfl, ⟨hI.putObj _ hi3 (by omega) hrc3.1 rfl, hrc3.put _⟩, hKt (hKt hkb hkp) (hKb _ _ _ _ (by omega) hrc3.1 rfl)⟩⟩
        | ret =>
          obtain ⟨hk, hi3⟩ := hp
          obtain ⟨hr3, hrc3⟩ := fin (some .ret) W3 hk
          exact ⟨_, _, hr3, .inr ⟨rfl, .ret, (hIx _).putObj _ hi3 (by omega) hrc3.1 rfl, hrc3.put _⟩⟩
        | exit id =>
          obtain ⟨hk, hi3⟩ := hp
          obtain ⟨hr3, hrc3⟩ := fin (some (.exit id)) W3 hk
          exact ⟨_, _, hr3, .inr ⟨rfl, .exit id, (hIx _).putObj _ hi3 (by omega) hrc3.1 rfl, hrc3.put _⟩⟩
        | goto t =>
          obtain ⟨hk, hi3⟩ := hp
          obtain ⟨hr3, hrc3⟩ := fin (some (.goto t)) W3 hk
          exact ⟨_, _, hr3, .inr ⟨rfl, .goto t, (hIx _).putObj _ hi3 (by omega) hrc3.1 rfl, hrc3.put _⟩⟩
        | panic ch => exact hp.elim
        | outgrown => exact hp.elim)
      ⟨hI1, hR1⟩
    refine hcall.mono ?_
    rintro e W2 ⟨⟨v, rfl⟩, (⟨hi, hrc⟩ | ⟨pre, hpre, c, hi, hrc⟩)⟩
    · have e := run_endLoop (P := P) hrc.1 (by rw [hrec]; simp [recOf])
      refine ⟨none, _, by rw [hrec] at e; exact e, ?_⟩
      have h2 := hI.putObj (.loop { rec .ready none with state := .exhausted }) hi (show w.heap.size ≤ D + 1 by omega) hrc.1 rfl
      have h3 := (hrc.put { rec .ready none with state := .exhausted }).2
      rw [hrec] at h2 h3
      rw [hD] at h2 h3 ⊢
      exact hdone _ _ (Nat.le_refl _) h2 h3
    · have e := run_endLoop (P := P) hrc.1 (by rw [hrec]; simp [recOf])
      refine ⟨some c, _, by rw [hrec] at e; exact e, ?_⟩
      have h2 := (hIx c).putObj (.loop { rec .done (some c) with state := .exhausted }) hi (show w.heap.size ≤ D + 1 by omega) hrc.1 rfl
      have h3 := (hrc.put { rec .done (some c) with state := .exhausted }).2
      rw [hrec] at h2 h3
      rw [hD] at h2 h3 ⊢
      exact hstop _ _ _ _ (Nat.le_refl _) hpre h2 h3

end Go.Proofs.YtfklajkmikanbaaGreatDoor
