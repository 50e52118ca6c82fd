/- The walk of the statement ListingWrong. -/
import Derived.Test.YtdcpdieejknliaaDoorListFace
import Derived.BigQuiet
namespace Go.Proofs.YtdcpdieejknliaaDoor
open Go.RowKit
variable {L : World → Prop}

/-- The lines, and the number of the first that is none. -/
def wrongTab : List (List UInt8 × Int) := [([], -1), ([10], 0), ([114, 101, 116, 107, 32, 48, 32, 48, 32, 55, 10], -1), ([114, 101, 116, 107, 32, 48, 32, 48, 32, 55], 0), ([114, 101, 116, 107, 32, 48, 32, 48, 32, 32, 55, 10], 0), ([82, 69, 84, 75, 32, 48, 32, 48, 32, 55, 10], 0), ([114, 101, 116, 107, 32, 48, 32, 48, 32, 48, 55, 10], 0), ([114, 101, 116, 107, 32, 50, 53, 54, 32, 48, 32, 55, 10], 0), ([114, 101, 116, 107, 32, 48, 32, 48, 32, 52, 50, 57, 52, 57, 54, 55, 50, 57, 53, 10], -1), ([114, 101, 116, 107, 32, 48, 32, 48, 32, 52, 50, 57, 52, 57, 54, 55, 50, 57, 54, 10], 0), ([99, 111, 100, 101, 32, 54, 32, 48, 32, 48, 32, 55, 10], 0), ([99, 111, 100, 101, 32, 52, 48, 32, 48, 32, 48, 32, 55, 10], -1), ([99, 111, 100, 101, 32, 54, 53, 53, 51, 54, 32, 48, 32, 48, 32, 55, 10], 0), ([114, 101, 116, 32, 48, 32, 48, 32, 55, 10], 0), ([114, 101, 116, 107, 32, 48, 32, 48, 10], 0), ([114, 101, 116, 107, 32, 48, 32, 48, 32, 55, 10, 120, 10], 1), ([114, 101, 116, 107, 32, 48, 32, 48, 32, 55, 32, 10], 0)]
theorem wrong_tab : ∀ t ∈ wrongTab, (readOf t.1).2 = (t.2, if t.2 < 0 then 0 else 3) := by decide +kernel

theorem wrong_read (R : ListSays L) (t : List UInt8 × Int) (ht : t ∈ wrongTab) (hs : t.1.length ≤ 1000) (W : World) (hW : L W) : Calls Tryd.prog 7 #[.string (strOf t.1)] W fun r w' => (∃ v, r = .returned (.tuple #[v, .int .i64 t.2, .int .i64 (if t.2 < 0 then 0 else 3)])) ∧ Below W.heap.size W w' := by
  have h := R.read (strOf t.1) W hW (by rw [strOf_size]; omega)
  rw [strOf_data] at h
  refine h.mono ?_
  rintro r w' ⟨v, rfl, _, hb⟩
  refine ⟨⟨v, ?_⟩, hb⟩
  rw [show (readOf t.1).2.1 = t.2 from by rw [wrong_tab t ht], show (readOf t.1).2.2 = (if t.2 < 0 then 0 else 3) from by rw [wrong_tab t ht]]

theorem at_cell (w : World) (j : Nat) (b : Int) (h : [Value.int .i64 (-1), Value.int .i64 0, Value.int .i64 (-1), Value.int .i64 0, Value.int .i64 0, Value.int .i64 0, Value.int .i64 0, Value.int .i64 0, Value.int .i64 (-1), Value.int .i64 0, Value.int .i64 0, Value.int .i64 (-1), Value.int .i64 0, Value.int .i64 0, Value.int .i64 0, Value.int .i64 1, Value.int .i64 0][j]? = some (Value.int .i64 b)) : ((w.alloc (.cells #[.string ⟨#[]⟩, .string ⟨#[10]⟩, .string ⟨#[114, 101, 116, 107, 32, 48, 32, 48, 32, 55, 10]⟩, .string ⟨#[114, 101, 116, 107, 32, 48, 32, 48, 32, 55]⟩, .string ⟨#[114, 101, 116, 107, 32, 48, 32, 48, 32, 32, 55, 10]⟩, .string ⟨#[82, 69, 84, 75, 32, 48, 32, 48, 32, 55, 10]⟩, .string ⟨#[114, 101, 116, 107, 32, 48, 32, 48, 32, 48, 55, 10]⟩, .string ⟨#[114, 101, 116, 107, 32, 50, 53, 54, 32, 48, 32, 55, 10]⟩, .string ⟨#[114, 101, 116, 107, 32, 48, 32, 48, 32, 52, 50, 57, 52, 57, 54, 55, 50, 57, 53, 10]⟩, .string ⟨#[114, 101, 116, 107, 32, 48, 32, 48, 32, 52, 50, 57, 52, 57, 54, 55, 50, 57, 54, 10]⟩, .string ⟨#[99, 111, 100, 101, 32, 54, 32, 48, 32, 48, 32, 55, 10]⟩, .string ⟨#[99, 111, 100, 101, 32, 52, 48, 32, 48, 32, 48, 32, 55, 10]⟩, .string ⟨#[99, 111, 100, 101, 32, 54, 53, 53, 51, 54, 32, 48, 32, 48, 32, 55, 10]⟩, .string ⟨#[114, 101, 116, 32, 48, 32, 48, 32, 55, 10]⟩, .string ⟨#[114, 101, 116, 107, 32, 48, 32, 48, 10]⟩, .string ⟨#[114, 101, 116, 107, 32, 48, 32, 48, 32, 55, 10, 120, 10]⟩, .string ⟨#[114, 101, 116, 107, 32, 48, 32, 48, 32, 55, 32, 10]⟩] 9)).alloc (.cells #[.int .i64 (-1), .int .i64 0, .int .i64 (-1), .int .i64 0, .int .i64 0, .int .i64 0, .int .i64 0, .int .i64 0, .int .i64 (-1), .int .i64 0, .int .i64 0, .int .i64 (-1), .int .i64 0, .int .i64 0, .int .i64 0, .int .i64 1, .int .i64 0] 3)).cell? ⟨w.heap.size + 1, j, none⟩ = some (.int .i64 b) := by
  have hb := Box.new (w.alloc (.cells #[.string ⟨#[]⟩, .string ⟨#[10]⟩, .string ⟨#[114, 101, 116, 107, 32, 48, 32, 48, 32, 55, 10]⟩, .string ⟨#[114, 101, 116, 107, 32, 48, 32, 48, 32, 55]⟩, .string ⟨#[114, 101, 116, 107, 32, 48, 32, 48, 32, 32, 55, 10]⟩, .string ⟨#[82, 69, 84, 75, 32, 48, 32, 48, 32, 55, 10]⟩, .string ⟨#[114, 101, 116, 107, 32, 48, 32, 48, 32, 48, 55, 10]⟩, .string ⟨#[114, 101, 116, 107, 32, 50, 53, 54, 32, 48, 32, 55, 10]⟩, .string ⟨#[114, 101, 116, 107, 32, 48, 32, 48, 32, 52, 50, 57, 52, 57, 54, 55, 50, 57, 53, 10]⟩, .string ⟨#[114, 101, 116, 107, 32, 48, 32, 48, 32, 52, 50, 57, 52, 57, 54, 55, 50, 57, 54, 10]⟩, .string ⟨#[99, 111, 100, 101, 32, 54, 32, 48, 32, 48, 32, 55, 10]⟩, .string ⟨#[99, 111, 100, 101, 32, 52, 48, 32, 48, 32, 48, 32, 55, 10]⟩, .string ⟨#[99, 111, 100, 101, 32, 54, 53, 53, 51, 54, 32, 48, 32, 48, 32, 55, 10]⟩, .string ⟨#[114, 101, 116, 32, 48, 32, 48, 32, 55, 10]⟩, .string ⟨#[114, 101, 116, 107, 32, 48, 32, 48, 10]⟩, .string ⟨#[114, 101, 116, 107, 32, 48, 32, 48, 32, 55, 10, 120, 10]⟩, .string ⟨#[114, 101, 116, 107, 32, 48, 32, 48, 32, 55, 32, 10]⟩] 9)) 3 #[.int .i64 (-1), .int .i64 0, .int .i64 (-1), .int .i64 0, .int .i64 0, .int .i64 0, .int .i64 0, .int .i64 0, .int .i64 (-1), .int .i64 0, .int .i64 0, .int .i64 (-1), .int .i64 0, .int .i64 0, .int .i64 0, .int .i64 1, .int .i64 0]
  rw [show (w.alloc (.cells #[.string ⟨#[]⟩, .string ⟨#[10]⟩, .string ⟨#[114, 101, 116, 107, 32, 48, 32, 48, 32, 55, 10]⟩, .string ⟨#[114, 101, 116, 107, 32, 48, 32, 48, 32, 55]⟩, .string ⟨#[114, 101, 116, 107, 32, 48, 32, 48, 32, 32, 55, 10]⟩, .string ⟨#[82, 69, 84, 75, 32, 48, 32, 48, 32, 55, 10]⟩, .string ⟨#[114, 101, 116, 107, 32, 48, 32, 48, 32, 48, 55, 10]⟩, .string ⟨#[114, 101, 116, 107, 32, 50, 53, 54, 32, 48, 32, 55, 10]⟩, .string ⟨#[114, 101, 116, 107, 32, 48, 32, 48, 32, 52, 50, 57, 52, 57, 54, 55, 50, 57, 53, 10]⟩, .string ⟨#[114, 101, 116, 107, 32, 48, 32, 48, 32, 52, 50, 57, 52, 57, 54, 55, 50, 57, 54, 10]⟩, .string ⟨#[99, 111, 100, 101, 32, 54, 32, 48, 32, 48, 32, 55, 10]⟩, .string ⟨#[99, 111, 100, 101, 32, 52, 48, 32, 48, 32, 48, 32, 55, 10]⟩, .string ⟨#[99, 111, 100, 101, 32, 54, 53, 53, 51, 54, 32, 48, 32, 48, 32, 55, 10]⟩, .string ⟨#[114, 101, 116, 32, 48, 32, 48, 32, 55, 10]⟩, .string ⟨#[114, 101, 116, 107, 32, 48, 32, 48, 10]⟩, .string ⟨#[114, 101, 116, 107, 32, 48, 32, 48, 32, 55, 10, 120, 10]⟩, .string ⟨#[114, 101, 116, 107, 32, 48, 32, 48, 32, 55, 32, 10]⟩] 9)).heap.size = w.heap.size + 1 from by simp] at hb
  rw [hb.cell]
  simpa using h

set_option maxRecDepth 100000 in
set_option maxHeartbeats 2000000 in
theorem lwrong_0 (R : ListSays L) (w : World) (hw : L w) : Calls Tryd.prog 4 #[.int .i64 0] w fun e w' => e = .returned (.bool true) ∧ Below w.heap.size w w' := by
  have HREAD : Hid (∀ W : World, Below w.heap.size w W → Calls Tryd.prog 7 #[.string ⟨#[]⟩] W fun r w' => (∃ v, r = .returned (.tuple #[v, .int .i64 (-1), .int .i64 0])) ∧ Below W.heap.size W w') := fun W hW => wrong_read R ([], -1) (by decide) (by decide) W (R.keep w W hw hW)
  go_enter Tryd.func4, Tryd.ntmps4
  go_wp2_with fail
  refine (lalive_any R _ hw).mono ?_
  rintro r w1 ⟨rfl, hb1⟩
  go_wp2_with fail
  refine (HREAD.out _ ((hb1.alloc hb1.size _).alloc (by have := hb1.size; simp; omega) _)).mono ?_
  rintro r w2 ⟨⟨v, rfl⟩, hb2⟩
  have HB := Lib.hid (below_step ((hb1.alloc hb1.size _).alloc (by have := hb1.size; simp; omega) _) (Nat.le_refl _) hb2)
  have hc2 := (hb2.cell (p := ⟨w1.heap.size + 1, 0, none⟩) (by simp)).trans (at_cell w1 0 (-1) rfl)
  have hs2 : w1.heap.size + 1 < w2.heap.size := by have := hb2.size; simp at this; omega
  clear hb1
  go_wp2_with fail
  go_quiet ((go_at_call 12; exact Calls.quiet_of_same ((lnum_any _ _).mono fun _ _ h => ⟨h.1, h.2.symm⟩)))
  go_wp2
  go_ret
  exact ⟨rfl, below_drewN HB.out _⟩

set_option maxRecDepth 100000 in
set_option maxHeartbeats 2000000 in
theorem lwrong_1 (R : ListSays L) (w : World) (hw : L w) : Calls Tryd.prog 4 #[.int .i64 1] w fun e w' => e = .returned (.bool true) ∧ Below w.heap.size w w' := by
  have HREAD : Hid (∀ W : World, Below w.heap.size w W → Calls Tryd.prog 7 #[.string ⟨#[10]⟩] W fun r w' => (∃ v, r = .returned (.tuple #[v, .int .i64 (0), .int .i64 3])) ∧ Below W.heap.size W w') := fun W hW => wrong_read R ([10], 0) (by decide) (by decide) W (R.keep w W hw hW)
  go_enter Tryd.func4, Tryd.ntmps4
  go_wp2_with fail
  refine (lalive_any R _ hw).mono ?_
  rintro r w1 ⟨rfl, hb1⟩
  go_wp2_with fail
  refine (HREAD.out _ ((hb1.alloc hb1.size _).alloc (by have := hb1.size; simp; omega) _)).mono ?_
  rintro r w2 ⟨⟨v, rfl⟩, hb2⟩
  have HB := Lib.hid (below_step ((hb1.alloc hb1.size _).alloc (by have := hb1.size; simp; omega) _) (Nat.le_refl _) hb2)
  have hc2 := (hb2.cell (p := ⟨w1.heap.size + 1, 1, none⟩) (by simp)).trans (at_cell w1 1 (0) rfl)
  have hs2 : w1.heap.size + 1 < w2.heap.size := by have := hb2.size; simp at this; omega
  clear hb1
  go_wp2_with fail
  go_quiet ((go_at_call 12; exact Calls.quiet_of_same ((lnum_any _ _).mono fun _ _ h => ⟨h.1, h.2.symm⟩)))
  go_wp2
  go_ret
  exact ⟨rfl, below_drewN HB.out _⟩

set_option maxRecDepth 100000 in
set_option maxHeartbeats 2000000 in
theorem lwrong_2 (R : ListSays L) (w : World) (hw : L w) : Calls Tryd.prog 4 #[.int .i64 2] w fun e w' => e = .returned (.bool true) ∧ Below w.heap.size w w' := by
  have HREAD : Hid (∀ W : World, Below w.heap.size w W → Calls Tryd.prog 7 #[.string ⟨#[114, 101, 116, 107, 32, 48, 32, 48, 32, 55, 10]⟩] W fun r w' => (∃ v, r = .returned (.tuple #[v, .int .i64 (-1), .int .i64 0])) ∧ Below W.heap.size W w') := fun W hW => wrong_read R ([114, 101, 116, 107, 32, 48, 32, 48, 32, 55, 10], -1) (by decide) (by decide) W (R.keep w W hw hW)
  go_enter Tryd.func4, Tryd.ntmps4
  go_wp2_with fail
  refine (lalive_any R _ hw).mono ?_
  rintro r w1 ⟨rfl, hb1⟩
  go_wp2_with fail
  refine (HREAD.out _ ((hb1.alloc hb1.size _).alloc (by have := hb1.size; simp; omega) _)).mono ?_
  rintro r w2 ⟨⟨v, rfl⟩, hb2⟩
  have HB := Lib.hid (below_step ((hb1.alloc hb1.size _).alloc (by have := hb1.size; simp; omega) _) (Nat.le_refl _) hb2)
  have hc2 := (hb2.cell (p := ⟨w1.heap.size + 1, 2, none⟩) (by simp)).trans (at_cell w1 2 (-1) rfl)
  have hs2 : w1.heap.size + 1 < w2.heap.size := by have := hb2.size; simp at this; omega
  clear hb1
  go_wp2_with fail
  go_quiet ((go_at_call 12; exact Calls.quiet_of_same ((lnum_any _ _).mono fun _ _ h => ⟨h.1, h.2.symm⟩)))
  go_wp2
  go_ret
  exact ⟨rfl, below_drewN HB.out _⟩

set_option maxRecDepth 100000 in
set_option maxHeartbeats 2000000 in
theorem lwrong_3 (R : ListSays L) (w : World) (hw : L w) : Calls Tryd.prog 4 #[.int .i64 3] w fun e w' => e = .returned (.bool true) ∧ Below w.heap.size w w' := by
  have HREAD : Hid (∀ W : World, Below w.heap.size w W → Calls Tryd.prog 7 #[.string ⟨#[114, 101, 116, 107, 32, 48, 32, 48, 32, 55]⟩] W fun r w' => (∃ v, r = .returned (.tuple #[v, .int .i64 (0), .int .i64 3])) ∧ Below W.heap.size W w') := fun W hW => wrong_read R ([114, 101, 116, 107, 32, 48, 32, 48, 32, 55], 0) (by decide) (by decide) W (R.keep w W hw hW)
  go_enter Tryd.func4, Tryd.ntmps4
  go_wp2_with fail
  refine (lalive_any R _ hw).mono ?_
  rintro r w1 ⟨rfl, hb1⟩
  go_wp2_with fail
  refine (HREAD.out _ ((hb1.alloc hb1.size _).alloc (by have := hb1.size; simp; omega) _)).mono ?_
  rintro r w2 ⟨⟨v, rfl⟩, hb2⟩
  have HB := Lib.hid (below_step ((hb1.alloc hb1.size _).alloc (by have := hb1.size; simp; omega) _) (Nat.le_refl _) hb2)
  have hc2 := (hb2.cell (p := ⟨w1.heap.size + 1, 3, none⟩) (by simp)).trans (at_cell w1 3 (0) rfl)
  have hs2 : w1.heap.size + 1 < w2.heap.size := by have := hb2.size; simp at this; omega
  clear hb1
  go_wp2_with fail
  go_quiet ((go_at_call 12; exact Calls.quiet_of_same ((lnum_any _ _).mono fun _ _ h => ⟨h.1, h.2.symm⟩)))
  go_wp2
  go_ret
  exact ⟨rfl, below_drewN HB.out _⟩

set_option maxRecDepth 100000 in
set_option maxHeartbeats 2000000 in
theorem lwrong_4 (R : ListSays L) (w : World) (hw : L w) : Calls Tryd.prog 4 #[.int .i64 4] w fun e w' => e = .returned (.bool true) ∧ Below w.heap.size w w' := by
  have HREAD : Hid (∀ W : World, Below w.heap.size w W → Calls Tryd.prog 7 #[.string ⟨#[114, 101, 116, 107, 32, 48, 32, 48, 32, 32, 55, 10]⟩] W fun r w' => (∃ v, r = .returned (.tuple #[v, .int .i64 (0), .int .i64 3])) ∧ Below W.heap.size W w') := fun W hW => wrong_read R ([114, 101, 116, 107, 32, 48, 32, 48, 32, 32, 55, 10], 0) (by decide) (by decide) W (R.keep w W hw hW)
  go_enter Tryd.func4, Tryd.ntmps4
  go_wp2_with fail
  refine (lalive_any R _ hw).mono ?_
  rintro r w1 ⟨rfl, hb1⟩
  go_wp2_with fail
  refine (HREAD.out _ ((hb1.alloc hb1.size _).alloc (by have := hb1.size; simp; omega) _)).mono ?_
  rintro r w2 ⟨⟨v, rfl⟩, hb2⟩
  have HB := Lib.hid (below_step ((hb1.alloc hb1.size _).alloc (by have := hb1.size; simp; omega) _) (Nat.le_refl _) hb2)
  have hc2 := (hb2.cell (p := ⟨w1.heap.size + 1, 4, none⟩) (by simp)).trans (at_cell w1 4 (0) rfl)
  have hs2 : w1.heap.size + 1 < w2.heap.size := by have := hb2.size; simp at this; omega
  clear hb1
  go_wp2_with fail
  go_quiet ((go_at_call 12; exact Calls.quiet_of_same ((lnum_any _ _).mono fun _ _ h => ⟨h.1, h.2.symm⟩)))
  go_wp2
  go_ret
  exact ⟨rfl, below_drewN HB.out _⟩

set_option maxRecDepth 100000 in
set_option maxHeartbeats 2000000 in
theorem lwrong_5 (R : ListSays L) (w : World) (hw : L w) : Calls Tryd.prog 4 #[.int .i64 5] w fun e w' => e = .returned (.bool true) ∧ Below w.heap.size w w' := by
  have HREAD : Hid (∀ W : World, Below w.heap.size w W → Calls Tryd.prog 7 #[.string ⟨#[82, 69, 84, 75, 32, 48, 32, 48, 32, 55, 10]⟩] W fun r w' => (∃ v, r = .returned (.tuple #[v, .int .i64 (0), .int .i64 3])) ∧ Below W.heap.size W w') := fun W hW => wrong_read R ([82, 69, 84, 75, 32, 48, 32, 48, 32, 55, 10], 0) (by decide) (by decide) W (R.keep w W hw hW)
  go_enter Tryd.func4, Tryd.ntmps4
  go_wp2_with fail
  refine (lalive_any R _ hw).mono ?_
  rintro r w1 ⟨rfl, hb1⟩
  go_wp2_with fail
  refine (HREAD.out _ ((hb1.alloc hb1.size _).alloc (by have := hb1.size; simp; omega) _)).mono ?_
  rintro r w2 ⟨⟨v, rfl⟩, hb2⟩
  have HB := Lib.hid (below_step ((hb1.alloc hb1.size _).alloc (by have := hb1.size; simp; omega) _) (Nat.le_refl _) hb2)
  have hc2 := (hb2.cell (p := ⟨w1.heap.size + 1, 5, none⟩) (by simp)).trans (at_cell w1 5 (0) rfl)
  have hs2 : w1.heap.size + 1 < w2.heap.size := by have := hb2.size; simp at this; omega
  clear hb1
  go_wp2_with fail
  go_quiet ((go_at_call 12; exact Calls.quiet_of_same ((lnum_any _ _).mono fun _ _ h => ⟨h.1, h.2.symm⟩)))
  go_wp2
  go_ret
  exact ⟨rfl, below_drewN HB.out _⟩

set_option maxRecDepth 100000 in
set_option maxHeartbeats 2000000 in
theorem lwrong_6 (R : ListSays L) (w : World) (hw : L w) : Calls Tryd.prog 4 #[.int .i64 6] w fun e w' => e = .returned (.bool true) ∧ Below w.heap.size w w' := by
  have HREAD : Hid (∀ W : World, Below w.heap.size w W → Calls Tryd.prog 7 #[.string ⟨#[114, 101, 116, 107, 32, 48, 32, 48, 32, 48, 55, 10]⟩] W fun r w' => (∃ v, r = .returned (.tuple #[v, .int .i64 (0), .int .i64 3])) ∧ Below W.heap.size W w') := fun W hW => wrong_read R ([114, 101, 116, 107, 32, 48, 32, 48, 32, 48, 55, 10], 0) (by decide) (by decide) W (R.keep w W hw hW)
  go_enter Tryd.func4, Tryd.ntmps4
  go_wp2_with fail
  refine (lalive_any R _ hw).mono ?_
  rintro r w1 ⟨rfl, hb1⟩
  go_wp2_with fail
  refine (HREAD.out _ ((hb1.alloc hb1.size _).alloc (by have := hb1.size; simp; omega) _)).mono ?_
  rintro r w2 ⟨⟨v, rfl⟩, hb2⟩
  have HB := Lib.hid (below_step ((hb1.alloc hb1.size _).alloc (by have := hb1.size; simp; omega) _) (Nat.le_refl _) hb2)
  have hc2 := (hb2.cell (p := ⟨w1.heap.size + 1, 6, none⟩) (by simp)).trans (at_cell w1 6 (0) rfl)
  have hs2 : w1.heap.size + 1 < w2.heap.size := by have := hb2.size; simp at this; omega
  clear hb1
  go_wp2_with fail
  go_quiet ((go_at_call 12; exact Calls.quiet_of_same ((lnum_any _ _).mono fun _ _ h => ⟨h.1, h.2.symm⟩)))
  go_wp2
  go_ret
  exact ⟨rfl, below_drewN HB.out _⟩

set_option maxRecDepth 100000 in
set_option maxHeartbeats 2000000 in
theorem lwrong_7 (R : ListSays L) (w : World) (hw : L w) : Calls Tryd.prog 4 #[.int .i64 7] w fun e w' => e = .returned (.bool true) ∧ Below w.heap.size w w' := by
  have HREAD : Hid (∀ W : World, Below w.heap.size w W → Calls Tryd.prog 7 #[.string ⟨#[114, 101, 116, 107, 32, 50, 53, 54, 32, 48, 32, 55, 10]⟩] W fun r w' => (∃ v, r = .returned (.tuple #[v, .int .i64 (0), .int .i64 3])) ∧ Below W.heap.size W w') := fun W hW => wrong_read R ([114, 101, 116, 107, 32, 50, 53, 54, 32, 48, 32, 55, 10], 0) (by decide) (by decide) W (R.keep w W hw hW)
  go_enter Tryd.func4, Tryd.ntmps4
  go_wp2_with fail
  refine (lalive_any R _ hw).mono ?_
  rintro r w1 ⟨rfl, hb1⟩
  go_wp2_with fail
  refine (HREAD.out _ ((hb1.alloc hb1.size _).alloc (by have := hb1.size; simp; omega) _)).mono ?_
  rintro r w2 ⟨⟨v, rfl⟩, hb2⟩
  have HB := Lib.hid (below_step ((hb1.alloc hb1.size _).alloc (by have := hb1.size; simp; omega) _) (Nat.le_refl _) hb2)
  have hc2 := (hb2.cell (p := ⟨w1.heap.size + 1, 7, none⟩) (by simp)).trans (at_cell w1 7 (0) rfl)
  have hs2 : w1.heap.size + 1 < w2.heap.size := by have := hb2.size; simp at this; omega
  clear hb1
  go_wp2_with fail
  go_quiet ((go_at_call 12; exact Calls.quiet_of_same ((lnum_any _ _).mono fun _ _ h => ⟨h.1, h.2.symm⟩)))
  go_wp2
  go_ret
  exact ⟨rfl, below_drewN HB.out _⟩

set_option maxRecDepth 100000 in
set_option maxHeartbeats 2000000 in
theorem lwrong_8 (R : ListSays L) (w : World) (hw : L w) : Calls Tryd.prog 4 #[.int .i64 8] w fun e w' => e = .returned (.bool true) ∧ Below w.heap.size w w' := by
  have HREAD : Hid (∀ W : World, Below w.heap.size w W → Calls Tryd.prog 7 #[.string ⟨#[114, 101, 116, 107, 32, 48, 32, 48, 32, 52, 50, 57, 52, 57, 54, 55, 50, 57, 53, 10]⟩] W fun r w' => (∃ v, r = .returned (.tuple #[v, .int .i64 (-1), .int .i64 0])) ∧ Below W.heap.size W w') := fun W hW => wrong_read R ([114, 101, 116, 107, 32, 48, 32, 48, 32, 52, 50, 57, 52, 57, 54, 55, 50, 57, 53, 10], -1) (by decide) (by decide) W (R.keep w W hw hW)
  go_enter Tryd.func4, Tryd.ntmps4
  go_wp2_with fail
  refine (lalive_any R _ hw).mono ?_
  rintro r w1 ⟨rfl, hb1⟩
  go_wp2_with fail
  refine (HREAD.out _ ((hb1.alloc hb1.size _).alloc (by have := hb1.size; simp; omega) _)).mono ?_
  rintro r w2 ⟨⟨v, rfl⟩, hb2⟩
  have HB := Lib.hid (below_step ((hb1.alloc hb1.size _).alloc (by have := hb1.size; simp; omega) _) (Nat.le_refl _) hb2)
  have hc2 := (hb2.cell (p := ⟨w1.heap.size + 1, 8, none⟩) (by simp)).trans (at_cell w1 8 (-1) rfl)
  have hs2 : w1.heap.size + 1 < w2.heap.size := by have := hb2.size; simp at this; omega
  clear hb1
  go_wp2_with fail
  go_quiet ((go_at_call 12; exact Calls.quiet_of_same ((lnum_any _ _).mono fun _ _ h => ⟨h.1, h.2.symm⟩)))
  go_wp2
  go_ret
  exact ⟨rfl, below_drewN HB.out _⟩

set_option maxRecDepth 100000 in
set_option maxHeartbeats 2000000 in
theorem lwrong_9 (R : ListSays L) (w : World) (hw : L w) : Calls Tryd.prog 4 #[.int .i64 9] w fun e w' => e = .returned (.bool true) ∧ Below w.heap.size w w' := by
  have HREAD : Hid (∀ W : World, Below w.heap.size w W → Calls Tryd.prog 7 #[.string ⟨#[114, 101, 116, 107, 32, 48, 32, 48, 32, 52, 50, 57, 52, 57, 54, 55, 50, 57, 54, 10]⟩] W fun r w' => (∃ v, r = .returned (.tuple #[v, .int .i64 (0), .int .i64 3])) ∧ Below W.heap.size W w') := fun W hW => wrong_read R ([114, 101, 116, 107, 32, 48, 32, 48, 32, 52, 50, 57, 52, 57, 54, 55, 50, 57, 54, 10], 0) (by decide) (by decide) W (R.keep w W hw hW)
  go_enter Tryd.func4, Tryd.ntmps4
  go_wp2_with fail
  refine (lalive_any R _ hw).mono ?_
  rintro r w1 ⟨rfl, hb1⟩
  go_wp2_with fail
  refine (HREAD.out _ ((hb1.alloc hb1.size _).alloc (by have := hb1.size; simp; omega) _)).mono ?_
  rintro r w2 ⟨⟨v, rfl⟩, hb2⟩
  have HB := Lib.hid (below_step ((hb1.alloc hb1.size _).alloc (by have := hb1.size; simp; omega) _) (Nat.le_refl _) hb2)
  have hc2 := (hb2.cell (p := ⟨w1.heap.size + 1, 9, none⟩) (by simp)).trans (at_cell w1 9 (0) rfl)
  have hs2 : w1.heap.size + 1 < w2.heap.size := by have := hb2.size; simp at this; omega
  clear hb1
  go_wp2_with fail
  go_quiet ((go_at_call 12; exact Calls.quiet_of_same ((lnum_any _ _).mono fun _ _ h => ⟨h.1, h.2.symm⟩)))
  go_wp2
  go_ret
  exact ⟨rfl, below_drewN HB.out _⟩

set_option maxRecDepth 100000 in
set_option maxHeartbeats 2000000 in
theorem lwrong_10 (R : ListSays L) (w : World) (hw : L w) : Calls Tryd.prog 4 #[.int .i64 10] w fun e w' => e = .returned (.bool true) ∧ Below w.heap.size w w' := by
  have HREAD : Hid (∀ W : World, Below w.heap.size w W → Calls Tryd.prog 7 #[.string ⟨#[99, 111, 100, 101, 32, 54, 32, 48, 32, 48, 32, 55, 10]⟩] W fun r w' => (∃ v, r = .returned (.tuple #[v, .int .i64 (0), .int .i64 3])) ∧ Below W.heap.size W w') := fun W hW => wrong_read R ([99, 111, 100, 101, 32, 54, 32, 48, 32, 48, 32, 55, 10], 0) (by decide) (by decide) W (R.keep w W hw hW)
  go_enter Tryd.func4, Tryd.ntmps4
  go_wp2_with fail
  refine (lalive_any R _ hw).mono ?_
  rintro r w1 ⟨rfl, hb1⟩
  go_wp2_with fail
  refine (HREAD.out _ ((hb1.alloc hb1.size _).alloc (by have := hb1.size; simp; omega) _)).mono ?_
  rintro r w2 ⟨⟨v, rfl⟩, hb2⟩
  have HB := Lib.hid (below_step ((hb1.alloc hb1.size _).alloc (by have := hb1.size; simp; omega) _) (Nat.le_refl _) hb2)
  have hc2 := (hb2.cell (p := ⟨w1.heap.size + 1, 10, none⟩) (by simp)).trans (at_cell w1 10 (0) rfl)
  have hs2 : w1.heap.size + 1 < w2.heap.size := by have := hb2.size; simp at this; omega
  clear hb1
  go_wp2_with fail
  go_quiet ((go_at_call 12; exact Calls.quiet_of_same ((lnum_any _ _).mono fun _ _ h => ⟨h.1, h.2.symm⟩)))
  go_wp2
  go_ret
  exact ⟨rfl, below_drewN HB.out _⟩

set_option maxRecDepth 100000 in
set_option maxHeartbeats 2000000 in
theorem lwrong_11 (R : ListSays L) (w : World) (hw : L w) : Calls Tryd.prog 4 #[.int .i64 11] w fun e w' => e = .returned (.bool true) ∧ Below w.heap.size w w' := by
  have HREAD : Hid (∀ W : World, Below w.heap.size w W → Calls Tryd.prog 7 #[.string ⟨#[99, 111, 100, 101, 32, 52, 48, 32, 48, 32, 48, 32, 55, 10]⟩] W fun r w' => (∃ v, r = .returned (.tuple #[v, .int .i64 (-1), .int .i64 0])) ∧ Below W.heap.size W w') := fun W hW => wrong_read R ([99, 111, 100, 101, 32, 52, 48, 32, 48, 32, 48, 32, 55, 10], -1) (by decide) (by decide) W (R.keep w W hw hW)
  go_enter Tryd.func4, Tryd.ntmps4
  go_wp2_with fail
  refine (lalive_any R _ hw).mono ?_
  rintro r w1 ⟨rfl, hb1⟩
  go_wp2_with fail
  refine (HREAD.out _ ((hb1.alloc hb1.size _).alloc (by have := hb1.size; simp; omega) _)).mono ?_
  rintro r w2 ⟨⟨v, rfl⟩, hb2⟩
  have HB := Lib.hid (below_step ((hb1.alloc hb1.size _).alloc (by have := hb1.size; simp; omega) _) (Nat.le_refl _) hb2)
  have hc2 := (hb2.cell (p := ⟨w1.heap.size + 1, 11, none⟩) (by simp)).trans (at_cell w1 11 (-1) rfl)
  have hs2 : w1.heap.size + 1 < w2.heap.size := by have := hb2.size; simp at this; omega
  clear hb1
  go_wp2_with fail
  go_quiet ((go_at_call 12; exact Calls.quiet_of_same ((lnum_any _ _).mono fun _ _ h => ⟨h.1, h.2.symm⟩)))
  go_wp2
  go_ret
  exact ⟨rfl, below_drewN HB.out _⟩

set_option maxRecDepth 100000 in
set_option maxHeartbeats 2000000 in
theorem lwrong_12 (R : ListSays L) (w : World) (hw : L w) : Calls Tryd.prog 4 #[.int .i64 12] w fun e w' => e = .returned (.bool true) ∧ Below w.heap.size w w' := by
  have HREAD : Hid (∀ W : World, Below w.heap.size w W → Calls Tryd.prog 7 #[.string ⟨#[99, 111, 100, 101, 32, 54, 53, 53, 51, 54, 32, 48, 32, 48, 32, 55, 10]⟩] W fun r w' => (∃ v, r = .returned (.tuple #[v, .int .i64 (0), .int .i64 3])) ∧ Below W.heap.size W w') := fun W hW => wrong_read R ([99, 111, 100, 101, 32, 54, 53, 53, 51, 54, 32, 48, 32, 48, 32, 55, 10], 0) (by decide) (by decide) W (R.keep w W hw hW)
  go_enter Tryd.func4, Tryd.ntmps4
  go_wp2_with fail
  refine (lalive_any R _ hw).mono ?_
  rintro r w1 ⟨rfl, hb1⟩
  go_wp2_with fail
  refine (HREAD.out _ ((hb1.alloc hb1.size _).alloc (by have := hb1.size; simp; omega) _)).mono ?_
  rintro r w2 ⟨⟨v, rfl⟩, hb2⟩
  have HB := Lib.hid (below_step ((hb1.alloc hb1.size _).alloc (by have := hb1.size; simp; omega) _) (Nat.le_refl _) hb2)
  have hc2 := (hb2.cell (p := ⟨w1.heap.size + 1, 12, none⟩) (by simp)).trans (at_cell w1 12 (0) rfl)
  have hs2 : w1.heap.size + 1 < w2.heap.size := by have := hb2.size; simp at this; omega
  clear hb1
  go_wp2_with fail
  go_quiet ((go_at_call 12; exact Calls.quiet_of_same ((lnum_any _ _).mono fun _ _ h => ⟨h.1, h.2.symm⟩)))
  go_wp2
  go_ret
  exact ⟨rfl, below_drewN HB.out _⟩

set_option maxRecDepth 100000 in
set_option maxHeartbeats 2000000 in
theorem lwrong_13 (R : ListSays L) (w : World) (hw : L w) : Calls Tryd.prog 4 #[.int .i64 13] w fun e w' => e = .returned (.bool true) ∧ Below w.heap.size w w' := by
  have HREAD : Hid (∀ W : World, Below w.heap.size w W → Calls Tryd.prog 7 #[.string ⟨#[114, 101, 116, 32, 48, 32, 48, 32, 55, 10]⟩] W fun r w' => (∃ v, r = .returned (.tuple #[v, .int .i64 (0), .int .i64 3])) ∧ Below W.heap.size W w') := fun W hW => wrong_read R ([114, 101, 116, 32, 48, 32, 48, 32, 55, 10], 0) (by decide) (by decide) W (R.keep w W hw hW)
  go_enter Tryd.func4, Tryd.ntmps4
  go_wp2_with fail
  refine (lalive_any R _ hw).mono ?_
  rintro r w1 ⟨rfl, hb1⟩
  go_wp2_with fail
  refine (HREAD.out _ ((hb1.alloc hb1.size _).alloc (by have := hb1.size; simp; omega) _)).mono ?_
  rintro r w2 ⟨⟨v, rfl⟩, hb2⟩
  have HB := Lib.hid (below_step ((hb1.alloc hb1.size _).alloc (by have := hb1.size; simp; omega) _) (Nat.le_refl _) hb2)
  have hc2 := (hb2.cell (p := ⟨w1.heap.size + 1, 13, none⟩) (by simp)).trans (at_cell w1 13 (0) rfl)
  have hs2 : w1.heap.size + 1 < w2.heap.size := by have := hb2.size; simp at this; omega
  clear hb1
  go_wp2_with fail
  go_quiet ((go_at_call 12; exact Calls.quiet_of_same ((lnum_any _ _).mono fun _ _ h => ⟨h.1, h.2.symm⟩)))
  go_wp2
  go_ret
  exact ⟨rfl, below_drewN HB.out _⟩

set_option maxRecDepth 100000 in
set_option maxHeartbeats 2000000 in
theorem lwrong_14 (R : ListSays L) (w : World) (hw : L w) : Calls Tryd.prog 4 #[.int .i64 14] w fun e w' => e = .returned (.bool true) ∧ Below w.heap.size w w' := by
  have HREAD : Hid (∀ W : World, Below w.heap.size w W → Calls Tryd.prog 7 #[.string ⟨#[114, 101, 116, 107, 32, 48, 32, 48, 10]⟩] W fun r w' => (∃ v, r = .returned (.tuple #[v, .int .i64 (0), .int .i64 3])) ∧ Below W.heap.size W w') := fun W hW => wrong_read R ([114, 101, 116, 107, 32, 48, 32, 48, 10], 0) (by decide) (by decide) W (R.keep w W hw hW)
  go_enter Tryd.func4, Tryd.ntmps4
  go_wp2_with fail
  refine (lalive_any R _ hw).mono ?_
  rintro r w1 ⟨rfl, hb1⟩
  go_wp2_with fail
  refine (HREAD.out _ ((hb1.alloc hb1.size _).alloc (by have := hb1.size; simp; omega) _)).mono ?_
  rintro r w2 ⟨⟨v, rfl⟩, hb2⟩
  have HB := Lib.hid (below_step ((hb1.alloc hb1.size _).alloc (by have := hb1.size; simp; omega) _) (Nat.le_refl _) hb2)
  have hc2 := (hb2.cell (p := ⟨w1.heap.size + 1, 14, none⟩) (by simp)).trans (at_cell w1 14 (0) rfl)
  have hs2 : w1.heap.size + 1 < w2.heap.size := by have := hb2.size; simp at this; omega
  clear hb1
  go_wp2_with fail
  go_quiet ((go_at_call 12; exact Calls.quiet_of_same ((lnum_any _ _).mono fun _ _ h => ⟨h.1, h.2.symm⟩)))
  go_wp2
  go_ret
  exact ⟨rfl, below_drewN HB.out _⟩

set_option maxRecDepth 100000 in
set_option maxHeartbeats 2000000 in
theorem lwrong_15 (R : ListSays L) (w : World) (hw : L w) : Calls Tryd.prog 4 #[.int .i64 15] w fun e w' => e = .returned (.bool true) ∧ Below w.heap.size w w' := by
  have HREAD : Hid (∀ W : World, Below w.heap.size w W → Calls Tryd.prog 7 #[.string ⟨#[114, 101, 116, 107, 32, 48, 32, 48, 32, 55, 10, 120, 10]⟩] W fun r w' => (∃ v, r = .returned (.tuple #[v, .int .i64 (1), .int .i64 3])) ∧ Below W.heap.size W w') := fun W hW => wrong_read R ([114, 101, 116, 107, 32, 48, 32, 48, 32, 55, 10, 120, 10], 1) (by decide) (by decide) W (R.keep w W hw hW)
  go_enter Tryd.func4, Tryd.ntmps4
  go_wp2_with fail
  refine (lalive_any R _ hw).mono ?_
  rintro r w1 ⟨rfl, hb1⟩
  go_wp2_with fail
  refine (HREAD.out _ ((hb1.alloc hb1.size _).alloc (by have := hb1.size; simp; omega) _)).mono ?_
  rintro r w2 ⟨⟨v, rfl⟩, hb2⟩
  have HB := Lib.hid (below_step ((hb1.alloc hb1.size _).alloc (by have := hb1.size; simp; omega) _) (Nat.le_refl _) hb2)
  have hc2 := (hb2.cell (p := ⟨w1.heap.size + 1, 15, none⟩) (by simp)).trans (at_cell w1 15 (1) rfl)
  have hs2 : w1.heap.size + 1 < w2.heap.size := by have := hb2.size; simp at this; omega
  clear hb1
  go_wp2_with fail
  go_quiet ((go_at_call 12; exact Calls.quiet_of_same ((lnum_any _ _).mono fun _ _ h => ⟨h.1, h.2.symm⟩)))
  go_wp2
  go_ret
  exact ⟨rfl, below_drewN HB.out _⟩

set_option maxRecDepth 100000 in
set_option maxHeartbeats 2000000 in
theorem lwrong_16 (R : ListSays L) (w : World) (hw : L w) : Calls Tryd.prog 4 #[.int .i64 16] w fun e w' => e = .returned (.bool true) ∧ Below w.heap.size w w' := by
  have HREAD : Hid (∀ W : World, Below w.heap.size w W → Calls Tryd.prog 7 #[.string ⟨#[114, 101, 116, 107, 32, 48, 32, 48, 32, 55, 32, 10]⟩] W fun r w' => (∃ v, r = .returned (.tuple #[v, .int .i64 (0), .int .i64 3])) ∧ Below W.heap.size W w') := fun W hW => wrong_read R ([114, 101, 116, 107, 32, 48, 32, 48, 32, 55, 32, 10], 0) (by decide) (by decide) W (R.keep w W hw hW)
  go_enter Tryd.func4, Tryd.ntmps4
  go_wp2_with fail
  refine (lalive_any R _ hw).mono ?_
  rintro r w1 ⟨rfl, hb1⟩
  go_wp2_with fail
  refine (HREAD.out _ ((hb1.alloc hb1.size _).alloc (by have := hb1.size; simp; omega) _)).mono ?_
  rintro r w2 ⟨⟨v, rfl⟩, hb2⟩
  have HB := Lib.hid (below_step ((hb1.alloc hb1.size _).alloc (by have := hb1.size; simp; omega) _) (Nat.le_refl _) hb2)
  have hc2 := (hb2.cell (p := ⟨w1.heap.size + 1, 16, none⟩) (by simp)).trans (at_cell w1 16 (0) rfl)
  have hs2 : w1.heap.size + 1 < w2.heap.size := by have := hb2.size; simp at this; omega
  clear hb1
  go_wp2_with fail
  go_quiet ((go_at_call 12; exact Calls.quiet_of_same ((lnum_any _ _).mono fun _ _ h => ⟨h.1, h.2.symm⟩)))
  go_wp2
  go_ret
  exact ⟨rfl, below_drewN HB.out _⟩

set_option maxHeartbeats 1000000 in
theorem lwrong_out (R : ListSays L) (k : Int) (w : World) (hw : L w) (h : k < 0 ∨ 17 ≤ k) : Calls Tryd.prog 4 #[.int .i64 k] w fun e w' => e = .returned (.bool true) ∧ Below w.heap.size w w' := by
  rcases h with h | h
  all_goals
    go_enter Tryd.func4, Tryd.ntmps4
    go_wp2_with fail
    refine (lalive_any R _ hw).mono ?_
    rintro r w1 ⟨rfl, hb1⟩
    go_wp2
    go_ret
    exact ⟨rfl, (hb1.alloc hb1.size _).alloc (by have := hb1.size; simp; omega) _⟩

theorem lwrong_any (R : ListSays L) (k : Int) (w : World) (hw : L w) : Calls Tryd.prog 4 #[.int .i64 k] w fun e w' => e = .returned (.bool true) ∧ Below w.heap.size w w' := by
  by_cases h : k < 0 ∨ 17 ≤ k
  · exact lwrong_out R k w hw h
  · rcases (show k = 0 ∨ k = 1 ∨ k = 2 ∨ k = 3 ∨ k = 4 ∨ k = 5 ∨ k = 6 ∨ k = 7 ∨ k = 8 ∨ k = 9 ∨ k = 10 ∨ k = 11 ∨ k = 12 ∨ k = 13 ∨ k = 14 ∨ k = 15 ∨ k = 16 from by omega) with rfl | rfl | rfl | rfl | rfl | rfl | rfl | rfl | rfl | rfl | rfl | rfl | rfl | rfl | rfl | rfl | rfl
    · exact lwrong_0 R w hw
    · exact lwrong_1 R w hw
    · exact lwrong_2 R w hw
    · exact lwrong_3 R w hw
    · exact lwrong_4 R w hw
    · exact lwrong_5 R w hw
    · exact lwrong_6 R w hw
    · exact lwrong_7 R w hw
    · exact lwrong_8 R w hw
    · exact lwrong_9 R w hw
    · exact lwrong_10 R w hw
    · exact lwrong_11 R w hw
    · exact lwrong_12 R w hw
    · exact lwrong_13 R w hw
    · exact lwrong_14 R w hw
    · exact lwrong_15 R w hw
    · exact lwrong_16 R w hw

end Go.Proofs.YtdcpdieejknliaaDoor
