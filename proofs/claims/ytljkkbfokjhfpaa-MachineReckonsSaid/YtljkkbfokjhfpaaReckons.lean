/- The walk of the statement MachineReckons: it returns true, and writes nothing that was there. -/
import Derived.Test.YtljkkbfokjhfpaaReckPlain
import Derived.Test.YtljkkbfokjhfpaaStore
namespace Go.Proofs.Ytljkkbfokjhfpaa
open Go.RowKit

set_option maxRecDepth 100000 in
set_option maxHeartbeats 1000000 in
theorem reckons_0 (R : MacSays) (a b : Int) (w : World) (ha : 0 ≤ a ∧ a ≤ 4294967295) (b0 : 0 ≤ b ∧ b ≤ 4294967295) :
    Calls Try.prog 4 #[.int .i64 0, .int .u32 a, .int .u32 b] w fun r w' => r = .returned (.bool true) ∧ Below w.heap.size w w' := by
  have H1 : Hid (runOf (reck1 4 a b) dat0 = ((a + b) % 4294967296, 3, true)) := reck1_run 4 a b dat0 ⟨rfl, by decide, by decide, by decide, by decide, rfl⟩ (by omega)
  have H2 : Hid (runOf (reck2 12 a b) dat0 = ((a + b) % 4294967296, 5, true)) := reck2_run 12 a b dat0 ⟨rfl, by decide, by decide, by decide, by decide, rfl⟩ (by omega)
  obtain ⟨a0, a1⟩ := id ha
  obtain ⟨b1, b2⟩ := id b0
  go_enter Try.func4, Try.ntmps4
  go_wp2_with fail
  refine (malive_any R _).mono ?_
  rintro r w1 ⟨rfl, hb1⟩
  go_wp2_with fail
  refine (R.run (some ⟨_, 0, none⟩) 3 3 (reck1 4 a b) dat0 _ (lies_new _ _ _ (by simp) rfl rfl) (reck1_ok _ _ _ (by omega) ha b0) dat0_ok (by omega)).mono ?_
  rw [H1.out]
  rintro r w2 ⟨rfl, hb2⟩
  have hn2 := below_step (below_alloc (below_alloc hb1 (Nat.le_refl _) _) (Nat.le_refl _) _) (Nat.le_refl _) hb2
  clear hb1 hb2
  go_wp2_with fail
  refine (R.run (some ⟨_, 0, none⟩) 5 5 (reck2 12 a b) dat0 _ (lies_new _ _ _ (by simp) rfl rfl) (reck2_ok _ _ _ (by omega) ha b0) dat0_ok (by omega)).mono ?_
  rw [H2.out]
  rintro r w3 ⟨rfl, hb3⟩
  have hn3 := below_step (below_alloc hn2 (Nat.le_refl _) _) (Nat.le_refl _) hb3
  clear hn2 hb3
  go_wp2
  go_ret
  exact ⟨rfl, hn3⟩

set_option maxRecDepth 100000 in
set_option maxHeartbeats 1000000 in
theorem reckons_1 (R : MacSays) (a b : Int) (w : World) (ha : 0 ≤ a ∧ a ≤ 4294967295) (b0 : 0 ≤ b ∧ b ≤ 4294967295) :
    Calls Try.prog 4 #[.int .i64 1, .int .u32 a, .int .u32 b] w fun r w' => r = .returned (.bool true) ∧ Below w.heap.size w w' := by
  have H1 : Hid (runOf (reck1 20 a b) dat0 = ((a - b) % 4294967296, 3, true)) := reck1_run 20 a b dat0 ⟨rfl, by decide, by decide, by decide, by decide, rfl⟩ (by omega)
  have H2 : Hid (runOf (reck2 28 a b) dat0 = ((a - b) % 4294967296, 5, true)) := reck2_run 28 a b dat0 ⟨rfl, by decide, by decide, by decide, by decide, rfl⟩ (by omega)
  obtain ⟨a0, a1⟩ := id ha
  obtain ⟨b1, b2⟩ := id b0
  go_enter Try.func4, Try.ntmps4
  go_wp2_with fail
  refine (malive_any R _).mono ?_
  rintro r w1 ⟨rfl, hb1⟩
  go_wp2_with fail
  refine (R.run (some ⟨_, 0, none⟩) 3 3 (reck1 20 a b) dat0 _ (lies_new _ _ _ (by simp) rfl rfl) (reck1_ok _ _ _ (by omega) ha b0) dat0_ok (by omega)).mono ?_
  rw [H1.out]
  rintro r w2 ⟨rfl, hb2⟩
  have hn2 := below_step (below_alloc (below_alloc hb1 (Nat.le_refl _) _) (Nat.le_refl _) _) (Nat.le_refl _) hb2
  clear hb1 hb2
  go_wp2_with fail
  refine (R.run (some ⟨_, 0, none⟩) 5 5 (reck2 28 a b) dat0 _ (lies_new _ _ _ (by simp) rfl rfl) (reck2_ok _ _ _ (by omega) ha b0) dat0_ok (by omega)).mono ?_
  rw [H2.out]
  rintro r w3 ⟨rfl, hb3⟩
  have hn3 := below_step (below_alloc hn2 (Nat.le_refl _) _) (Nat.le_refl _) hb3
  clear hn2 hb3
  go_wp2
  go_ret
  exact ⟨rfl, hn3⟩

set_option maxRecDepth 100000 in
set_option maxHeartbeats 1000000 in
theorem reckons_2 (R : MacSays) (a b : Int) (w : World) (ha : 0 ≤ a ∧ a ≤ 4294967295) (b0 : 0 ≤ b ∧ b ≤ 4294967295) :
    Calls Try.prog 4 #[.int .i64 2, .int .u32 a, .int .u32 b] w fun r w' => r = .returned (.bool true) ∧ Below w.heap.size w w' := by
  have H1 : Hid (runOf (reck1 36 a b) dat0 = (a * b % 4294967296, 3, true)) := reck1_run 36 a b dat0 ⟨rfl, by decide, by decide, by decide, by decide, rfl⟩ (by omega)
  have H2 : Hid (runOf (reck2 44 a b) dat0 = (a * b % 4294967296, 5, true)) := reck2_run 44 a b dat0 ⟨rfl, by decide, by decide, by decide, by decide, rfl⟩ (by omega)
  obtain ⟨a0, a1⟩ := id ha
  obtain ⟨b1, b2⟩ := id b0
  go_enter Try.func4, Try.ntmps4
  go_wp2_with fail
  refine (malive_any R _).mono ?_
  rintro r w1 ⟨rfl, hb1⟩
  go_wp2_with fail
  refine (R.run (some ⟨_, 0, none⟩) 3 3 (reck1 36 a b) dat0 _ (lies_new _ _ _ (by simp) rfl rfl) (reck1_ok _ _ _ (by omega) ha b0) dat0_ok (by omega)).mono ?_
  rw [H1.out]
  rintro r w2 ⟨rfl, hb2⟩
  have hn2 := below_step (below_alloc (below_alloc hb1 (Nat.le_refl _) _) (Nat.le_refl _) _) (Nat.le_refl _) hb2
  clear hb1 hb2
  go_wp2_with fail
  refine (R.run (some ⟨_, 0, none⟩) 5 5 (reck2 44 a b) dat0 _ (lies_new _ _ _ (by simp) rfl rfl) (reck2_ok _ _ _ (by omega) ha b0) dat0_ok (by omega)).mono ?_
  rw [H2.out]
  rintro r w3 ⟨rfl, hb3⟩
  have hn3 := below_step (below_alloc hn2 (Nat.le_refl _) _) (Nat.le_refl _) hb3
  clear hn2 hb3
  go_wp2
  go_ret
  exact ⟨rfl, hn3⟩

set_option maxRecDepth 100000 in
set_option maxHeartbeats 1000000 in
theorem reckons_3 (R : MacSays) (a b : Int) (w : World) (ha : 0 ≤ a ∧ a ≤ 4294967295) (b0 : 0 ≤ b ∧ b ≤ 4294967295) (hb : ¬ b = 0) :
    Calls Try.prog 4 #[.int .i64 3, .int .u32 a, .int .u32 b] w fun r w' => r = .returned (.bool true) ∧ Below w.heap.size w w' := by
  have H1 : Hid (runOf (reck1 52 a b) dat0 = (a / b, 3, true)) := reck1_run 52 a b dat0 ⟨rfl, by decide, by decide, by decide, by decide, rfl⟩ (by exact fun h => hb h.2)
  have H2 : Hid (runOf (reck2 60 a b) dat0 = (a / b, 5, true)) := reck2_run 60 a b dat0 ⟨rfl, by decide, by decide, by decide, by decide, rfl⟩ (by exact fun h => hb h.2)
  obtain ⟨a0, a1⟩ := id ha
  obtain ⟨b1, b2⟩ := id b0
  have hq1 : (b == 0) = false := by simpa using hb
  have hq2 : (b != 0) = true := by simpa using hb
  go_enter Try.func4, Try.ntmps4
  go_wp2_with fail
  refine (malive_any R _).mono ?_
  rintro r w1 ⟨rfl, hb1⟩
  go_wp2_with fail
  refine (R.run (some ⟨_, 0, none⟩) 3 3 (reck1 52 a b) dat0 _ (lies_new _ _ _ (by simp) rfl rfl) (reck1_ok _ _ _ (by omega) ha b0) dat0_ok (by omega)).mono ?_
  rw [H1.out]
  rintro r w2 ⟨rfl, hb2⟩
  have hn2 := below_step (below_alloc (below_alloc hb1 (Nat.le_refl _) _) (Nat.le_refl _) _) (Nat.le_refl _) hb2
  clear hb1 hb2
  go_wp2_with fail
  refine (R.run (some ⟨_, 0, none⟩) 5 5 (reck2 60 a b) dat0 _ (lies_new _ _ _ (by simp) rfl rfl) (reck2_ok _ _ _ (by omega) ha b0) dat0_ok (by omega)).mono ?_
  rw [H2.out]
  rintro r w3 ⟨rfl, hb3⟩
  have hn3 := below_step (below_alloc hn2 (Nat.le_refl _) _) (Nat.le_refl _) hb3
  clear hn2 hb3
  go_wp2
  go_ret
  exact ⟨rfl, hn3⟩

set_option maxRecDepth 100000 in
set_option maxHeartbeats 1000000 in
theorem reckons_4 (R : MacSays) (a b : Int) (w : World) (ha : 0 ≤ a ∧ a ≤ 4294967295) (b0 : 0 ≤ b ∧ b ≤ 4294967295) :
    Calls Try.prog 4 #[.int .i64 4, .int .u32 a, .int .u32 b] w fun r w' => r = .returned (.bool true) ∧ Below w.heap.size w w' := by
  have H1 : Hid (runOf (reck1 68 a b) dat0 = (bits .or .u32 a b, 3, true)) := reck1_run 68 a b dat0 ⟨rfl, by decide, by decide, by decide, by decide, rfl⟩ (by omega)
  have H2 : Hid (runOf (reck2 76 a b) dat0 = (bits .or .u32 a b, 5, true)) := reck2_run 76 a b dat0 ⟨rfl, by decide, by decide, by decide, by decide, rfl⟩ (by omega)
  obtain ⟨a0, a1⟩ := id ha
  obtain ⟨b1, b2⟩ := id b0
  go_enter Try.func4, Try.ntmps4
  go_wp2_with fail
  refine (malive_any R _).mono ?_
  rintro r w1 ⟨rfl, hb1⟩
  go_wp2_with fail
  refine (R.run (some ⟨_, 0, none⟩) 3 3 (reck1 68 a b) dat0 _ (lies_new _ _ _ (by simp) rfl rfl) (reck1_ok _ _ _ (by omega) ha b0) dat0_ok (by omega)).mono ?_
  rw [H1.out]
  rintro r w2 ⟨rfl, hb2⟩
  have hn2 := below_step (below_alloc (below_alloc hb1 (Nat.le_refl _) _) (Nat.le_refl _) _) (Nat.le_refl _) hb2
  clear hb1 hb2
  go_wp2_with fail
  refine (R.run (some ⟨_, 0, none⟩) 5 5 (reck2 76 a b) dat0 _ (lies_new _ _ _ (by simp) rfl rfl) (reck2_ok _ _ _ (by omega) ha b0) dat0_ok (by omega)).mono ?_
  rw [H2.out]
  rintro r w3 ⟨rfl, hb3⟩
  have hn3 := below_step (below_alloc hn2 (Nat.le_refl _) _) (Nat.le_refl _) hb3
  clear hn2 hb3
  go_wp2
  go_ret
  exact ⟨rfl, hn3⟩

set_option maxRecDepth 100000 in
set_option maxHeartbeats 1000000 in
theorem reckons_5 (R : MacSays) (a b : Int) (w : World) (ha : 0 ≤ a ∧ a ≤ 4294967295) (b0 : 0 ≤ b ∧ b ≤ 4294967295) :
    Calls Try.prog 4 #[.int .i64 5, .int .u32 a, .int .u32 b] w fun r w' => r = .returned (.bool true) ∧ Below w.heap.size w w' := by
  have H1 : Hid (runOf (reck1 84 a b) dat0 = (bits .and .u32 a b, 3, true)) := reck1_run 84 a b dat0 ⟨rfl, by decide, by decide, by decide, by decide, rfl⟩ (by omega)
  have H2 : Hid (runOf (reck2 92 a b) dat0 = (bits .and .u32 a b, 5, true)) := reck2_run 92 a b dat0 ⟨rfl, by decide, by decide, by decide, by decide, rfl⟩ (by omega)
  obtain ⟨a0, a1⟩ := id ha
  obtain ⟨b1, b2⟩ := id b0
  go_enter Try.func4, Try.ntmps4
  go_wp2_with fail
  refine (malive_any R _).mono ?_
  rintro r w1 ⟨rfl, hb1⟩
  go_wp2_with fail
  refine (R.run (some ⟨_, 0, none⟩) 3 3 (reck1 84 a b) dat0 _ (lies_new _ _ _ (by simp) rfl rfl) (reck1_ok _ _ _ (by omega) ha b0) dat0_ok (by omega)).mono ?_
  rw [H1.out]
  rintro r w2 ⟨rfl, hb2⟩
  have hn2 := below_step (below_alloc (below_alloc hb1 (Nat.le_refl _) _) (Nat.le_refl _) _) (Nat.le_refl _) hb2
  clear hb1 hb2
  go_wp2_with fail
  refine (R.run (some ⟨_, 0, none⟩) 5 5 (reck2 92 a b) dat0 _ (lies_new _ _ _ (by simp) rfl rfl) (reck2_ok _ _ _ (by omega) ha b0) dat0_ok (by omega)).mono ?_
  rw [H2.out]
  rintro r w3 ⟨rfl, hb3⟩
  have hn3 := below_step (below_alloc hn2 (Nat.le_refl _) _) (Nat.le_refl _) hb3
  clear hn2 hb3
  go_wp2
  go_ret
  exact ⟨rfl, hn3⟩

set_option maxRecDepth 100000 in
set_option maxHeartbeats 1000000 in
theorem reckons_6 (R : MacSays) (a b : Int) (w : World) (ha : 0 ≤ a ∧ a ≤ 4294967295) (b0 : 0 ≤ b ∧ b ≤ 4294967295) :
    Calls Try.prog 4 #[.int .i64 6, .int .u32 a, .int .u32 b] w fun r w' => r = .returned (.bool true) ∧ Below w.heap.size w w' := by
  have H1 : Hid (runOf (reck1 164 a b) dat0 = (bits .xor .u32 a b, 3, true)) := reck1_run 164 a b dat0 ⟨rfl, by decide, by decide, by decide, by decide, rfl⟩ (by omega)
  have H2 : Hid (runOf (reck2 172 a b) dat0 = (bits .xor .u32 a b, 5, true)) := reck2_run 172 a b dat0 ⟨rfl, by decide, by decide, by decide, by decide, rfl⟩ (by omega)
  obtain ⟨a0, a1⟩ := id ha
  obtain ⟨b1, b2⟩ := id b0
  go_enter Try.func4, Try.ntmps4
  go_wp2_with fail
  refine (malive_any R _).mono ?_
  rintro r w1 ⟨rfl, hb1⟩
  go_wp2_with fail
  refine (R.run (some ⟨_, 0, none⟩) 3 3 (reck1 164 a b) dat0 _ (lies_new _ _ _ (by simp) rfl rfl) (reck1_ok _ _ _ (by omega) ha b0) dat0_ok (by omega)).mono ?_
  rw [H1.out]
  rintro r w2 ⟨rfl, hb2⟩
  have hn2 := below_step (below_alloc (below_alloc hb1 (Nat.le_refl _) _) (Nat.le_refl _) _) (Nat.le_refl _) hb2
  clear hb1 hb2
  go_wp2_with fail
  refine (R.run (some ⟨_, 0, none⟩) 5 5 (reck2 172 a b) dat0 _ (lies_new _ _ _ (by simp) rfl rfl) (reck2_ok _ _ _ (by omega) ha b0) dat0_ok (by omega)).mono ?_
  rw [H2.out]
  rintro r w3 ⟨rfl, hb3⟩
  have hn3 := below_step (below_alloc hn2 (Nat.le_refl _) _) (Nat.le_refl _) hb3
  clear hn2 hb3
  go_wp2
  go_ret
  exact ⟨rfl, hn3⟩

set_option maxRecDepth 100000 in
set_option maxHeartbeats 1000000 in
theorem reckons_7 (R : MacSays) (a b : Int) (w : World) (ha : 0 ≤ a ∧ a ≤ 4294967295) (b0 : 0 ≤ b ∧ b ≤ 4294967295) :
    Calls Try.prog 4 #[.int .i64 7, .int .u32 a, .int .u32 b] w fun r w' => r = .returned (.bool true) ∧ Below w.heap.size w w' := by
  have H1 : Hid (runOf (reck1 100 a b) dat0 = (a * 2 ^ (b % 32).toNat % 4294967296, 3, true)) := reck1_run 100 a b dat0 ⟨rfl, by decide, by decide, by decide, by decide, rfl⟩ (by omega)
  have H2 : Hid (runOf (reck2 108 a b) dat0 = (a * 2 ^ (b % 32).toNat % 4294967296, 5, true)) := reck2_run 108 a b dat0 ⟨rfl, by decide, by decide, by decide, by decide, rfl⟩ (by omega)
  obtain ⟨a0, a1⟩ := id ha
  obtain ⟨b1, b2⟩ := id b0
  have h31 := and31 b b1 b2
  go_enter Try.func4, Try.ntmps4
  go_wp2_with fail
  refine (malive_any R _).mono ?_
  rintro r w1 ⟨rfl, hb1⟩
  go_wp2_with fail
  refine (R.run (some ⟨_, 0, none⟩) 3 3 (reck1 100 a b) dat0 _ (lies_new _ _ _ (by simp) rfl rfl) (reck1_ok _ _ _ (by omega) ha b0) dat0_ok (by omega)).mono ?_
  rw [H1.out]
  rintro r w2 ⟨rfl, hb2⟩
  have hn2 := below_step (below_alloc (below_alloc hb1 (Nat.le_refl _) _) (Nat.le_refl _) _) (Nat.le_refl _) hb2
  clear hb1 hb2
  go_wp2_with fail
  refine (R.run (some ⟨_, 0, none⟩) 5 5 (reck2 108 a b) dat0 _ (lies_new _ _ _ (by simp) rfl rfl) (reck2_ok _ _ _ (by omega) ha b0) dat0_ok (by omega)).mono ?_
  rw [H2.out]
  rintro r w3 ⟨rfl, hb3⟩
  have hn3 := below_step (below_alloc hn2 (Nat.le_refl _) _) (Nat.le_refl _) hb3
  clear hn2 hb3
  go_wp2
  go_ret
  exact ⟨rfl, hn3⟩

set_option maxRecDepth 100000 in
set_option maxHeartbeats 1000000 in
theorem reckons_8 (R : MacSays) (a b : Int) (w : World) (ha : 0 ≤ a ∧ a ≤ 4294967295) (b0 : 0 ≤ b ∧ b ≤ 4294967295) :
    Calls Try.prog 4 #[.int .i64 8, .int .u32 a, .int .u32 b] w fun r w' => r = .returned (.bool true) ∧ Below w.heap.size w w' := by
  have H1 : Hid (runOf (reck1 116 a b) dat0 = (a / 2 ^ (b % 32).toNat, 3, true)) := reck1_run 116 a b dat0 ⟨rfl, by decide, by decide, by decide, by decide, rfl⟩ (by omega)
  have H2 : Hid (runOf (reck2 124 a b) dat0 = (a / 2 ^ (b % 32).toNat, 5, true)) := reck2_run 124 a b dat0 ⟨rfl, by decide, by decide, by decide, by decide, rfl⟩ (by omega)
  obtain ⟨a0, a1⟩ := id ha
  obtain ⟨b1, b2⟩ := id b0
  have h31 := and31 b b1 b2
  go_enter Try.func4, Try.ntmps4
  go_wp2_with fail
  refine (malive_any R _).mono ?_
  rintro r w1 ⟨rfl, hb1⟩
  go_wp2_with fail
  refine (R.run (some ⟨_, 0, none⟩) 3 3 (reck1 116 a b) dat0 _ (lies_new _ _ _ (by simp) rfl rfl) (reck1_ok _ _ _ (by omega) ha b0) dat0_ok (by omega)).mono ?_
  rw [H1.out]
  rintro r w2 ⟨rfl, hb2⟩
  have hn2 := below_step (below_alloc (below_alloc hb1 (Nat.le_refl _) _) (Nat.le_refl _) _) (Nat.le_refl _) hb2
  clear hb1 hb2
  go_wp2_with fail
  refine (R.run (some ⟨_, 0, none⟩) 5 5 (reck2 124 a b) dat0 _ (lies_new _ _ _ (by simp) rfl rfl) (reck2_ok _ _ _ (by omega) ha b0) dat0_ok (by omega)).mono ?_
  rw [H2.out]
  rintro r w3 ⟨rfl, hb3⟩
  have hn3 := below_step (below_alloc hn2 (Nat.le_refl _) _) (Nat.le_refl _) hb3
  clear hn2 hb3
  go_wp2
  go_ret
  exact ⟨rfl, hn3⟩

set_option maxRecDepth 100000 in
set_option maxHeartbeats 1000000 in
theorem reckons_none (R : MacSays) (a : Int) (w : World) (ha : 0 ≤ a ∧ a ≤ 4294967295) :
    Calls Try.prog 4 #[.int .i64 3, .int .u32 a, .int .u32 0] w fun r w' => r = .returned (.bool true) ∧ Below w.heap.size w w' := by
  have H1 : Hid (runOf (reck1 52 a 0) dat0 = (0, 1, false)) := reck1_none a dat0
  have H2 : Hid (runOf (reck2 60 a 0) dat0 = (0, 4, true)) := reck2_none a dat0
  obtain ⟨a0, a1⟩ := id ha
  go_enter Try.func4, Try.ntmps4
  go_wp2_with fail
  refine (malive_any R _).mono ?_
  rintro r w1 ⟨rfl, hb1⟩
  go_wp2_with fail
  refine (R.run (some ⟨_, 0, none⟩) 3 3 (reck1 52 a 0) dat0 _ (lies_new _ _ _ (by simp) rfl rfl) (reck1_ok _ _ _ (by omega) ha ⟨by decide, by decide⟩) dat0_ok (by omega)).mono ?_
  rw [H1.out]
  rintro r w2 ⟨rfl, hb2⟩
  have hn2 := below_step (below_alloc (below_alloc hb1 (Nat.le_refl _) _) (Nat.le_refl _) _) (Nat.le_refl _) hb2
  clear hb1 hb2
  go_wp2_with fail
  refine (R.run (some ⟨_, 0, none⟩) 5 5 (reck2 60 a 0) dat0 _ (lies_new _ _ _ (by simp) rfl rfl) (reck2_ok _ _ _ (by omega) ha ⟨by decide, by decide⟩) dat0_ok (by omega)).mono ?_
  rw [H2.out]
  rintro r w3 ⟨rfl, hb3⟩
  have hn3 := below_step (below_alloc hn2 (Nat.le_refl _) _) (Nat.le_refl _) hb3
  clear hn2 hb3
  go_wp2
  go_ret
  exact ⟨rfl, hn3⟩

set_option maxRecDepth 100000 in
set_option maxHeartbeats 1000000 in
theorem reckons_out (R : MacSays) (j a b : Int) (w : World) (hj : j < 0 ∨ 9 ≤ j) :
    Calls Try.prog 4 #[.int .i64 j, .int .u32 a, .int .u32 b] w fun r w' => r = .returned (.bool true) ∧ Below w.heap.size w w' := by
  rcases hj with hj | hj
  · go_enter Try.func4, Try.ntmps4
    go_wp2_with fail
    refine (malive_any R _).mono ?_
    rintro r w1 ⟨rfl, hb1⟩
    go_wp2
    go_ret
    exact ⟨rfl, below_alloc hb1 (Nat.le_refl _) _⟩
  · have hj0 : ¬ j < 0 := by omega
    go_enter Try.func4, Try.ntmps4
    go_wp2_with fail
    refine (malive_any R _).mono ?_
    rintro r w1 ⟨rfl, hb1⟩
    go_wp2
    go_ret
    exact ⟨rfl, below_alloc hb1 (Nat.le_refl _) _⟩

theorem reckons_any (R : MacSays) (j a b : Int) (w : World) (ha : 0 ≤ a ∧ a ≤ 4294967295) (b0 : 0 ≤ b ∧ b ≤ 4294967295) :
    Calls Try.prog 4 #[.int .i64 j, .int .u32 a, .int .u32 b] w fun r w' => r = .returned (.bool true) ∧ Below w.heap.size w w' := by
  by_cases h : j < 0 ∨ 9 ≤ j
  · exact reckons_out R j a b w h
  · rcases (show j = 0 ∨ j = 1 ∨ j = 2 ∨ j = 3 ∨ j = 4 ∨ j = 5 ∨ j = 6 ∨ j = 7 ∨ j = 8 from by omega) with rfl | rfl | rfl | rfl | rfl | rfl | rfl | rfl | rfl
    · exact reckons_0 R a b w ha b0
    · exact reckons_1 R a b w ha b0
    · exact reckons_2 R a b w ha b0
    · by_cases hb : b = 0
      · subst hb
        exact reckons_none R a w ha
      · exact reckons_3 R a b w ha b0 hb
    · exact reckons_4 R a b w ha b0
    · exact reckons_5 R a b w ha b0
    · exact reckons_6 R a b w ha b0
    · exact reckons_7 R a b w ha b0
    · exact reckons_8 R a b w ha b0

end Go.Proofs.Ytljkkbfokjhfpaa
