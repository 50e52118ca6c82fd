/- What the landed kind and Value give. No condition. -/
import Derived.Test.YtogpicfofifbkaaDoorCallTab
import Derived.OwnWalk
import Derived.Test.YtogpicfofifbkaaDoorChecked
namespace Go.Proofs.YtogpicfofifbkaaDoor
open Go.RowKit

/-! ### The actions' values -/
def kindOf (k : Int) : Int × Int × Bool :=
  if k = 1 then (2147483648, 0, true) else if k = 2 then (0, 0, true) else if k = 3 then (196608, 65535, true) else if k = 4 then (327680, 65535, true) else if k = 5 then (2146435072, 65535, true)
  else if k = 6 then (2147221504, 0, true) else if k = 7 then (2147418112, 0, true) else (0, 0, false)

set_option maxRecDepth 100000 in
theorem land_kind (k : Int) (w : World) : Calls Tryd.prog 50 #[.int .i64 k] w fun e w' => e = .returned (.tuple #[.int .u32 (kindOf k).1, .int .i64 (kindOf k).2.1, .bool (kindOf k).2.2]) ∧ w' = w := by
  by_cases h : k = 1 ∨ k = 2 ∨ k = 3 ∨ k = 4 ∨ k = 5 ∨ k = 6 ∨ k = 7
  · rcases h with rfl | rfl | rfl | rfl | rfl | rfl | rfl
    all_goals
      go_enter Tryd.func50, Tryd.ntmps50
      go_wp2
      go_ret3
      exact ⟨rfl, rfl⟩
  · have e : kindOf k = (0, 0, false) := by
      unfold kindOf
      rw [if_neg (by omega), if_neg (by omega), if_neg (by omega), if_neg (by omega), if_neg (by omega), if_neg (by omega), if_neg (by omega)]
    rw [e]
    have h1 : ¬ k = 1 := by omega
    have h2 : ¬ k = 2 := by omega
    have h3 : ¬ k = 3 := by omega
    have h4 : ¬ k = 4 := by omega
    have h5 : ¬ k = 5 := by omega
    have h6 : ¬ k = 6 := by omega
    have h7 : ¬ k = 7 := by omega
    clear h e
    go_enter Tryd.func50, Tryd.ntmps50
    go_wp2
    go_ret3
    exact ⟨rfl, rfl⟩

theorem value_is (k d : Int) : valueOf k d = if (kindOf k).2.2 = true ∧ 0 ≤ d ∧ d ≤ (kindOf k).2.1 then ((kindOf k).1 + d, true) else (0, false) := by
  by_cases h : k = 1 ∨ k = 2 ∨ k = 3 ∨ k = 4 ∨ k = 5 ∨ k = 6 ∨ k = 7
  · rcases h with rfl | rfl | rfl | rfl | rfl | rfl | rfl <;> simp [valueOf, kindOf] <;> (try split) <;> (try split) <;> simp_all <;> omega
  · have e : kindOf k = (0, 0, false) := by
      unfold kindOf
      rw [if_neg (by omega), if_neg (by omega), if_neg (by omega), if_neg (by omega), if_neg (by omega), if_neg (by omega), if_neg (by omega)]
    rw [e]
    unfold valueOf
    rw [if_neg (by omega), if_neg (by omega)]
    simp

theorem kind_bounds (k : Int) : 0 ≤ (kindOf k).1 ∧ (kindOf k).1 ≤ 2147483648 ∧ 0 ≤ (kindOf k).2.1 ∧ (kindOf k).2.1 ≤ 65535 ∧ ((kindOf k).1 + (kindOf k).2.1 ≤ 2147549183) := by
  by_cases h : k = 1 ∨ k = 2 ∨ k = 3 ∨ k = 4 ∨ k = 5 ∨ k = 6 ∨ k = 7
  · rcases h with rfl | rfl | rfl | rfl | rfl | rfl | rfl <;> decide
  · have e : kindOf k = (0, 0, false) := by
      unfold kindOf
      rw [if_neg (by omega), if_neg (by omega), if_neg (by omega), if_neg (by omega), if_neg (by omega), if_neg (by omega), if_neg (by omega)]
    rw [e]
    decide

set_option maxRecDepth 100000 in
set_option maxHeartbeats 1000000 in
theorem land_value (k d : Int) (w : World) (d0 : -9223372036854775808 ≤ d) (d1 : d ≤ 9223372036854775807) : Calls Tryd.prog 36 #[.agg #[.int .i64 k, .int .i64 d]] w (U32Bool (valueOf k d) w) := by
  have HK : Hid (∀ W, Calls Tryd.prog 50 #[.int .i64 k] W fun e w' => e = .returned (.tuple #[.int .u32 (kindOf k).1, .int .i64 (kindOf k).2.1, .bool (kindOf k).2.2]) ∧ w' = W) := fun W => land_kind k W
  have HN : Hid (Below w.heap.size w (w.alloc (.cells #[.int .i64 k, .int .i64 d] 28))) := below_alloc (Below.refl _ _) (Nat.le_refl _) _
  obtain ⟨b0, b1, b2, b3, b4⟩ := kind_bounds k
  rw [value_is]
  obtain ⟨⟨u, m, ok⟩, hU⟩ : ∃ U, U = kindOf k := ⟨_, rfl⟩
  rw [← hU] at HK b0 b1 b2 b3 b4 ⊢
  clear hU
  dsimp only at HK b0 b1 b2 b3 b4 ⊢
  cases ok
  · rw [if_neg (by simp)]
    go_enter Tryd.func36, Tryd.ntmps36
    go_wp2_with fail
    refine (HK.out _).mono ?_
    rintro e w2 ⟨rfl, rfl⟩
    go_wp2
    go_ret2
    exact ⟨rfl, HN.out⟩
  · by_cases h0 : d < 0
    · rw [if_neg (by omega)]
      go_enter Tryd.func36, Tryd.ntmps36
      go_wp2_with fail
      refine (HK.out _).mono ?_
      rintro e w2 ⟨rfl, rfl⟩
      go_wp2
      go_ret2
      exact ⟨rfl, HN.out⟩
    · by_cases h1 : m < d
      · rw [if_neg (by omega)]
        go_enter Tryd.func36, Tryd.ntmps36
        go_wp2_with fail
        refine (HK.out _).mono ?_
        rintro e w2 ⟨rfl, rfl⟩
        go_wp2
        go_ret2
        exact ⟨rfl, HN.out⟩
      · rw [if_pos ⟨rfl, by omega, by omega⟩]
        have e1 : IntKind.u32.wrap d = d := by rw [IntKind.wrap_u32]; omega
        have e2 : IntKind.u32.wrap (u + d) = u + d := by rw [IntKind.wrap_u32]; omega
        go_enter Tryd.func36, Tryd.ntmps36
        go_wp2_with fail
        refine (HK.out _).mono ?_
        rintro e w2 ⟨rfl, rfl⟩
        go_wp2
        go_ret2
        exact ⟨rfl, HN.out⟩

end Go.Proofs.YtogpicfofifbkaaDoor
