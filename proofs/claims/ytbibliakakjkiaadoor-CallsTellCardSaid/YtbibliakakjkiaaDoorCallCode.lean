/- What package calls' functions say, shown of the landed code. No condition but what the start lays of strings.asciiSpace. -/
import Derived.Test.YtbibliakakjkiaaDoorCallAllL
namespace Go.Proofs.YtbibliakakjkiaaDoor
open Go.RowKit

theorem value_is (k d : Int) : valueOf k d = if (kindOf k).2.2 = true ∧ 0 ≤ d ∧ d ≤ (kindOf k).2.1 then ((kindOf k).1 + d, true) else (0, false) := by
  by_cases h : k = 1 ∨ k = 2 ∨ k = 3 ∨ k = 4 ∨ k = 5 ∨ k = 6 ∨ k = 7
  · rcases h with rfl | rfl | rfl | rfl | rfl | rfl | rfl <;> simp [valueOf, kindOf] <;> (try split) <;> (try split) <;> simp_all <;> omega
  · have e : kindOf k = (0, 0, false) := by
      unfold kindOf
      rw [if_neg (by omega), if_neg (by omega), if_neg (by omega), if_neg (by omega), if_neg (by omega), if_neg (by omega), if_neg (by omega)]
    rw [e]
    unfold valueOf
    rw [if_neg (by omega), if_neg (by omega)]
    simp

theorem kind_bounds (k : Int) : 0 ≤ (kindOf k).1 ∧ (kindOf k).1 ≤ 2147483648 ∧ 0 ≤ (kindOf k).2.1 ∧ (kindOf k).2.1 ≤ 65535 ∧ ((kindOf k).1 + (kindOf k).2.1 ≤ 2147549183) := by
  by_cases h : k = 1 ∨ k = 2 ∨ k = 3 ∨ k = 4 ∨ k = 5 ∨ k = 6 ∨ k = 7
  · rcases h with rfl | rfl | rfl | rfl | rfl | rfl | rfl <;> decide
  · have e : kindOf k = (0, 0, false) := by
      unfold kindOf
      rw [if_neg (by omega), if_neg (by omega), if_neg (by omega), if_neg (by omega), if_neg (by omega), if_neg (by omega), if_neg (by omega)]
    rw [e]
    decide

set_option maxRecDepth 100000 in
set_option maxHeartbeats 1000000 in
theorem land_value (k d : Int) (w : World) (d0 : -9223372036854775808 ≤ d) (d1 : d ≤ 9223372036854775807) : Calls Tryd.prog 11 #[.agg #[.int .i64 k, .int .i64 d]] w (U32Bool (valueOf k d) w) := by
  have HK : Hid (∀ W, Calls Tryd.prog 19 #[.int .i64 k] W fun e w' => e = .returned (.tuple #[.int .u32 (kindOf k).1, .int .i64 (kindOf k).2.1, .bool (kindOf k).2.2]) ∧ w' = W) := fun W => land_kind k W
  have HN : Hid (Below w.heap.size w (w.alloc (.cells #[.int .i64 k, .int .i64 d] 23))) := below_alloc (Below.refl _ _) (Nat.le_refl _) _
  obtain ⟨b0, b1, b2, b3, b4⟩ := kind_bounds k
  rw [value_is]
  obtain ⟨⟨u, m, ok⟩, hU⟩ : ∃ U, U = kindOf k := ⟨_, rfl⟩
  rw [← hU] at HK b0 b1 b2 b3 b4 ⊢
  clear hU
  dsimp only at HK b0 b1 b2 b3 b4 ⊢
  cases ok
  · rw [if_neg (by simp)]
    go_enter Tryd.func11, Tryd.ntmps11
    go_wp2_with fail
    refine (HK.out _).mono ?_
    rintro e w2 ⟨rfl, rfl⟩
    go_wp2
    go_ret2
    exact ⟨rfl, HN.out⟩
  · by_cases h0 : d < 0
    · rw [if_neg (by omega)]
      go_enter Tryd.func11, Tryd.ntmps11
      go_wp2_with fail
      refine (HK.out _).mono ?_
      rintro e w2 ⟨rfl, rfl⟩
      go_wp2
      go_ret2
      exact ⟨rfl, HN.out⟩
    · by_cases h1 : m < d
      · rw [if_neg (by omega)]
        go_enter Tryd.func11, Tryd.ntmps11
        go_wp2_with fail
        refine (HK.out _).mono ?_
        rintro e w2 ⟨rfl, rfl⟩
        go_wp2
        go_ret2
        exact ⟨rfl, HN.out⟩
      · rw [if_pos ⟨rfl, by omega, by omega⟩]
        have e1 : IntKind.u32.wrap d = d := by rw [IntKind.wrap_u32]; omega
        have e2 : IntKind.u32.wrap (u + d) = u + d := by rw [IntKind.wrap_u32]; omega
        go_enter Tryd.func11, Tryd.ntmps11
        go_wp2_with fail
        refine (HK.out _).mono ?_
        rintro e w2 ⟨rfl, rfl⟩
        go_wp2
        go_ret2
        exact ⟨rfl, HN.out⟩

theorem call_says : CallSays Laid where
  keep := fun _ _ h hb => h.below hb
  arches := land_arches
  number := fun s w _ => land_arch s w
  all := fun s w hL _ => land_all s w hL
  find := fun s n w hL _ _ => land_find s n w hL
  value := fun k d w _ _ d0 d1 => land_value k d w d0 d1

end Go.Proofs.YtbibliakakjkiaaDoor
