/- What the document's own Value gives. -/
import Derived.Test.YtbibliakakjkiaaDoorCallTab
import Derived.Test.YtbibliakakjkiaaDoorStr
import Derived.Test.YtbibliakakjkiaaDoorChecked
namespace Go.Proofs.YtbibliakakjkiaaDoor
open Go.RowKit

set_option maxRecDepth 100000 in
set_option maxHeartbeats 2000000 in
theorem refValue_any (k d : Int) (w : World) (d0 : -9223372036854775808 ≤ d) (d1 : d ≤ 9223372036854775807) : Calls Tryd.prog 12 #[.agg #[.int .i64 k, .int .i64 d]] w (U32Bool (valueOf k d) w) := by
  by_cases hk : k = 3 ∨ k = 4 ∨ k = 5
  · by_cases h0 : d < 0
    · have hv : valueOf k d = (0, false) := by unfold valueOf; rw [if_pos hk, if_neg (by omega)]
      rw [hv]
      clear hv
      rcases hk with rfl | rfl | rfl
      all_goals
        go_enter Tryd.func12, Tryd.ntmps12
        go_wp2
        go_ret2
        exact ⟨rfl, (Below.refl _ _).alloc (Nat.le_refl _) _⟩
    by_cases h1 : 65535 < d
    · have hv : valueOf k d = (0, false) := by unfold valueOf; rw [if_pos hk, if_neg (by omega)]
      rw [hv]
      clear hv
      rcases hk with rfl | rfl | rfl
      all_goals
        go_enter Tryd.func12, Tryd.ntmps12
        go_wp2
        go_ret2
        exact ⟨rfl, (Below.refl _ _).alloc (Nat.le_refl _) _⟩
    · have hv : valueOf k d = ((if k = 3 then 196608 else if k = 4 then 327680 else 2146435072) + d, true) := by unfold valueOf; rw [if_pos hk, if_pos (by omega)]
      rw [hv]
      clear hv
      rcases hk with rfl | rfl | rfl
      all_goals
        go_enter Tryd.func12, Tryd.ntmps12
        go_wp2
        go_ret2
        refine ⟨?_, (Below.refl _ _).alloc (Nat.le_refl _) _⟩
        simp
        try omega
  by_cases hj : k = 1 ∨ k = 2 ∨ k = 6 ∨ k = 7
  · by_cases h0 : d = 0
    · subst h0
      have hv : valueOf k 0 = (if k = 1 then 2147483648 else if k = 2 then 0 else if k = 6 then 2147221504 else 2147418112, true) := by unfold valueOf; rw [if_neg hk, if_pos hj, if_pos rfl]
      rw [hv]
      clear hv hk
      rcases hj with rfl | rfl | rfl | rfl
      all_goals
        go_enter Tryd.func12, Tryd.ntmps12
        go_wp2
        go_ret2
        exact ⟨rfl, (Below.refl _ _).alloc (Nat.le_refl _) _⟩
    · have hv : valueOf k d = (0, false) := by unfold valueOf; rw [if_neg hk, if_pos hj, if_neg h0]
      have b0 : (d == 0) = false := by simpa using h0
      rw [hv]
      clear hv hk
      rcases hj with rfl | rfl | rfl | rfl
      all_goals
        go_enter Tryd.func12, Tryd.ntmps12
        go_wp2
        go_ret2
        exact ⟨rfl, (Below.refl _ _).alloc (Nat.le_refl _) _⟩
  · have hv : valueOf k d = (0, false) := by unfold valueOf; rw [if_neg hk, if_neg hj]
    rw [hv]
    clear hv
    simp only [not_or] at hk hj
    have b1 : (k == 1) = false := by simpa using hj.1
    have b2 : (k == 2) = false := by simpa using hj.2.1
    have b6 : (k == 6) = false := by simpa using hj.2.2.1
    have b7 : (k == 7) = false := by simpa using hj.2.2.2
    have b3 : (k == 3) = false := by simpa using hk.1
    have b4 : (k == 4) = false := by simpa using hk.2.1
    have b5 : (k == 5) = false := by simpa using hk.2.2
    clear hk hj
    go_enter Tryd.func12, Tryd.ntmps12
    go_wp2
    go_ret2
    exact ⟨rfl, (Below.refl _ _).alloc (Nat.le_refl _) _⟩

end Go.Proofs.YtbibliakakjkiaaDoor
