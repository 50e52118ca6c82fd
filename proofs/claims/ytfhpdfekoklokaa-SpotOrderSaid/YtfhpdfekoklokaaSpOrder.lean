/- The walk of the statement SpotOrder. -/
import Derived.Test.YtfhpdfekoklokaaSpBack
import Derived.Test.YtfhpdfekoklokaaFloatSub
namespace Go.Proofs.Ytfhpdfekoklokaa
open Go.RowKit

set_option maxRecDepth 100000 in
set_option maxHeartbeats 4000000 in
theorem sorder_in (R : SpotSays) (s : ByteArray) (i k : Nat) (w : World) (hs : s.size ≤ 300) (hi : i < k) (hk : k ≤ s.size) :
    Calls Try.prog 5 #[.string s, .int .i64 (i : Int), .int .i64 (k : Int)] w fun e w' => e = .returned (.bool true) ∧ Below w.heap.size w w' := by
  have hz : s.data.toList.length = s.size := by simp
  obtain ⟨P, hP⟩ : ∃ P, P = posAt s.data.toList (i : Int) := ⟨_, rfl⟩
  obtain ⟨Q, hQ⟩ : ∃ Q, Q = posAt s.data.toList (k : Int) := ⟨_, rfl⟩
  have bP := posAt_bd s.data.toList i (by omega)
  have bQ := posAt_bd s.data.toList k (by omega)
  have hl := posAt_later s.data.toList i k hi (by omega)
  rw [← hP] at bP hl
  rw [← hQ] at bQ hl
  have HA1 : Hid (∀ W : World, Calls Try.prog 10 #[.string s, .int .i64 (i : Int)] W fun e w' => e = .returned (.complex .f64 (fl (P.1 : Int)) (fl (P.2 : Int))) ∧ Below W.heap.size W w') := fun W => by rw [hP]; exact R.at_ s i W (by omega) (by omega) (by omega)
  have HA2 : Hid (∀ W : World, Calls Try.prog 10 #[.string s, .int .i64 (k : Int)] W fun e w' => e = .returned (.complex .f64 (fl (Q.1 : Int)) (fl (Q.2 : Int))) ∧ Below W.heap.size W w') := fun W => by rw [hQ]; exact R.at_ s k W (by omega) (by omega) (by omega)
  have g1 : (FloatKind.f64.format.order (fl (P.1 : Int)) 4607182418800017408 = some .eq) ∨ (FloatKind.f64.format.order (fl (P.1 : Int)) 4607182418800017408 = some .gt) := by
    have := order_fl P.1 1 bP.1 (by omega) (by omega) (by omega)
    rw [show ((1 : Nat) : Int) = 1 from rfl, fl1] at this
    rw [this]
    rcases Nat.lt_or_eq_of_le bP.1 with h | h
    · exact .inr (by rw [Nat.compare_eq_gt.2 h])
    · exact .inl (by rw [Nat.compare_eq_eq.2 h.symm])
  have g2 : (FloatKind.f64.format.order (fl (P.2 : Int)) 4607182418800017408 = some .eq) ∨ (FloatKind.f64.format.order (fl (P.2 : Int)) 4607182418800017408 = some .gt) := by
    have := order_fl P.2 1 bP.2.1 (by omega) (by omega) (by omega)
    rw [show ((1 : Nat) : Int) = 1 from rfl, fl1] at this
    rw [this]
    rcases Nat.lt_or_eq_of_le bP.2.1 with h | h
    · exact .inr (by rw [Nat.compare_eq_gt.2 h])
    · exact .inl (by rw [Nat.compare_eq_eq.2 h.symm])
  have hki : ((k - i : Nat) : Int) = (k : Int) - (i : Int) := by omega
  have g3 : (FloatKind.f64.format.order (fl (P.1 : Int)) (fl (Q.1 : Int)) = some .lt) ∨ (FloatKind.f64.format.order (fl (P.1 : Int)) (fl (Q.1 : Int)) = some .eq ∧ floatBits .sub .f64 (fl (Q.2 : Int)) (fl (P.2 : Int)) = some (floatOfInt .f64 ((k : Int) - (i : Int)))) := by
    have := order_fl P.1 Q.1 bP.1 (by omega) bQ.1 (by omega)
    rw [this]
    rcases hl with h | ⟨h1, h2⟩
    · exact .inl (by rw [Nat.compare_eq_lt.2 h])
    · refine .inr ⟨by rw [Nat.compare_eq_eq.2 h1.symm], ?_⟩
      have h3 := sub_fl P.2 Q.2 bP.2.1 (by omega) (by omega)
      rw [show Q.2 - P.2 = k - i from by omega, hki] at h3
      exact h3
  have f5 := feq_refl ((k : Int) - (i : Int))
  unfold feq fl at f5
  have s2 : IntKind.i64.wrap ((k : Int) - (i : Int)) = (k : Int) - (i : Int) := IntWalk.i64_in _ (by omega)
  clear hP hQ hl bP bQ hki hz
  have key : ∀ (o1 o2 : Ordering), (o1 = .eq ∨ o1 = .gt) → (o2 = .eq ∨ o2 = .gt) → FloatKind.f64.format.order (fl (P.1 : Int)) 4607182418800017408 = some o1 → FloatKind.f64.format.order (fl (P.2 : Int)) 4607182418800017408 = some o2 →
      Calls Try.prog 5 #[.string s, .int .i64 (i : Int), .int .i64 (k : Int)] w fun e w' => e = .returned (.bool true) ∧ Below w.heap.size w w' := by
    intro o1 o2 c1 c2 h1 h2
    clear g1 g2
    rcases g3 with g3 | ⟨g3, g4⟩
    · rcases c1 with rfl | rfl <;> rcases c2 with rfl | rfl
      all_goals
        go_enter Try.func5, Try.ntmps5
        go_wp2_with fail
        refine (salive_any R _).mono ?_
        rintro r w1 ⟨rfl, hb1⟩
        go_wp2_with fail
        refine (HA1.out _).mono ?_
        rintro r w2 ⟨rfl, hb2⟩
        have hn2 := below_step hb1 (Nat.le_refl _) hb2
        clear hb1 hb2
        go_wp2_with fail
        refine (HA2.out _).mono ?_
        rintro r w3 ⟨rfl, hb3⟩
        have HN3 := Lib.hid (below_step hn2 (Nat.le_refl _) hb3)
        clear hb3 hn2
        go_wp2
        go_ret
        exact ⟨rfl, HN3.out⟩
    · have hsub : ∀ W : World, (binOp .sub 22 (.float .f64 (fl (Q.2 : Int))) (.float .f64 (fl (P.2 : Int)))).run Try.prog W = .ok (.float .f64 (floatOfInt .f64 ((k : Int) - (i : Int)))) W := fun W => run_float_arith W .sub _ .f64 _ _ _ g4
      clear g4
      rcases c1 with rfl | rfl <;> rcases c2 with rfl | rfl
      all_goals
        go_enter Try.func5, Try.ntmps5
        go_wp2_with fail
        refine (salive_any R _).mono ?_
        rintro r w1 ⟨rfl, hb1⟩
        go_wp2_with fail
        refine (HA1.out _).mono ?_
        rintro r w2 ⟨rfl, hb2⟩
        have hn2 := below_step hb1 (Nat.le_refl _) hb2
        clear hb1 hb2
        go_wp2_with fail
        refine (HA2.out _).mono ?_
        rintro r w3 ⟨rfl, hb3⟩
        have HN3 := Lib.hid (below_step hn2 (Nat.le_refl _) hb3)
        clear hb3 hn2
        go_wp2
        go_ret
        exact ⟨rfl, HN3.out⟩
  rcases g1 with h1 | h1 <;> rcases g2 with h2 | h2
  · exact key _ _ (.inl rfl) (.inl rfl) h1 h2
  · exact key _ _ (.inl rfl) (.inr rfl) h1 h2
  · exact key _ _ (.inr rfl) (.inl rfl) h1 h2
  · exact key _ _ (.inr rfl) (.inr rfl) h1 h2

set_option maxHeartbeats 1000000 in
theorem sorder_any (R : SpotSays) (s : ByteArray) (i k : Int) (w : World) :
    Calls Try.prog 5 #[.string s, .int .i64 i, .int .i64 k] w fun e w' => e = .returned (.bool true) ∧ Below w.heap.size w w' := by
  by_cases h : s.size ≤ 300 ∧ 0 ≤ i ∧ i < k ∧ k ≤ (s.size : Int)
  · obtain ⟨n, rfl⟩ := Int.eq_ofNat_of_zero_le h.2.1
    obtain ⟨m, rfl⟩ := Int.eq_ofNat_of_zero_le (show 0 ≤ k by omega)
    exact sorder_in R s n m w h.1 (by omega) (by omega)
  · have h0 : 300 < s.size ∨ (s.size ≤ 300 ∧ i < 0) ∨ (s.size ≤ 300 ∧ 0 ≤ i ∧ k ≤ i) ∨ (s.size ≤ 300 ∧ 0 ≤ i ∧ i < k ∧ (s.size : Int) < k) := by omega
    clear h
    rcases h0 with h | ⟨h1, h⟩ | ⟨h1, h2, h⟩ | ⟨h1, h2, h3, h⟩
    all_goals
      go_enter Try.func5, Try.ntmps5
      go_wp2_with fail
      refine (salive_any R _).mono ?_
      rintro r w1 ⟨rfl, hb1⟩
      go_wp2
      go_ret
      exact ⟨rfl, hb1⟩

end Go.Proofs.Ytfhpdfekoklokaa
