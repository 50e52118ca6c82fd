/- What package spot's part and Behind give. -/
import Derived.Test.YtfhpdfekoklokaaSpotLib
import Derived.Test.YtfhpdfekoklokaaSpotFace
import Derived.Test.YtfhpdfekoklokaaSpBack
namespace Go.Proofs.Ytfhpdfekoklokaa
open Go.RowKit

/-- A float as a whole number from 1 to m. -/
def PartIs (re m : Nat) (n : Nat) (ok : Bool) : Prop := (ok = true ∧ 1 ≤ n ∧ n ≤ m ∧ feq (fl (n : Int)) re = true) ∨ (ok = false ∧ n = 0 ∧ ∀ k : Nat, 1 ≤ k → k ≤ m → feq (fl (k : Int)) re = false)

set_option maxRecDepth 100000 in
set_option maxHeartbeats 1000000 in
theorem part_any (re m : Nat) (w : World) (h1 : 1 ≤ m) (h2 : m ≤ 1099511627777) :
    Calls Try.prog 14 #[.float .f64 re, .int .i64 (m : Int)] w fun e w' => ∃ (n : Nat) (ok : Bool), e = .returned (.tuple #[.int .i64 (n : Int), .bool ok]) ∧ PartIs re m n ok ∧ w = w' := by
  by_cases hlo : Ieee.double.order re (fl 1) = some .eq ∨ Ieee.double.order re (fl 1) = some .gt
  · by_cases hhi : Ieee.double.order re (fl (m : Int)) = some .eq ∨ Ieee.double.order re (fl (m : Int)) = some .lt
    · obtain ⟨k, i, hr, w1, w2, hw⟩ := num_between re m h1 (by omega) hlo hhi
      have HC := Lib.hid (run_convert_float_int (P := Try.prog) · 22 3 .f64 .i64 re (wholeOf k i : Int) (by kernel_rfl) (by kernel_rfl) (int_num re k i hr (by omega)))
      have HT := Lib.hid (trunc_any re k i hr)
      rw [fl1] at hlo
      generalize wholeOf k i = n at w1 w2 hw HC HT
      clear hr
      rcases hw with hw | ⟨hw, hno⟩
      · have HP : Hid (PartIs re m n true) := .inl ⟨rfl, w1, w2, hw⟩
        have ho : FloatKind.f64.format.order re (fl (n : Int)) = some .eq := (feq_swap _ _).1 hw
        have hc := HC.out
        clear hw w1 w2 HC
        rcases hlo with hlo | hlo <;> rcases hhi with hhi | hhi
        all_goals
          have g1 : FloatKind.f64.format.order re 4607182418800017408 = _ := hlo
          have g2 : FloatKind.f64.format.order re (floatOfInt .f64 (m : Int)) = _ := hhi
          clear hlo hhi
          go_enter Try.func14, Try.ntmps14
          go_wp2_with fail
          refine (HT.out _).mono ?_
          rintro r w1 ⟨rfl, rfl⟩
          go_wp2
          go_ret2
          exact ⟨_, _, rfl, HP.out, rfl⟩
      · have HP : Hid (PartIs re m 0 false) := .inr ⟨rfl, rfl, fun q q1 q2 => hno q q1 (by omega)⟩
        have ho : (FloatKind.f64.format.order re (fl (n : Int)) == some .eq) = false := by
          rw [beq_eq_false_iff_ne]
          intro e
          have := (feq_swap (fl (n : Int)) re).2 e
          rw [hw] at this
          cases this
        clear hw hno w1 w2 HC
        rcases hlo with hlo | hlo <;> rcases hhi with hhi | hhi
        all_goals
          have g1 : FloatKind.f64.format.order re 4607182418800017408 = _ := hlo
          have g2 : FloatKind.f64.format.order re (floatOfInt .f64 (m : Int)) = _ := hhi
          clear hlo hhi
          go_enter Try.func14, Try.ntmps14
          go_wp2_with fail
          refine (HT.out _).mono ?_
          rintro r w1 ⟨rfl, rfl⟩
          go_wp2
          go_ret2
          exact ⟨_, _, rfl, HP.out, rfl⟩
    · have HP : Hid (PartIs re m 0 false) := .inr ⟨rfl, rfl, fun q q1 q2 => above_most re q m q1 q2 (by omega) hhi⟩
      rw [fl1] at hlo
      have hg : Ieee.double.order re (fl (m : Int)) = none ∨ Ieee.double.order re (fl (m : Int)) = some .gt := by
        cases ho : Ieee.double.order re (fl (m : Int)) with
        | none => exact .inl rfl
        | some o => cases o <;> simp_all
      clear hhi
      rcases hlo with hlo | hlo <;> rcases hg with hg | hg
      all_goals
        have g1 : FloatKind.f64.format.order re 4607182418800017408 = _ := hlo
        have g2 : FloatKind.f64.format.order re (floatOfInt .f64 (m : Int)) = _ := hg
        clear hlo hg
        go_enter Try.func14, Try.ntmps14
        go_wp2
        go_ret2
        exact ⟨_, _, rfl, HP.out, rfl⟩
  · have HP : Hid (PartIs re m 0 false) := .inr ⟨rfl, rfl, fun q q1 q2 => below_one re q q1 (by omega) hlo⟩
    have hg : Ieee.double.order re (fl 1) = none ∨ Ieee.double.order re (fl 1) = some .lt := by
      cases ho : Ieee.double.order re (fl 1) with
      | none => exact .inl rfl
      | some o => cases o <;> simp_all
    rw [fl1] at hg
    clear hlo
    rcases hg with hg | hg
    all_goals
      have g1 : FloatKind.f64.format.order re 4607182418800017408 = _ := hg
      clear hg
      go_enter Try.func14, Try.ntmps14
      go_wp2
      go_ret2
      exact ⟨_, _, rfl, HP.out, rfl⟩

set_option maxRecDepth 100000 in
set_option maxHeartbeats 1000000 in
theorem behind_any (p : Nat × Nat) (s : ByteArray) (w : World) (hs : s.size ≤ 1099511627776) (p1 : 1 ≤ p.1) (p2 : p.1 ≤ 1099511627776) (p3 : 1 ≤ p.2) (p4 : p.2 ≤ 1099511627776) :
    Calls Try.prog 12 #[fcx p, .string s] w fun e w' => e = .returned (fcx (posFrom p s.data.toList)) ∧ w = w' := by
  have hz : s.data.toList.length = s.size := by simp
  obtain ⟨P, hP⟩ : ∃ P, P = posFrom p s.data.toList := ⟨_, rfl⟩
  obtain ⟨N, hN⟩ : ∃ N, N = s.data.toList.count 10 := ⟨_, rfl⟩
  have HN : Hid (∀ W : World, Calls Try.prog 17 #[.string s, .string ⟨#[10]⟩] W fun e w' => e = .returned (.int .i64 (N : Nat)) ∧ W = w') := fun W => by rw [hN]; exact count_any s W
  have hNle : N ≤ s.size := by rw [hN, ← hz]; exact List.count_le_length
  rw [← hP]
  unfold fcx
  have HL := Lib.hid (last_any s w hs)
  have HK : Hid (∀ r : Int, LastIs s.data.toList r → (r = -1 ∧ P.1 = p.1 ∧ Ieee.double.add (fl (p.2 : Int)) (fl (s.size : Int)) = some (fl (P.2 : Int))) ∨ (∃ a : Nat, r = (a : Int) ∧ a < s.size ∧ ((s.size : Int) - (a : Int)) = (P.2 : Int) ∧ Ieee.double.add (fl (p.1 : Int)) (fl (N : Int)) = some (fl (P.1 : Int)))) := by
    rintro r (⟨rfl, hno⟩ | ⟨a, b, e, hno, rfl⟩)
    · have e := pos_none _ p hno
      rw [← hP, hz] at e
      refine .inl ⟨rfl, by rw [e], ?_⟩
      rw [e]
      simp only
      by_cases h0 : s.size = 0
      · rw [h0]
        exact add_fl0 _ p3 (by omega)
      · exact add_fl _ _ p3 (by omega) (by omega)
    · have e1 := pos_nl p a b hno
      rw [← e, ← hP] at e1
      have e2 := pos_line s.data.toList p
      rw [← hP, ← hN] at e2
      have hl : a.length + (b.length + 1) = s.size := by rw [← hz, e]; simp
      have hc : 1 ≤ N := by
        rw [hN, e]
        simp only [List.count_append, List.count_cons_self]
        omega
      refine .inr ⟨a.length, rfl, by omega, by rw [e1]; simp only; omega, ?_⟩
      rw [e2]
      exact add_fl _ _ p1 hc (by omega)
  clear hP hN hz
  go_enter Try.func12, Try.ntmps12
  go_wp2_with fail
  refine (HL.out).mono ?_
  rintro r w1 ⟨k, rfl, hk, rfl⟩
  rcases HK.out k hk with ⟨rfl, e1, e2⟩ | ⟨a, rfl, ha, e1, e2⟩
  · have a1 : ∀ W : World, (binOp .add 22 (.float .f64 (fl (p.2 : Int))) (.float .f64 (floatOfInt .f64 (s.size : Int)))).run Try.prog W = .ok (.float .f64 (fl (P.2 : Int))) W := fun W => run_float_arith W .add _ .f64 _ _ _ e2
    have E1 := Lib.hid e1
    clear hk e1 e2
    go_wp2
    go_ret
    exact ⟨by rw [E1.out]; rfl, rfl⟩
  · have a1 : ∀ W : World, (binOp .add 22 (.float .f64 (fl (p.1 : Int))) (.float .f64 (floatOfInt .f64 (N : Int)))).run Try.prog W = .ok (.float .f64 (fl (P.1 : Int))) W := fun W => run_float_arith W .add _ .f64 _ _ _ e2
    have E1 := Lib.hid e1
    clear hk e1 e2
    go_wp2_with fail
    refine (HN.out _).mono ?_
    rintro r w2 ⟨rfl, rfl⟩
    go_wp2
    go_ret
    exact ⟨by rw [← E1.out]; rfl, rfl⟩

end Go.Proofs.Ytfhpdfekoklokaa
