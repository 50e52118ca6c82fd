/- Plain facts on any float held against whole numbers: where it stands to them, its whole part; a sum with 0. -/
import Derived.Test.YtfhpdfekoklokaaFloatSub
import Derived.Laws.FloatArith
namespace Go.Proofs.Ytfhpdfekoklokaa
open Go.RowKit

theorem cmp_up (a b c : Nat) (hc : 0 < c) : compare (a * c) (b * c) = compare a b := by
  rw [Nat.compare_eq_ite_lt, Nat.compare_eq_ite_lt]
  by_cases h1 : a < b
  · rw [if_pos h1, if_pos (Nat.mul_lt_mul_of_pos_right h1 hc)]
  · by_cases h2 : b < a
    · have := Nat.mul_lt_mul_of_pos_right h2 hc
      rw [if_neg h1, if_neg (by omega), if_pos h2, if_pos this]
    · obtain rfl : a = b := by omega
      rw [if_neg h1, if_neg (by omega), if_neg h2, if_neg (by omega)]
theorem cmp_int (a b : Nat) : compare (a : Int) (b : Int) = compare a b := by
  rw [Int.compare_eq_ite_lt, Nat.compare_eq_ite_lt]
  simp only [Int.ofNat_lt]

/-- A float that is a number not below 0, in parts of 2^B: how it stands to a whole number. -/
theorem order_num (re m n : Nat) (i : Int) (B : Nat) (hr : Ieee.double.read re = .number false m i) (h : 1 ≤ n) (hn : n < 9007199254740992) (hB : 52 ≤ B) (hi : 0 ≤ i + B) :
    Ieee.double.order re (fl (n : Int)) = some (compare (m * 2 ^ (i + B).toNat) (n * 2 ^ B)) := by
  obtain ⟨_, _, hl⟩ := kept_bd n h hn
  unfold Ieee.Format.order
  rw [hr, fl_read n h hn]
  unfold Ieee.Datum.order
  simp only
  obtain ⟨b, hb⟩ : ∃ b : Int, b = min i ((n.log2 : Int) - 52) := ⟨_, rfl⟩
  rw [← hb]
  have e1 : Ieee.signed false m (i - b).toNat = ((m * 2 ^ (i - b).toNat : Nat) : Int) := by
    unfold Ieee.signed
    simp only [Bool.false_eq_true, if_false]
    rw [Nat.shiftLeft_eq]
  have e2 : Ieee.signed false (keptOf n) ((n.log2 : Int) - 52 - b).toNat = ((n * 2 ^ (-b).toNat : Nat) : Int) := by
    unfold Ieee.signed keptOf
    simp only [Bool.false_eq_true, if_false]
    rw [Nat.shiftLeft_eq, Nat.mul_assoc, ← Nat.pow_add, show 52 - n.log2 + ((n.log2 : Int) - 52 - b).toNat = (-b).toNat from by omega]
  rw [e1, e2, cmp_int]
  have e3 : m * 2 ^ (i + B).toNat = m * 2 ^ (i - b).toNat * 2 ^ (b + B).toNat := by
    rw [Nat.mul_assoc, ← Nat.pow_add, show (i - b).toNat + (b + B).toNat = (i + B).toNat from by omega]
  have e4 : n * 2 ^ B = n * 2 ^ (-b).toNat * 2 ^ (b + B).toNat := by
    rw [Nat.mul_assoc, ← Nat.pow_add, show (-b).toNat + (b + B).toNat = B from by omega]
  rw [e3, e4, cmp_up _ _ _ (Nat.pow_pos (by omega))]

theorem order_neg (re m n : Nat) (i : Int) (hr : Ieee.double.read re = .number true m i) (h : 1 ≤ n) (hn : n < 9007199254740992) :
    Ieee.double.order re (fl (n : Int)) = some .lt := by
  obtain ⟨k0, _, hl⟩ := kept_bd n h hn
  unfold Ieee.Format.order
  rw [hr, fl_read n h hn]
  unfold Ieee.Datum.order
  simp only
  obtain ⟨b, hb⟩ : ∃ b : Int, b = min i ((n.log2 : Int) - 52) := ⟨_, rfl⟩
  rw [← hb]
  unfold Ieee.signed
  simp only [if_true, Bool.false_eq_true, if_false]
  rw [Nat.shiftLeft_eq, Nat.shiftLeft_eq, Int.compare_eq_ite_lt, if_pos]
  have : 0 < keptOf n * 2 ^ ((n.log2 : Int) - 52 - b).toNat := Nat.mul_pos (by omega) (Nat.pow_pos (by omega))
  omega
theorem order_nan (re n : Nat) (s : Bool) (t : Nat) (hr : Ieee.double.read re = .nan s t) : Ieee.double.order re (fl (n : Int)) = none := by
  unfold Ieee.Format.order
  rw [hr]
  rfl
theorem order_inf (re n : Nat) (s : Bool) (hr : Ieee.double.read re = .infinity s) (h : 1 ≤ n) (hn : n < 9007199254740992) : Ieee.double.order re (fl (n : Int)) = some (if s then .lt else .gt) := by
  unfold Ieee.Format.order
  rw [hr, fl_read n h hn]
  rfl

theorem eq_swap (d e : Ieee.Datum) (h : d.order e = some .eq) : e.order d = some .eq := by
  cases d <;> cases e <;> simp only [Ieee.Datum.order, Option.some.injEq, reduceCtorEq] at h ⊢
  · rw [Int.min_comm]
    rw [Int.compare_eq_eq] at h ⊢
    exact h.symm
  · split at h <;> cases h
  · split at h <;> cases h
  · rw [Nat.compare_eq_eq] at h ⊢
    exact h.symm
theorem feq_swap (a b : Nat) : feq a b = true ↔ Ieee.double.order b a = some .eq := by
  unfold feq
  rw [beq_iff_eq]
  exact ⟨fun h => eq_swap _ _ h, fun h => eq_swap _ _ h⟩

/-- What is a whole number as a float: no other number's. -/
theorem feq_num (re n : Nat) (h : 1 ≤ n) (hn : n < 9007199254740992) (hf : feq (fl (n : Int)) re = true) :
    ∃ m i, Ieee.double.read re = .number false m i ∧ ∀ B : Nat, 52 ≤ B → 0 ≤ i + B → m * 2 ^ (i + B).toNat = n * 2 ^ B := by
  have ho := (feq_swap _ _).1 hf
  cases hr : Ieee.double.read re with
  | nan s t => rw [order_nan re n s t hr] at ho; cases ho
  | infinity s => rw [order_inf re n s hr h hn] at ho; cases s <;> cases ho
  | number s m i =>
    cases s with
    | true => rw [order_neg re m n i hr h hn] at ho; cases ho
    | false =>
      refine ⟨m, i, rfl, fun B hB hi => ?_⟩
      rw [order_num re m n i B hr h hn hB hi] at ho
      exact Nat.compare_eq_eq.1 (Option.some.inj ho)
theorem feq_inj (re a b : Nat) (ha : 1 ≤ a) (ha' : a < 9007199254740992) (hb : 1 ≤ b) (hb' : b < 9007199254740992) (h1 : feq (fl (a : Int)) re = true) (h2 : feq (fl (b : Int)) re = true) : a = b := by
  obtain ⟨m, i, hr, h⟩ := feq_num re a ha ha' h1
  obtain ⟨m', i', hr', h'⟩ := feq_num re b hb hb' h2
  rw [hr] at hr'
  cases hr'
  have e1 := h (52 + (-i).toNat) (by omega) (by omega)
  have e2 := h' (52 + (-i).toNat) (by omega) (by omega)
  rw [e1] at e2
  exact Nat.eq_of_mul_eq_mul_right (Nat.pow_pos (by omega)) e2

/-- The whole part. -/
def wholeOf (m : Nat) (i : Int) : Nat := Ieee.Toward.zero.cut false (m <<< i.toNat) (-i).toNat
theorem cut_zero (neg : Bool) (n d : Nat) : Ieee.Toward.zero.cut neg n d = n / 2 ^ d := by
  unfold Ieee.Toward.cut
  simp only [Bool.toNat_false, Nat.add_zero]
  rw [Nat.shiftLeft_eq, Nat.one_mul]
  by_cases h : d ≤ n.log2 + 2
  · rw [Nat.min_eq_left h]
  · rw [Nat.min_eq_right (by omega)]
    have h1 := Nat.lt_log2_self (n := n)
    have h2 : 2 ^ (n.log2 + 1) ≤ 2 ^ (n.log2 + 2) := Nat.pow_le_pow_right (by omega) (by omega)
    have h3 : 2 ^ (n.log2 + 1) ≤ 2 ^ d := Nat.pow_le_pow_right (by omega) (by omega)
    rw [Nat.div_eq_of_lt (by omega), Nat.div_eq_of_lt (by omega)]
theorem whole_div (m : Nat) (i : Int) (B : Nat) (hi : 0 ≤ i + B) : wholeOf m i = m * 2 ^ (i + B).toNat / 2 ^ B := by
  unfold wholeOf
  rw [cut_zero, Nat.shiftLeft_eq]
  have e1 : m * 2 ^ (i + B).toNat = m * 2 ^ i.toNat * 2 ^ ((i + B).toNat - i.toNat) := by
    rw [Nat.mul_assoc, ← Nat.pow_add, show i.toNat + ((i + B).toNat - i.toNat) = (i + B).toNat from by omega]
  have e2 : 2 ^ B = 2 ^ (-i).toNat * 2 ^ ((i + B).toNat - i.toNat) := by
    rw [← Nat.pow_add, show (-i).toNat + ((i + B).toNat - i.toNat) = B from by omega]
  rw [e1, e2, Nat.mul_div_mul_right _ _ (Nat.pow_pos (by omega))]
theorem fl_write (n : Nat) : Ieee.double.write (.number false n 0) = fl (n : Int) := by
  show _ = Ieee.double.write (.number (decide ((n : Int) < 0)) (n : Int).natAbs 0)
  rw [show decide ((n : Int) < 0) = false from decide_eq_false (by omega), Int.natAbs_natCast]

/-- A float between 1 and a whole number: what there is to know. -/
theorem num_between (re most : Nat) (hm : 1 ≤ most) (hm' : most < 9007199254740992)
    (h1 : Ieee.double.order re (fl 1) = some .eq ∨ Ieee.double.order re (fl 1) = some .gt)
    (h2 : Ieee.double.order re (fl (most : Int)) = some .eq ∨ Ieee.double.order re (fl (most : Int)) = some .lt) :
    ∃ m i, Ieee.double.read re = .number false m i ∧ 1 ≤ wholeOf m i ∧ wholeOf m i ≤ most ∧
      (feq (fl (wholeOf m i : Int)) re = true ∨ (feq (fl (wholeOf m i : Int)) re = false ∧ ∀ n : Nat, 1 ≤ n → n < 9007199254740992 → feq (fl (n : Int)) re = false)) := by
  rw [show (1 : Int) = ((1 : Nat) : Int) from rfl] at h1
  cases hr : Ieee.double.read re with
  | nan s t => rw [order_nan re 1 s t hr] at h1; rcases h1 with h | h <;> cases h
  | infinity s =>
    rw [order_inf re 1 s hr (by omega) (by omega)] at h1
    rw [order_inf re most s hr hm hm'] at h2
    cases s
    · rcases h2 with h | h <;> cases h
    · rcases h1 with h | h <;> cases h
  | number s m i =>
    cases s with
    | true => rw [order_neg re m 1 i hr (by omega) (by omega)] at h1; rcases h1 with h | h <;> cases h
    | false =>
      obtain ⟨B, hB⟩ : ∃ B, B = 52 + (-i).toNat := ⟨_, rfl⟩
      have hi : 0 ≤ i + B := by omega
      have hp : 0 < 2 ^ B := Nat.pow_pos (by omega)
      rw [order_num re m 1 i B hr (by omega) (by omega) (by omega) hi] at h1
      rw [order_num re m most i B hr hm hm' (by omega) hi] at h2
      have hw := whole_div m i B hi
      generalize hM : m * 2 ^ (i + B).toNat = M at h1 h2 hw
      have b1 : 2 ^ B ≤ M := by
        rcases h1 with h | h
        · have := Nat.compare_eq_eq.1 (Option.some.inj h); omega
        · have := Nat.compare_eq_gt.1 (Option.some.inj h); omega
      have b2 : M ≤ most * 2 ^ B := by
        rcases h2 with h | h
        · have := Nat.compare_eq_eq.1 (Option.some.inj h); omega
        · have := Nat.compare_eq_lt.1 (Option.some.inj h); omega
      have w1 : 1 ≤ wholeOf m i := by
        rw [hw]
        exact (Nat.le_div_iff_mul_le hp).2 (by omega)
      have w2 : wholeOf m i ≤ most := by
        rw [hw]
        exact Nat.div_le_of_le_mul (by rw [Nat.mul_comm]; exact b2)
      refine ⟨m, i, rfl, w1, w2, ?_⟩
      have key : ∀ n : Nat, 1 ≤ n → n < 9007199254740992 → feq (fl (n : Int)) re = true → n = wholeOf m i := by
        intro n hn hn' hf
        obtain ⟨m', i', hr', h⟩ := feq_num re n hn hn' hf
        rw [hr] at hr'
        cases hr'
        have := h B (by omega) hi
        rw [hw, ← hM, this, Nat.mul_div_cancel _ hp]
      cases hf : feq (fl (wholeOf m i : Int)) re with
      | true => exact .inl rfl
      | false =>
        refine .inr ⟨rfl, fun n hn hn' => ?_⟩
        cases hq : feq (fl (n : Int)) re with
        | false => rfl
        | true =>
          have := key n hn hn' hq
          rw [this, hf] at hq
          cases hq

theorem below_one (re n : Nat) (h : 1 ≤ n) (hn : n < 9007199254740992) (h1 : ¬ (Ieee.double.order re (fl 1) = some .eq ∨ Ieee.double.order re (fl 1) = some .gt)) : feq (fl (n : Int)) re = false := by
  cases hf : feq (fl (n : Int)) re with
  | false => rfl
  | true =>
    obtain ⟨m, i, hr, hh⟩ := feq_num re n h hn hf
    obtain ⟨B, hB⟩ : ∃ B, B = 52 + (-i).toNat := ⟨_, rfl⟩
    have hi : 0 ≤ i + B := by omega
    have hp : 0 < 2 ^ B := Nat.pow_pos (by omega)
    have e := hh B (by omega) hi
    rw [show (1 : Int) = ((1 : Nat) : Int) from rfl, order_num re m 1 i B hr (by omega) (by omega) (by omega) hi, e, cmp_up _ _ _ hp] at h1
    refine absurd ?_ h1
    by_cases he : n = 1
    · exact .inl (by rw [he]; rfl)
    · exact .inr (by rw [Nat.compare_eq_gt.2 (by omega)])
theorem above_most (re n most : Nat) (h : 1 ≤ n) (hn : n ≤ most) (hm' : most < 9007199254740992) (h2 : ¬ (Ieee.double.order re (fl (most : Int)) = some .eq ∨ Ieee.double.order re (fl (most : Int)) = some .lt)) : feq (fl (n : Int)) re = false := by
  cases hf : feq (fl (n : Int)) re with
  | false => rfl
  | true =>
    obtain ⟨m, i, hr, hh⟩ := feq_num re n h (by omega) hf
    obtain ⟨B, hB⟩ : ∃ B, B = 52 + (-i).toNat := ⟨_, rfl⟩
    have hi : 0 ≤ i + B := by omega
    have hp : 0 < 2 ^ B := Nat.pow_pos (by omega)
    have e := hh B (by omega) hi
    rw [order_num re m most i B hr (by omega) hm' (by omega) hi, e, cmp_up _ _ _ hp] at h2
    refine absurd ?_ h2
    by_cases he : n = most
    · exact .inl (by rw [he]; simp)
    · exact .inr (by rw [Nat.compare_eq_lt.2 (by omega)])

/-- What math.Trunc and int() make of it. -/
theorem trunc_num (re m : Nat) (i : Int) (hr : Ieee.double.read re = .number false m i) : Ieee.double.write ((Ieee.double.read re).integral .zero) = fl (wholeOf m i : Int) := by
  rw [hr, ← fl_write]
  rfl
theorem int_num (re m : Nat) (i : Int) (hr : Ieee.double.read re = .number false m i) (h : wholeOf m i < 9007199254740992) : floatToIntVal .f64 re .i64 = some (wholeOf m i : Int) := by
  unfold floatToIntVal
  have e : (FloatKind.f64.decode re).toInt .zero = some (wholeOf m i : Int) := by
    show (Ieee.double.read re).toInt .zero = _
    rw [hr]
    unfold Ieee.Datum.toInt Ieee.Datum.integral
    simp only
    unfold Ieee.signed
    simp only [Bool.false_eq_true, if_false]
    rw [Nat.shiftLeft_eq, Nat.pow_zero, Nat.mul_one]
    rfl
  rw [e]
  simp only
  rw [if_pos]
  have e1 : IntKind.i64.min = -9223372036854775808 := by decide
  have e2 : IntKind.i64.max = 9223372036854775807 := by decide
  rw [e1, e2]
  omega

theorem add_fl0 (a : Nat) (ha : 1 ≤ a) (h : a < 9007199254740992) : Ieee.double.add (fl (a : Int)) (fl ((0 : Nat) : Int)) = some (fl (a : Int)) := by
  obtain ⟨_, _, hla⟩ := kept_bd a ha h
  unfold Ieee.Format.add
  have h0 : Ieee.double.read (fl ((0 : Nat) : Int)) = .number false 0 (-1074) := by decide +kernel
  rw [fl_read a ha h, h0]
  unfold Ieee.Datum.sum
  simp only
  obtain ⟨B, hB⟩ : ∃ B : Nat, B = 1074 := ⟨_, rfl⟩
  have k : keptOf a <<< ((a.log2 : Int) - 52 - min ((a.log2 : Int) - 52) (-1074)).toNat = a * 2 ^ B := by
    unfold keptOf
    rw [Nat.shiftLeft_eq, Nat.mul_assoc, ← Nat.pow_add, show 52 - a.log2 + ((a.log2 : Int) - 52 - min ((a.log2 : Int) - 52) (-1074)).toNat = B from by omega]
  have sa : Ieee.signed false (keptOf a) ((a.log2 : Int) - 52 - min ((a.log2 : Int) - 52) (-1074)).toNat = ((a * 2 ^ B : Nat) : Int) := by
    unfold Ieee.signed
    rw [k]
    rfl
  have s0 : Ieee.signed false 0 ((-1074 : Int) - min ((a.log2 : Int) - 52) (-1074)).toNat = 0 := by
    unfold Ieee.signed
    simp
  rw [sa, s0, Int.add_zero]
  have hpos : 0 < a * 2 ^ B := Nat.mul_pos (by omega) (Nat.pow_pos (by omega))
  rw [if_neg (by omega), show decide (((a * 2 ^ B : Nat) : Int) < 0) = false from decide_eq_false (by omega), Int.natAbs_natCast, show min ((a.log2 : Int) - 52) (-1074) = -(B : Int) from by omega]
  rw [Option.map_some, near_up a B (by omega) (by omega)]

end Go.Proofs.Ytfhpdfekoklokaa
