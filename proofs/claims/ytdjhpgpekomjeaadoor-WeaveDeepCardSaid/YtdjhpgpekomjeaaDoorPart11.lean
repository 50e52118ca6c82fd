/- Texts of mine put together (a claim has at most so many files): FloatOrd, FloatSub. -/
import Derived.Test.YtdjhpgpekomjeaaDoorPart6
/- Plain facts on whole numbers as floats: what they read as, their order. -/
namespace Go.Proofs.YtdjhpgpekomjeaaDoor
open Go.RowKit

def keptOf (n : Nat) : Nat := n * 2 ^ (52 - n.log2)

theorem kept_bd (n : Nat) (h : 1 ≤ n) (hn : n < 9007199254740992) : 4503599627370496 ≤ keptOf n ∧ keptOf n < 9007199254740992 ∧ n.log2 ≤ 52 := by
  have h0 : n ≠ 0 := by omega
  have h1 := Nat.log2_self_le h0
  have h2 := Nat.lt_log2_self (n := n)
  have h3 : n.log2 ≤ 52 := by
    have : n.log2 < 53 := (Nat.log2_lt h0).2 (by omega)
    omega
  have e1 : 2 ^ n.log2 * 2 ^ (52 - n.log2) = 4503599627370496 := by
    rw [← Nat.pow_add, show n.log2 + (52 - n.log2) = 52 from by omega]
  have e2 : 2 ^ (n.log2 + 1) * 2 ^ (52 - n.log2) = 9007199254740992 := by
    rw [← Nat.pow_add, show n.log2 + 1 + (52 - n.log2) = 53 from by omega]
  refine ⟨?_, ?_, h3⟩
  · rw [← e1]
    exact Nat.mul_le_mul_right _ h1
  · rw [← e2]
    exact Nat.mul_lt_mul_of_pos_right h2 (Nat.pow_pos (by omega))

theorem fl_word (n : Nat) (h : 1 ≤ n) (hn : n < 9007199254740992) : fl (n : Int) = (1022 + n.log2) * 4503599627370496 + keptOf n := by
  obtain ⟨k0, k1, hl⟩ := kept_bd n h hn
  show Ieee.double.write (.number (decide ((n : Int) < 0)) (n : Int).natAbs 0) = _
  rw [show decide ((n : Int) < 0) = false from decide_eq_false (by omega), Int.natAbs_natCast]
  unfold Ieee.Format.write Ieee.Format.nearest
  simp only
  rw [if_neg (by omega)]
  have e1 : Ieee.double.leastPlace = -1074 := by decide
  have e2 : Ieee.double.infRung = 9218868437227405312 := by decide
  have e3 : Ieee.double.binade = 4503599627370496 := by decide
  have e4 : (Ieee.double.fractionBits : Int) = 52 := rfl
  rw [e1, e2, e3, e4, show max ((0 : Int) + (n.log2 : Int) - 52) (-1074) = (n.log2 : Int) - 52 from by omega,
    show ((0 : Int) - ((n.log2 : Int) - 52)).toNat = 52 - n.log2 from by omega, show ((n.log2 : Int) - 52 - 0).toNat = 0 from by omega,
    show ((n.log2 : Int) - 52 - -1074).toNat = 1022 + n.log2 from by omega, Nat.shiftLeft_eq]
  have hc : Ieee.Toward.even.cut false (n * 2 ^ (52 - n.log2)) 0 = keptOf n := by
    unfold Ieee.Toward.cut keptOf
    simp [Nat.mod_one]
  rw [hc]
  unfold Ieee.Format.word
  simp only [Bool.false_eq_true, if_false]
  omega

theorem fl_read (n : Nat) (h : 1 ≤ n) (hn : n < 9007199254740992) : Ieee.double.read (fl (n : Int)) = .number false (keptOf n) ((n.log2 : Int) - 52) := by
  obtain ⟨k0, k1, hl⟩ := kept_bd n h hn
  rw [fl_word n h hn]
  have e0 : Ieee.double.signWeight = 9223372036854775808 := by decide
  have e1 : Ieee.double.leastPlace = -1074 := by decide
  have e2 : Ieee.double.infRung = 9218868437227405312 := by decide
  have e3 : Ieee.double.binade = 4503599627370496 := by decide
  unfold Ieee.Format.read
  rw [e0, e1, e2, e3]
  generalize keptOf n = K at k0 k1
  have hs : ((1022 + n.log2) * 4503599627370496 + K) / 9223372036854775808 % 2 = 0 := by omega
  have hm : ((1022 + n.log2) * 4503599627370496 + K) % 9223372036854775808 = (1022 + n.log2) * 4503599627370496 + K := by omega
  simp only [hs, hm]
  rw [if_neg (by omega), if_pos (by omega)]
  rw [show 4503599627370496 + ((1022 + n.log2) * 4503599627370496 + K) % 4503599627370496 = K from by omega,
    show ((1022 + n.log2) * 4503599627370496 + K) / 4503599627370496 - 1 = 1022 + n.log2 from by omega]
  rw [show (-1074 + ((1022 + n.log2 : Nat) : Int)) = (n.log2 : Int) - 52 from by omega]
  rfl

theorem order_fl (a b : Nat) (ha : 1 ≤ a) (ha' : a < 9007199254740992) (hb : 1 ≤ b) (hb' : b < 9007199254740992) : FloatKind.f64.format.order (fl (a : Int)) (fl (b : Int)) = some (compare a b) := by
  show Ieee.double.order _ _ = _
  unfold Ieee.Format.order
  rw [fl_read a ha ha', fl_read b hb hb']
  obtain ⟨_, _, hla⟩ := kept_bd a ha ha'
  obtain ⟨_, _, hlb⟩ := kept_bd b hb hb'
  unfold Ieee.Datum.order
  simp only
  obtain ⟨B, hB⟩ : ∃ B : Nat, (B : Int) = -(min ((a.log2 : Int) - 52) ((b.log2 : Int) - 52)) := ⟨(-(min ((a.log2 : Int) - 52) ((b.log2 : Int) - 52))).toNat, by omega⟩
  have sg : ∀ n : Nat, n.log2 ≤ 52 → (52 - n.log2) ≤ B → Ieee.signed false (keptOf n) ((n.log2 : Int) - 52 - min ((a.log2 : Int) - 52) ((b.log2 : Int) - 52)).toNat = ((n * 2 ^ B : Nat) : Int) := by
    intro n h1 h2
    unfold Ieee.signed keptOf
    simp only [Bool.false_eq_true, if_false]
    rw [Nat.shiftLeft_eq, Nat.mul_assoc, ← Nat.pow_add, show 52 - n.log2 + ((n.log2 : Int) - 52 - min ((a.log2 : Int) - 52) ((b.log2 : Int) - 52)).toNat = B from by omega]
  rw [sg a hla (by omega), sg b hlb (by omega)]
  congr 1
  have hp : 0 < 2 ^ B := Nat.pow_pos (by omega)
  rw [Int.compare_eq_ite_lt, Nat.compare_eq_ite_lt]
  by_cases h1 : a < b
  · rw [if_pos h1, if_pos (by exact_mod_cast Nat.mul_lt_mul_of_pos_right h1 hp)]
  · by_cases h2 : b < a
    · have h3 : b * 2 ^ B < a * 2 ^ B := Nat.mul_lt_mul_of_pos_right h2 hp
      rw [if_neg h1, if_neg (by omega), if_pos h2, if_pos (by omega)]
    · have : a = b := by omega
      subst this
      rw [if_neg h1, if_neg (by omega), if_neg h2, if_neg (by omega)]

theorem feq_fl (a b : Nat) (ha : 1 ≤ a) (ha' : a < 9007199254740992) (hb : 1 ≤ b) (hb' : b < 9007199254740992) : feq (fl (a : Int)) (fl (b : Int)) = (a == b) := by
  unfold feq
  rw [order_fl a b ha ha' hb hb']
  by_cases h : a = b
  · subst h; simp
  · have : compare a b ≠ .eq := fun e => h (Nat.compare_eq_eq.1 e)
    rw [show (a == b) = false from by simpa using h]
    cases hc : compare a b <;> simp_all

end Go.Proofs.YtdjhpgpekomjeaaDoor

/- Plain facts on whole numbers as floats: their difference. -/
namespace Go.Proofs.YtdjhpgpekomjeaaDoor
open Go.RowKit

theorem log2_up (d B : Nat) (h : 1 ≤ d) : (d * 2 ^ B).log2 = d.log2 + B := by
  have h0 : d ≠ 0 := by omega
  have h1 : d * 2 ^ B ≠ 0 := Nat.mul_ne_zero h0 (by have := Nat.pow_pos (n := B) (show 0 < 2 by omega); omega)
  have a1 := Nat.log2_self_le h0
  have a2 := Nat.lt_log2_self (n := d)
  refine (Nat.log2_eq_iff h1).2 ⟨?_, ?_⟩
  · rw [Nat.pow_add]
    exact Nat.mul_le_mul_right _ a1
  · rw [show d.log2 + B + 1 = d.log2 + 1 + B from by omega, Nat.pow_add]
    exact Nat.mul_lt_mul_of_pos_right a2 (Nat.pow_pos (by omega))

theorem near_up (d B : Nat) (h : 1 ≤ d) (hd : d < 9007199254740992) : Ieee.double.write (.number false (d * 2 ^ B) (-(B : Int))) = fl (d : Int) := by
  obtain ⟨k0, k1, hl⟩ := kept_bd d h hd
  rw [fl_word d h hd]
  unfold Ieee.Format.write Ieee.Format.nearest
  simp only
  have hne : d * 2 ^ B ≠ 0 := Nat.mul_ne_zero (by omega) (by have := Nat.pow_pos (n := B) (show 0 < 2 by omega); omega)
  rw [if_neg hne, log2_up d B h]
  have e1 : Ieee.double.leastPlace = -1074 := by decide
  have e2 : Ieee.double.infRung = 9218868437227405312 := by decide
  have e3 : Ieee.double.binade = 4503599627370496 := by decide
  have e4 : (Ieee.double.fractionBits : Int) = 52 := rfl
  rw [e1, e2, e3, e4, show max (-(B : Int) + ((d.log2 + B : Nat) : Int) - 52) (-1074) = (d.log2 : Int) - 52 from by omega,
    show ((d.log2 : Int) - 52 - -1074).toNat = 1022 + d.log2 from by omega, Nat.shiftLeft_eq]
  have hc : Ieee.Toward.even.cut false (d * 2 ^ B * 2 ^ (-(B : Int) - ((d.log2 : Int) - 52)).toNat) ((d.log2 : Int) - 52 - -(B : Int)).toNat = keptOf d := by
    by_cases hs : B ≤ 52 - d.log2
    · rw [show ((d.log2 : Int) - 52 - -(B : Int)).toNat = 0 from by omega, Nat.mul_assoc, ← Nat.pow_add, show B + (-(B : Int) - ((d.log2 : Int) - 52)).toNat = 52 - d.log2 from by omega]
      unfold Ieee.Toward.cut keptOf
      simp [Nat.mod_one]
    · obtain ⟨D, hD⟩ : ∃ D, D = B - (52 - d.log2) := ⟨_, rfl⟩
      rw [show ((d.log2 : Int) - 52 - -(B : Int)).toNat = D from by omega, show (-(B : Int) - ((d.log2 : Int) - 52)).toNat = 0 from by omega, Nat.pow_zero, Nat.mul_one]
      have e : d * 2 ^ B = keptOf d * 2 ^ D := by
        unfold keptOf
        rw [Nat.mul_assoc, ← Nat.pow_add, show 52 - d.log2 + D = B from by omega]
      have hlog : D ≤ (d * 2 ^ B).log2 + 2 := by rw [log2_up d B h]; omega
      unfold Ieee.Toward.cut
      simp only
      rw [Nat.min_eq_left hlog, Nat.shiftLeft_eq, Nat.one_mul, e]
      have hp : 0 < 2 ^ D := Nat.pow_pos (by omega)
      rw [Nat.mul_div_cancel _ hp, Nat.mul_mod_left]
      have c1 : decide (2 ^ D < 2 * 0) = false := decide_eq_false (by omega)
      have c2 : (2 ^ D == 2 * 0) = false := by rw [beq_eq_false_iff_ne]; omega
      rw [c1, c2]
      rfl
  rw [hc]
  unfold Ieee.Format.word
  simp only [Bool.false_eq_true, if_false]
  omega

theorem sub_fl (a b : Nat) (ha : 1 ≤ a) (hab : a < b) (hb : b < 9007199254740992) : Ieee.double.sub (fl (b : Int)) (fl (a : Int)) = some (fl ((b - a : Nat) : Int)) := by
  obtain ⟨_, _, hla⟩ := kept_bd a ha (by omega)
  obtain ⟨_, _, hlb⟩ := kept_bd b (by omega) hb
  unfold Ieee.Format.sub
  rw [fl_read a ha (by omega), fl_read b (by omega) hb]
  unfold Ieee.Datum.opposite Ieee.Datum.sum
  simp only
  obtain ⟨B, hB⟩ : ∃ B : Nat, (B : Int) = -(min ((b.log2 : Int) - 52) ((a.log2 : Int) - 52)) := ⟨(-(min ((b.log2 : Int) - 52) ((a.log2 : Int) - 52))).toNat, by omega⟩
  have k : ∀ n : Nat, n.log2 ≤ 52 → (52 - n.log2) ≤ B → keptOf n <<< ((n.log2 : Int) - 52 - min ((b.log2 : Int) - 52) ((a.log2 : Int) - 52)).toNat = n * 2 ^ B := by
    intro n h1 h2
    unfold keptOf
    rw [Nat.shiftLeft_eq, Nat.mul_assoc, ← Nat.pow_add, show 52 - n.log2 + ((n.log2 : Int) - 52 - min ((b.log2 : Int) - 52) ((a.log2 : Int) - 52)).toNat = B from by omega]
  have sb : Ieee.signed false (keptOf b) ((b.log2 : Int) - 52 - min ((b.log2 : Int) - 52) ((a.log2 : Int) - 52)).toNat = ((b * 2 ^ B : Nat) : Int) := by
    unfold Ieee.signed
    rw [k b hlb (by omega)]
    rfl
  have sa : Ieee.signed (!false) (keptOf a) ((a.log2 : Int) - 52 - min ((b.log2 : Int) - 52) ((a.log2 : Int) - 52)).toNat = -((a * 2 ^ B : Nat) : Int) := by
    unfold Ieee.signed
    rw [k a hla (by omega)]
    rfl
  rw [sb, sa]
  have hp : 0 < 2 ^ B := Nat.pow_pos (by omega)
  have hlt : a * 2 ^ B < b * 2 ^ B := Nat.mul_lt_mul_of_pos_right hab hp
  have hd : ((b * 2 ^ B : Nat) : Int) + -((a * 2 ^ B : Nat) : Int) = (((b - a) * 2 ^ B : Nat) : Int) := by
    rw [Nat.sub_mul]
    omega
  have hpos : 0 < (b - a) * 2 ^ B := Nat.mul_pos (by omega) hp
  rw [hd, if_neg (by omega), show decide ((((b - a) * 2 ^ B : Nat) : Int) < 0) = false from decide_eq_false (by omega), Int.natAbs_natCast, show min ((b.log2 : Int) - 52) ((a.log2 : Int) - 52) = -(B : Int) from by omega]
  rw [Option.map_some, near_up (b - a) B (by omega) (by omega)]

theorem add_fl (a b : Nat) (ha : 1 ≤ a) (hb : 1 ≤ b) (h : a + b < 9007199254740992) : Ieee.double.add (fl (a : Int)) (fl (b : Int)) = some (fl ((a + b : Nat) : Int)) := by
  obtain ⟨_, _, hla⟩ := kept_bd a ha (by omega)
  obtain ⟨_, _, hlb⟩ := kept_bd b hb (by omega)
  unfold Ieee.Format.add
  rw [fl_read a ha (by omega), fl_read b hb (by omega)]
  unfold Ieee.Datum.sum
  simp only
  obtain ⟨B, hB⟩ : ∃ B : Nat, (B : Int) = -(min ((a.log2 : Int) - 52) ((b.log2 : Int) - 52)) := ⟨(-(min ((a.log2 : Int) - 52) ((b.log2 : Int) - 52))).toNat, by omega⟩
  have k : ∀ n : Nat, n.log2 ≤ 52 → (52 - n.log2) ≤ B → Ieee.signed false (keptOf n) ((n.log2 : Int) - 52 - min ((a.log2 : Int) - 52) ((b.log2 : Int) - 52)).toNat = ((n * 2 ^ B : Nat) : Int) := by
    intro n h1 h2
    unfold Ieee.signed keptOf
    simp only [Bool.false_eq_true, if_false]
    rw [Nat.shiftLeft_eq, Nat.mul_assoc, ← Nat.pow_add, show 52 - n.log2 + ((n.log2 : Int) - 52 - min ((a.log2 : Int) - 52) ((b.log2 : Int) - 52)).toNat = B from by omega]
  rw [k a hla (by omega), k b hlb (by omega)]
  have hp : 0 < 2 ^ B := Nat.pow_pos (by omega)
  have hd : ((a * 2 ^ B : Nat) : Int) + ((b * 2 ^ B : Nat) : Int) = (((a + b) * 2 ^ B : Nat) : Int) := by
    rw [Nat.add_mul]
    omega
  have hpos : 0 < (a + b) * 2 ^ B := Nat.mul_pos (by omega) hp
  rw [hd, if_neg (by omega), show decide ((((a + b) * 2 ^ B : Nat) : Int) < 0) = false from decide_eq_false (by omega), Int.natAbs_natCast, show min ((a.log2 : Int) - 52) ((b.log2 : Int) - 52) = -(B : Int) from by omega]
  rw [Option.map_some, near_up (a + b) B (by omega) h]

/-- Nothing added. -/
theorem add_flz (a : Nat) (ha : 1 ≤ a) (h : a < 9007199254740992) : Ieee.double.add (fl (a : Int)) (fl ((0 : Nat) : Int)) = some (fl (a : Int)) := by
  obtain ⟨_, _, hla⟩ := kept_bd a ha h
  unfold Ieee.Format.add
  have h0 : Ieee.double.read (fl ((0 : Nat) : Int)) = .number false 0 (-1074) := by decide +kernel
  rw [fl_read a ha h, h0]
  unfold Ieee.Datum.sum
  simp only
  obtain ⟨B, hB⟩ : ∃ B : Nat, B = 1074 := ⟨_, rfl⟩
  have k : keptOf a <<< ((a.log2 : Int) - 52 - min ((a.log2 : Int) - 52) (-1074)).toNat = a * 2 ^ B := by
    unfold keptOf
    rw [Nat.shiftLeft_eq, Nat.mul_assoc, ← Nat.pow_add, show 52 - a.log2 + ((a.log2 : Int) - 52 - min ((a.log2 : Int) - 52) (-1074)).toNat = B from by omega]
  have sa : Ieee.signed false (keptOf a) ((a.log2 : Int) - 52 - min ((a.log2 : Int) - 52) (-1074)).toNat = ((a * 2 ^ B : Nat) : Int) := by
    unfold Ieee.signed
    rw [k]
    rfl
  have s0 : Ieee.signed false 0 ((-1074 : Int) - min ((a.log2 : Int) - 52) (-1074)).toNat = 0 := by
    unfold Ieee.signed
    simp
  rw [sa, s0, Int.add_zero]
  have hpos : 0 < a * 2 ^ B := Nat.mul_pos (by omega) (Nat.pow_pos (by omega))
  rw [if_neg (by omega), show decide (((a * 2 ^ B : Nat) : Int) < 0) = false from decide_eq_false (by omega), Int.natAbs_natCast, show min ((a.log2 : Int) - 52) (-1074) = -(B : Int) from by omega]
  rw [Option.map_some, near_up a B (by omega) (by omega)]

end Go.Proofs.YtdjhpgpekomjeaaDoor
