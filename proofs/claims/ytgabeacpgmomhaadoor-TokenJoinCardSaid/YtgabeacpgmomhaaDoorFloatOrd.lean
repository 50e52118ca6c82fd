/- Plain facts on whole numbers as floats: what they read as, their order. -/
import Derived.Test.YtgabeacpgmomhaaDoorFloat
namespace Go.Proofs.YtgabeacpgmomhaaDoor
open Go.RowKit

def keptOf (n : Nat) : Nat := n * 2 ^ (52 - n.log2)

theorem kept_bd (n : Nat) (h : 1 ≤ n) (hn : n < 9007199254740992) : 4503599627370496 ≤ keptOf n ∧ keptOf n < 9007199254740992 ∧ n.log2 ≤ 52 := by
  have h0 : n ≠ 0 := by omega
  have h1 := Nat.log2_self_le h0
  have h2 := Nat.lt_log2_self (n := n)
  have h3 : n.log2 ≤ 52 := by
    have : n.log2 < 53 := (Nat.log2_lt h0).2 (by omega)
    omega
  have e1 : 2 ^ n.log2 * 2 ^ (52 - n.log2) = 4503599627370496 := by
    rw [← Nat.pow_add, show n.log2 + (52 - n.log2) = 52 from by omega]
  have e2 : 2 ^ (n.log2 + 1) * 2 ^ (52 - n.log2) = 9007199254740992 := by
    rw [← Nat.pow_add, show n.log2 + 1 + (52 - n.log2) = 53 from by omega]
  refine ⟨?_, ?_, h3⟩
  · rw [← e1]
    exact Nat.mul_le_mul_right _ h1
  · rw [← e2]
    exact Nat.mul_lt_mul_of_pos_right h2 (Nat.pow_pos (by omega))

theorem fl_word (n : Nat) (h : 1 ≤ n) (hn : n < 9007199254740992) : fl (n : Int) = (1022 + n.log2) * 4503599627370496 + keptOf n := by
  obtain ⟨k0, k1, hl⟩ := kept_bd n h hn
  show Ieee.double.write (.number (decide ((n : Int) < 0)) (n : Int).natAbs 0) = _
  rw [show decide ((n : Int) < 0) = false from decide_eq_false (by omega), Int.natAbs_natCast]
  unfold Ieee.Format.write Ieee.Format.nearest
  simp only
  rw [if_neg (by omega)]
  have e1 : Ieee.double.leastPlace = -1074 := by decide
  have e2 : Ieee.double.infRung = 9218868437227405312 := by decide
  have e3 : Ieee.double.binade = 4503599627370496 := by decide
  have e4 : (Ieee.double.fractionBits : Int) = 52 := rfl
  rw [e1, e2, e3, e4, show max ((0 : Int) + (n.log2 : Int) - 52) (-1074) = (n.log2 : Int) - 52 from by omega,
    show ((0 : Int) - ((n.log2 : Int) - 52)).toNat = 52 - n.log2 from by omega, show ((n.log2 : Int) - 52 - 0).toNat = 0 from by omega,
    show ((n.log2 : Int) - 52 - -1074).toNat = 1022 + n.log2 from by omega, Nat.shiftLeft_eq]
  have hc : Ieee.Toward.even.cut false (n * 2 ^ (52 - n.log2)) 0 = keptOf n := by
    unfold Ieee.Toward.cut keptOf
    simp [Nat.mod_one]
  rw [hc]
  unfold Ieee.Format.word
  simp only [Bool.false_eq_true, if_false]
  omega

theorem fl_read (n : Nat) (h : 1 ≤ n) (hn : n < 9007199254740992) : Ieee.double.read (fl (n : Int)) = .number false (keptOf n) ((n.log2 : Int) - 52) := by
  obtain ⟨k0, k1, hl⟩ := kept_bd n h hn
  rw [fl_word n h hn]
  have e0 : Ieee.double.signWeight = 9223372036854775808 := by decide
  have e1 : Ieee.double.leastPlace = -1074 := by decide
  have e2 : Ieee.double.infRung = 9218868437227405312 := by decide
  have e3 : Ieee.double.binade = 4503599627370496 := by decide
  unfold Ieee.Format.read
  rw [e0, e1, e2, e3]
  generalize keptOf n = K at k0 k1
  have hs : ((1022 + n.log2) * 4503599627370496 + K) / 9223372036854775808 % 2 = 0 := by omega
  have hm : ((1022 + n.log2) * 4503599627370496 + K) % 9223372036854775808 = (1022 + n.log2) * 4503599627370496 + K := by omega
  simp only [hs, hm]
  rw [if_neg (by omega), if_pos (by omega)]
  rw [show 4503599627370496 + ((1022 + n.log2) * 4503599627370496 + K) % 4503599627370496 = K from by omega,
    show ((1022 + n.log2) * 4503599627370496 + K) / 4503599627370496 - 1 = 1022 + n.log2 from by omega]
  rw [show (-1074 + ((1022 + n.log2 : Nat) : Int)) = (n.log2 : Int) - 52 from by omega]
  rfl

theorem order_fl (a b : Nat) (ha : 1 ≤ a) (ha' : a < 9007199254740992) (hb : 1 ≤ b) (hb' : b < 9007199254740992) : FloatKind.f64.format.order (fl (a : Int)) (fl (b : Int)) = some (compare a b) := by
  show Ieee.double.order _ _ = _
  unfold Ieee.Format.order
  rw [fl_read a ha ha', fl_read b hb hb']
  obtain ⟨_, _, hla⟩ := kept_bd a ha ha'
  obtain ⟨_, _, hlb⟩ := kept_bd b hb hb'
  unfold Ieee.Datum.order
  simp only
  obtain ⟨B, hB⟩ : ∃ B : Nat, (B : Int) = -(min ((a.log2 : Int) - 52) ((b.log2 : Int) - 52)) := ⟨(-(min ((a.log2 : Int) - 52) ((b.log2 : Int) - 52))).toNat, by omega⟩
  have sg : ∀ n : Nat, n.log2 ≤ 52 → (52 - n.log2) ≤ B → Ieee.signed false (keptOf n) ((n.log2 : Int) - 52 - min ((a.log2 : Int) - 52) ((b.log2 : Int) - 52)).toNat = ((n * 2 ^ B : Nat) : Int) := by
    intro n h1 h2
    unfold Ieee.signed keptOf
    simp only [Bool.false_eq_true, if_false]
    rw [Nat.shiftLeft_eq, Nat.mul_assoc, ← Nat.pow_add, show 52 - n.log2 + ((n.log2 : Int) - 52 - min ((a.log2 : Int) - 52) ((b.log2 : Int) - 52)).toNat = B from by omega]
  rw [sg a hla (by omega), sg b hlb (by omega)]
  congr 1
  have hp : 0 < 2 ^ B := Nat.pow_pos (by omega)
  rw [Int.compare_eq_ite_lt, Nat.compare_eq_ite_lt]
  by_cases h1 : a < b
  · rw [if_pos h1, if_pos (by exact_mod_cast Nat.mul_lt_mul_of_pos_right h1 hp)]
  · by_cases h2 : b < a
    · have h3 : b * 2 ^ B < a * 2 ^ B := Nat.mul_lt_mul_of_pos_right h2 hp
      rw [if_neg h1, if_neg (by omega), if_pos h2, if_pos (by omega)]
    · have : a = b := by omega
      subst this
      rw [if_neg h1, if_neg (by omega), if_neg h2, if_neg (by omega)]

theorem feq_fl (a b : Nat) (ha : 1 ≤ a) (ha' : a < 9007199254740992) (hb : 1 ≤ b) (hb' : b < 9007199254740992) : feq (fl (a : Int)) (fl (b : Int)) = (a == b) := by
  unfold feq
  rw [order_fl a b ha ha' hb hb']
  by_cases h : a = b
  · subst h; simp
  · have : compare a b ≠ .eq := fun e => h (Nat.compare_eq_eq.1 e)
    rw [show (a == b) = false from by simpa using h]
    cases hc : compare a b <;> simp_all

end Go.Proofs.YtgabeacpgmomhaaDoor
