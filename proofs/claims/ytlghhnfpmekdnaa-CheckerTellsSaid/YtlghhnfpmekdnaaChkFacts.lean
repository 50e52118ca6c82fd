/- The landed checker goes once, the document's twice: plain facts that bring them together. -/
import Derived.Test.YtlghhnfpmekdnaaCheckRef
namespace Go.Proofs.Ytlghhnfpmekdnaa.LandedChk
open Go.RowKit

/-! ### One bit of a mask -/
theorem and_one (a : Int) : bits .and .i64 a 1 = a % 2 := by
  show IntKind.i64.wrap ((BitVec.ofInt 64 a &&& BitVec.ofInt 64 1).toNat : Int) = _
  rw [BitVec.toNat_and, show (BitVec.ofInt 64 1).toNat = 2 ^ 1 - 1 from rfl, Nat.and_two_pow_sub_one_eq_mod, BitVec.toNat_ofInt, IntKind.wrap_i64]
  omega

theorem nat_and_pow (n q : Nat) : n &&& 2 ^ q = n / 2 ^ q % 2 * 2 ^ q := by
  apply Nat.eq_of_testBit_eq
  intro j
  rw [Nat.testBit_and, Nat.testBit_two_pow]
  by_cases h : n / 2 ^ q % 2 = 1
  · rw [h, Nat.one_mul, Nat.testBit_two_pow]
    by_cases e : q = j
    · subst e
      simp [Nat.testBit_eq_decide_div_mod_eq, h]
    · simp [e]
  · rw [show n / 2 ^ q % 2 = 0 by omega, Nat.zero_mul, Nat.zero_testBit]
    by_cases e : q = j
    · subst e
      simp [Nat.testBit_eq_decide_div_mod_eq, h]
    · simp [e]

theorem and_pow (a : Int) (q : Nat) (hq : q < 16) : bits .and .i64 a ((2 ^ q : Nat) : Int) = a / ((2 ^ q : Nat) : Int) % 2 * ((2 ^ q : Nat) : Int) := by
  have hp : 2 ^ q < 65536 := Nat.lt_of_lt_of_le (Nat.pow_lt_pow_right (by omega) hq) (by decide)
  show IntKind.i64.wrap ((BitVec.ofInt 64 a &&& BitVec.ofInt 64 ((2 ^ q : Nat) : Int)).toNat : Int) = _
  rw [BitVec.toNat_and, BitVec.ofInt_natCast, BitVec.toNat_ofNat, Nat.mod_eq_of_lt (show 2 ^ q < 2 ^ 64 by omega), nat_and_pow, BitVec.toNat_ofInt, IntKind.wrap_i64]
  rcases (show q = 0 ∨ q = 1 ∨ q = 2 ∨ q = 3 ∨ q = 4 ∨ q = 5 ∨ q = 6 ∨ q = 7 ∨ q = 8 ∨ q = 9 ∨ q = 10 ∨ q = 11 ∨ q = 12 ∨ q = 13 ∨ q = 14 ∨ q = 15 from by omega) with rfl | rfl | rfl | rfl | rfl | rfl | rfl | rfl | rfl | rfl | rfl | rfl | rfl | rfl | rfl | rfl
  all_goals omega

theorem bit_is (a : Int) (q : Nat) (hq : q < 16) : (bits .and .i64 a (2 ^ q) == 0) = (bits .and .i64 (a / 2 ^ q) 1 == 0) := by
  have e : ((2 : Int) ^ q) = ((2 ^ q : Nat) : Int) := by simp
  have hp : 0 < 2 ^ q := Nat.pow_pos (by omega)
  rw [e, and_pow a q hq, and_one]
  generalize a / ((2 ^ q : Nat) : Int) % 2 = m
  generalize hv : 2 ^ q = v at *
  by_cases hm : m = 0
  · subst hm
    simp
  · have h1 : (m == 0) = false := by simpa using hm
    have h2 : (m * (v : Int) == 0) = false := by
      rw [beq_eq_false_iff_ne]
      exact fun h => (Int.mul_eq_zero.1 h).elim hm (by omega)
    rw [h1, h2]

/-! ### What is stored ahead of an instruction hangs on what is ahead of it alone -/
theorem putAnd_ne (o : List Int) (i j : Nat) (h : Int) (hj : i ≠ j) : (putAnd o i h).getD j 0 = o.getD j 0 := by
  simp [putAnd, List.getD, hj]

theorem spread_ahead (x : Ins) (i j : Nat) (o : List Int) (h : j ≤ i) : (spread x i o).getD j 0 = o.getD j 0 := by
  unfold spread
  split
  · rfl
  split
  · exact putAnd_ne _ _ _ _ (by omega)
  split
  · rw [putAnd_ne _ _ _ _ (by omega), putAnd_ne _ _ _ _ (by omega)]
  · exact putAnd_ne _ _ _ _ (by omega)

theorem masks_ahead (l : List Ins) (o : List Int) (j : Nat) : ∀ k, j ≤ k → (masks l o k).getD j 0 = (masks l o j).getD j 0
  | 0, h => by
    obtain rfl : j = 0 := by omega
    rfl
  | k + 1, h => by
    by_cases e : j = k + 1
    · rw [e]
    · rw [masks]
      split
      · exact masks_ahead l o j k (by omega)
      · rw [spread_ahead _ _ _ _ (by omega)]
        exact masks_ahead l o j k (by omega)

theorem putAnd_take (o : List Int) (j n : Nat) (h : Int) : (putAnd o j h).take n = putAnd (o.take n) j h := by
  unfold putAnd
  rw [List.take_set]
  by_cases hj : j < n
  · congr 2
    simp [List.getD, hj]
  · rw [List.set_eq_of_length_le (by simp; omega), List.set_eq_of_length_le (by simp; omega)]

theorem spread_take (x : Ins) (i n : Nat) (o : List Int) (h : i < n) : (spread x i o).take n = spread x i (o.take n) := by
  have e : (o.take n).getD i 0 = o.getD i 0 := by simp [List.getD, h]
  unfold spread
  rw [e]
  split
  · rfl
  split
  · exact putAnd_take _ _ _ _
  split
  · rw [putAnd_take, putAnd_take]
  · exact putAnd_take _ _ _ _

theorem masks_take_out (l : List Ins) (o : List Int) (n : Nat) : ∀ k, k ≤ n → (masks l o k).take n = masks l (o.take n) k
  | 0, _ => rfl
  | k + 1, h => by
    rw [masks, masks]
    split
    · exact masks_take_out l o n k (by omega)
    · rw [spread_take _ _ _ _ (by omega), masks_take_out l o n k (by omega)]

theorem masks_take_in (l : List Ins) (o : List Int) (M : Nat) : ∀ k, k ≤ M → masks (l.take M) o k = masks l o k
  | 0, _ => rfl
  | k + 1, h => by
    rw [masks, masks, List.getElem?_take, if_pos (by omega), masks_take_in l o M k (by omega)]

theorem start_take (n : Nat) : (startMask (n + 1)).take n = startMask n := by
  unfold startMask
  rw [List.take_set, List.take_replicate, Nat.min_eq_left (by omega)]

theorem most_le (l : List Ins) : mostOf l ≤ l.length := by
  unfold mostOf
  cases hf : (List.range l.length).find? (refusedAt l) with
  | none => exact Nat.le_refl _
  | some k =>
    rw [List.find?_range_eq_some] at hf
    have := List.mem_range.1 hf.2.1
    show k ≤ _
    omega

theorem most_above (l : List Ins) (i : Nat) (hi : i < l.length) (h : ∀ j, j ≤ i → refusedAt l j = false) : i < mostOf l := by
  unfold mostOf
  cases hf : (List.range l.length).find? (refusedAt l) with
  | none => exact hi
  | some k =>
    rw [List.find?_range_eq_some] at hf
    show i < k
    by_cases hk : i < k
    · exact hk
    · have := h k (by omega)
      rw [this] at hf
      exact absurd hf.1 (by decide)

theorem out_at (l : List Ins) (j : Nat) (h : j < mostOf l) : (outOf l).getD j 0 = (masks l (startMask l.length) j).getD j 0 := by
  have hm := most_le l
  rw [outOf, masks_take_in _ _ _ _ (Nat.le_refl _), ← start_take l.length, ← masks_take_out _ _ _ _ (by omega), masks_ahead _ _ j _ (by omega)]
  simp [List.getD, show j < l.length by omega]

/-- Is instruction i a load of a cell that is unset there, by what has come to it so far? -/
def unsetAt (l : List Ins) (i : Nat) : Bool := match l[i]? with
  | none => false
  | some x => badLoad x ((masks l (startMask l.length) i).getD i 0)

theorem bad_unset (l : List Ins) (j : Nat) (h : j < mostOf l) : badAt l (outOf l) j = unsetAt l j := by
  unfold badAt unsetAt
  rw [out_at l j h]
  rfl

theorem check_stop (l : List Ins) (i : Nat) (h1 : l.length ≤ 4096) (hi : i < l.length) (hb : ∀ j, j < i → refusedAt l j = false ∧ unsetAt l j = false) (h : refusedAt l i = true ∨ unsetAt l i = true) : checkOf l = ((i : Int), false) := by
  rw [checkOf, if_neg (by omega)]
  cases hr : refusedAt l i
  · have hu : unsetAt l i = true := by
      rcases h with h | h
      · rw [hr] at h; cases h
      · exact h
    have hm : i < mostOf l := most_above l i hi fun j hj => by
      by_cases e : j = i
      · rw [e]; exact hr
      · exact (hb j (by omega)).1
    rw [find_range_some _ _ i hm (by rw [bad_unset l i hm]; exact hu) (fun j hj => by rw [bad_unset l j (by omega)]; exact (hb j hj).2)]
  · have hm : mostOf l = i := most_some l i hi hr fun j hj => (hb j hj).1
    rw [find_range_none _ _ (fun j hj => by rw [bad_unset l j hj]; exact (hb j (by omega)).2), hm, if_pos hi]

theorem check_pass (l : List Ins) (h0 : 1 ≤ l.length) (h1 : l.length ≤ 4096) (hb : ∀ j, j < l.length → refusedAt l j = false ∧ unsetAt l j = false) : checkOf l = (-1, true) := by
  have hm : mostOf l = l.length := most_all l fun j hj => (hb j hj).1
  rw [checkOf, if_neg (by omega), find_range_none _ _ (fun j hj => by rw [bad_unset l j hj]; exact (hb j (by omega)).2), hm, if_neg (by omega)]

end Go.Proofs.Ytlghhnfpmekdnaa.LandedChk
