/- Plain facts on the landed token's sets of bytes and on what a text begins with. -/
import Derived.Test.YtdjhpgpekomjeaaDoorTokLex
import Derived.Lib.SlTrimSet
import Derived.Lib.Index
import Derived.Lib.IndexMore
import Derived.Lib.IndexAny
import Derived.Lib.ParseIntBCases
namespace Go.Proofs.YtdjhpgpekomjeaaDoor
open Go.RowKit

theorem all_bytes {p : UInt8 → Bool} (h : (List.range 256).all (fun n => p (UInt8.ofNat n)) = true) (c : UInt8) : p c = true := by
  have := List.all_eq_true.1 h c.toNat (List.mem_range.2 c.toNat_lt)
  simpa using this

def blankL : List UInt8 := [32, 9, 10, 13]
def digL : List UInt8 := [48, 49, 50, 51, 52, 53, 54, 55, 56, 57]
def hexL : List UInt8 := [48, 49, 50, 51, 52, 53, 54, 55, 56, 57, 97, 98, 99, 100, 101, 102, 65, 66, 67, 68, 69, 70]
def letL : List UInt8 := [97, 98, 99, 100, 101, 102, 103, 104, 105, 106, 107, 108, 109, 110, 111, 112, 113, 114, 115, 116, 117, 118, 119, 120, 121, 122, 65, 66, 67, 68, 69, 70, 71, 72, 73, 74, 75, 76, 77, 78, 79, 80, 81, 82, 83, 84, 85, 86, 87, 88, 89, 90, 95]
def wordL : List UInt8 := [97, 98, 99, 100, 101, 102, 103, 104, 105, 106, 107, 108, 109, 110, 111, 112, 113, 114, 115, 116, 117, 118, 119, 120, 121, 122, 65, 66, 67, 68, 69, 70, 71, 72, 73, 74, 75, 76, 77, 78, 79, 80, 81, 82, 83, 84, 85, 86, 87, 88, 89, 90, 95, 48, 49, 50, 51, 52, 53, 54, 55, 56, 57]

theorem set_blank (c : UInt8) : blankL.contains c = blankB c := eq_of_beq (all_bytes (p := fun c => blankL.contains c == blankB c) (by decide +kernel) c)
theorem set_dig (c : UInt8) : digL.contains c = digB c := eq_of_beq (all_bytes (p := fun c => digL.contains c == digB c) (by decide +kernel) c)
theorem set_let (c : UInt8) : letL.contains c = letterB c := eq_of_beq (all_bytes (p := fun c => letL.contains c == letterB c) (by decide +kernel) c)
theorem set_word (c : UInt8) : wordL.contains c = wordB c := eq_of_beq (all_bytes (p := fun c => wordL.contains c == wordB c) (by decide +kernel) c)
theorem set_ten (c : UInt8) : digL.contains c = isHex 10 c := eq_of_beq (all_bytes (p := fun c => digL.contains c == isHex 10 c) (by decide +kernel) c)
theorem set_hex (c : UInt8) : hexL.contains c = isHex 16 c := eq_of_beq (all_bytes (p := fun c => hexL.contains c == isHex 16 c) (by decide +kernel) c)

theorem run_drop (p : UInt8 → Bool) : ∀ l : List UInt8, l.dropWhile p = l.drop (runLen p l)
  | [] => rfl
  | c :: r => by
    rw [List.dropWhile_cons, runLen]
    cases p c
    · rfl
    · simp only [if_true, List.drop_succ_cons]
      exact run_drop p r
theorem run_same {p q : UInt8 → Bool} (h : ∀ c, p c = q c) (l : List UInt8) : runLen p l = runLen q l := by
  rw [show p = q from funext h]
theorem run_all (p : UInt8 → Bool) : ∀ (l : List UInt8) (b : UInt8), b ∈ l.take (runLen p l) → p b = true
  | [], b, h => by simp at h
  | c :: r, b, h => by
    rw [runLen] at h
    split at h
    · rename_i hc
      rw [List.take_succ_cons] at h
      rcases List.mem_cons.1 h with rfl | h
      · exact hc
      · exact run_all p r b h
    · simp at h
theorem run_word0 (l : List UInt8) : (runLen wordB l = 0) ↔ goesOn l = false := by
  cases l with
  | nil => simp [runLen, goesOn]
  | cons c r =>
    rw [runLen, goesOn]
    cases wordB c <;> simp

/-! ### Where a remark ends -/
theorem end_is : ∀ r : List UInt8, endOf r = if Lib.index r [42, 47] = -1 then none else some ((Lib.index r [42, 47]).toNat + 2)
  | [] => rfl
  | c :: r => by
    have ih := end_is r
    have hge := Lib.index_ge r [42, 47]
    rw [endOf, Lib.index]
    have hb : beginsL [42, 47] (c :: r) = ([42, 47] : List UInt8).isPrefixOf (c :: r) := by
      cases r with
      | nil => simp [beginsL, List.isPrefixOf]
      | cons d t => simp [beginsL, List.isPrefixOf, Bool.beq_eq_decide_eq, eq_comm]
    rw [hb]
    cases hp : ([42, 47] : List UInt8).isPrefixOf (c :: r)
    · simp only [Bool.false_eq_true, if_false]
      rw [ih]
      by_cases hm : Lib.index r [42, 47] = -1
      · rw [hm]; rfl
      · have e : (if (Lib.index r [42, 47] == -1) = true then (-1 : Int) else Lib.index r [42, 47] + 1) = Lib.index r [42, 47] + 1 := if_neg (by simpa using hm)
        rw [if_neg hm, e, if_neg (by omega)]
        simp only [Option.map_some]
        congr 1
        omega
    · rfl

/-! ### Numbers -/
/-- What some digits say behind n; nothing: too great. -/
def valOf (base n : Nat) : List UInt8 → Option Nat
  | [] => some n
  | c :: r => if (18446744073709551615 - (hexOf c).toNat) / base < n then none else valOf base (n * base + (hexOf c).toNat) r

theorem digits_is (base : Nat) : ∀ (l : List UInt8) (n : Nat), digitsOf base n l = (valOf base n (l.take (runLen (isHex base) l))).map fun v => (v, runLen (isHex base) l)
  | [], n => rfl
  | c :: r, n => by
    rw [digitsOf, runLen]
    cases h : isHex base c
    · rfl
    · simp only [if_true, List.take_succ_cons]
      rw [valOf]
      by_cases hf : (18446744073709551615 - (hexOf c).toNat) / base < n
      · rw [if_pos hf, if_pos hf]; rfl
      · rw [if_neg hf, if_neg hf, digits_is base r]
        cases valOf base (n * base + (hexOf c).toNat) (r.take (runLen (isHex base) r)) <;> rfl

/-- In base 10 it is the library's. -/
theorem val_ten : ∀ (l : List UInt8) (n : Nat), n < 18446744073709551616 → (∀ b ∈ l, digB b = true) → (∃ u, valOf 10 n l = some u ∧ Lib.parseUintM 18446744073709551615 n l = .ok u) ∨ (valOf 10 n l = none ∧ Lib.parseUintM 18446744073709551615 n l = .range)
  | [], n, _, _ => .inl ⟨n, rfl, rfl⟩
  | c :: r, n, hn, h => by
    have hc : digB c = true := h c (List.mem_cons_self ..)
    have hd : 48 ≤ (c.toNat : Int) ∧ (c.toNat : Int) ≤ 57 := by simpa [digB] using hc
    have hx : (hexOf c).toNat = c.toNat - 48 := by unfold hexOf; rw [if_pos hc]; omega
    have hp : 48 ≤ c.toNat ∧ c.toNat ≤ 57 := by omega
    rw [valOf, Lib.parseUintM, hx, if_pos hp]
    by_cases h1 : 1844674407370955162 ≤ n
    · rw [if_pos h1, if_pos (by omega)]
      exact .inr ⟨rfl, rfl⟩
    · rw [if_neg h1]
      by_cases h2 : 18446744073709551615 < n * 10 + (c.toNat - 48)
      · rw [if_pos h2, if_pos (by omega)]
        exact .inr ⟨rfl, rfl⟩
      · rw [if_neg h2, if_neg (by omega)]
        exact val_ten r _ (by omega) fun b hb => h b (List.mem_cons_of_mem _ hb)

/-! ### What a text begins with -/
/-- The kind (0: nothing is told), the text, the bytes. -/
def pieceL (l : List UInt8) : Option (Int × List UInt8 × Nat) := match l with
  | [] => none
  | c :: t => if blankB c then some (0, [], runLen blankB (c :: t)) else match skipL (c :: t) with
    | none => none
    | some n => if 0 < n then some (0, [], n) else oneL (c :: t)

theorem one_kind {r : List UInt8} {v : Int × List UInt8 × Nat} (h : oneL r = some v) : ¬ v.1 = 0 ∧ 1 ≤ v.1 ∧ v.1 ≤ 5 := by
  cases r with
  | nil => cases h
  | cons c t =>
    unfold oneL at h
    dsimp only at h
    repeat' split at h
    all_goals first
      | (cases h; done)
      | (obtain rfl := Option.some.inj h; exact ⟨by simp, by simp, by simp⟩)
      | (cases hn : numL (c :: t) with
        | none => rw [hn] at h; cases h
        | some u => rw [hn] at h; obtain rfl := Option.some.inj h; exact ⟨by simp, by simp, by simp⟩)

theorem split_run : ∀ (l : List UInt8) (f : Nat) (p : Nat × Nat), l.length ≤ f → ∃ f', (l.drop (runLen blankB l)).length ≤ f' ∧ splitL f p l = splitL f' (posFrom p (l.take (runLen blankB l))) (l.drop (runLen blankB l))
  | [], f, p, _ => ⟨f, by simp, rfl⟩
  | c :: r, f, p, h => by
    rw [runLen]
    cases hb : blankB c
    · exact ⟨f, h, rfl⟩
    · obtain ⟨g, rfl⟩ : ∃ g, f = g + 1 := ⟨f - 1, by rw [List.length_cons] at h; omega⟩
      simp only [if_true, List.drop_succ_cons, List.take_succ_cons]
      obtain ⟨f', h1, h2⟩ := split_run r g (posFrom p [c]) (by rw [List.length_cons] at h; omega)
      refine ⟨f', h1, ?_⟩
      rw [split_skip (by simp) (skip_blank hb) (by decide)]
      show splitL g (posFrom p [c]) r = _
      rw [h2]
      rfl

theorem split_piece {l : List UInt8} (hl : l ≠ []) {f : Nat} (hf : l.length ≤ f) (p : Nat × Nat) :
    (pieceL l = none ∧ splitL f p l = .error p) ∨
    (∃ x n f', pieceL l = some (0, x, n) ∧ 1 ≤ n ∧ n ≤ l.length ∧ (l.drop n).length ≤ f' ∧ splitL f p l = splitL f' (posFrom p (l.take n)) (l.drop n)) ∨
    (∃ k x n f', pieceL l = some (k, x, n) ∧ ¬ k = 0 ∧ 1 ≤ k ∧ k ≤ 5 ∧ 1 ≤ n ∧ n ≤ l.length ∧ (l.drop n).length ≤ f' ∧ splitL f p l = (splitL f' (posFrom p (l.take n)) (l.drop n)).map (⟨k, x, p⟩ :: ·)) := by
  cases l with
  | nil => exact absurd rfl hl
  | cons c t =>
    obtain ⟨g, rfl⟩ : ∃ g, f = g + 1 := ⟨f - 1, by rw [List.length_cons] at hf; omega⟩
    cases hb : blankB c
    · have e : pieceL (c :: t) = (match skipL (c :: t) with
          | none => none
          | some n => if 0 < n then some (0, [], n) else oneL (c :: t)) := by
        unfold pieceL
        dsimp only
        rw [if_neg (by rw [hb]; decide)]
      cases hs : skipL (c :: t) with
      | none => exact .inl ⟨by rw [e, hs], split_far hl hs⟩
      | some n =>
        by_cases hn : 0 < n
        · have hle := skip_len hs
          refine .inr (.inl ⟨[], n, g, by rw [e, hs]; exact if_pos hn, by omega, hle, ?_, split_skip hl hs hn⟩)
          rw [List.length_drop]
          omega
        · obtain rfl : n = 0 := by omega
          cases ho : oneL (c :: t) with
          | none => exact .inl ⟨by rw [e, hs, ← ho]; rfl, split_bad hl hs ho⟩
          | some v =>
            have h1 := one_kind ho
            have h2 := one_len ho
            refine .inr (.inr ⟨v.1, v.2.1, v.2.2, g, by rw [e, hs]; exact ho, h1.1, h1.2.1, h1.2.2, h2.1, h2.2, ?_, split_tok hl hs ho⟩)
            rw [List.length_drop]
            omega
    · obtain ⟨f', h1, h2⟩ := split_run (c :: t) (g + 1) p hf
      refine .inr (.inl ⟨[], runLen blankB (c :: t), f', ?_, ?_, run_le _ _, h1, h2⟩)
      · unfold pieceL
        dsimp only
        rw [if_pos hb]
      · rw [runLen, if_pos hb]
        omega

end Go.Proofs.YtdjhpgpekomjeaaDoor
