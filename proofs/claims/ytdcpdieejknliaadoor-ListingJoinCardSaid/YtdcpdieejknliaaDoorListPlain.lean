/- Plain facts on filters as texts: what is written is read back. -/
import Derived.Test.YtdcpdieejknliaaDoorReadList
import Derived.Test.YtdcpdieejknliaaDoorShowRef
namespace Go.Proofs.YtdcpdieejknliaaDoor
open Go.RowKit

theorem split_over {c : UInt8} : ∀ (a cur r : List UInt8), c ∉ a → splitAcc c cur (a ++ c :: r) = (cur ++ a) :: splitAcc c [] r
  | [], cur, r, _ => by simp [splitAcc]
  | x :: a, cur, r, h => by
    have hx : ¬ x = c := fun e => h (by rw [e]; exact List.mem_cons_self ..)
    rw [List.cons_append, splitAcc, if_neg hx, split_over a (cur ++ [x]) r (fun m => h (List.mem_cons_of_mem _ m))]
    simp
theorem split_end {c : UInt8} : ∀ (a cur : List UInt8), c ∉ a → splitAcc c cur a = [cur ++ a]
  | [], cur, _ => by simp [splitAcc]
  | x :: a, cur, h => by
    have hx : ¬ x = c := fun e => h (by rw [e]; exact List.mem_cons_self ..)
    rw [splitAcc, if_neg hx, split_end a (cur ++ [x]) (fun m => h (List.mem_cons_of_mem _ m))]
    simp

theorem dig_nat (n : Nat) (h : n ≤ 9) : (dig n).toNat = 48 + n := by
  unfold dig
  rw [UInt8.toNat_ofNat']
  omega
theorem dec_digs : ∀ (f n : Nat), n < f → ∀ b ∈ dec n, isDig b = true
  | 0, n, h => by omega
  | f + 1, n, hf => by
    intro b hb
    by_cases h : n ≤ 9
    · rw [dec_small h, List.mem_singleton] at hb
      have := dig_nat n h
      rw [hb]
      simp only [isDig, this, Bool.and_eq_true, decide_eq_true_eq]
      omega
    · rw [dec_great h, List.mem_append, List.mem_singleton] at hb
      rcases hb with hb | hb
      · exact dec_digs f (n / 10) (by omega) b hb
      · have := dig_nat (n % 10) (by omega)
        rw [hb]
        simp only [isDig, this, Bool.and_eq_true, decide_eq_true_eq]
        omega
theorem dec_not (n : Nat) (c : UInt8) (h : isDig c = false) : c ∉ dec n := fun hm => by
  have := dec_digs (n + 1) n (by omega) c hm
  rw [h] at this
  cases this
theorem dec_ne (n : Nat) : dec n ≠ [] := by
  by_cases h : n ≤ 9
  · rw [dec_small h]; simp
  · rw [dec_great h]; simp
theorem dec_val : ∀ (f n : Nat), n < f → valOf (dec n) = n
  | 0, n, h => by omega
  | f + 1, n, hf => by
    by_cases h : n ≤ 9
    · have := dig_nat n h
      rw [dec_small h]
      simp [valOf, this]
    · have := dig_nat (n % 10) (by omega)
      rw [dec_great h, val_snoc, dec_val f (n / 10) (by omega), this]
      omega
theorem dec_head : ∀ (f n : Nat), n < f → 1 ≤ n → (dec n).head? ≠ some 48
  | 0, n, h => by omega
  | f + 1, n, hf => by
    intro h1
    by_cases h : n ≤ 9
    · have := dig_nat n h
      rw [dec_small h]
      simp only [List.head?_cons]
      intro e
      have e1 : dig n = 48 := Option.some.inj e
      rw [e1] at this
      have : (48 : UInt8).toNat = 48 := rfl
      omega
    · have ih := dec_head f (n / 10) (by omega) (by omega)
      rw [dec_great h]
      cases hd : dec (n / 10) with
      | nil => exact absurd hd (dec_ne _)
      | cons a r => rw [hd] at ih; simpa using ih
theorem num_dec (n : Nat) (m : Int) (h : (n : Int) ≤ m) (h12 : n < 1000000000000) : numOf (dec n) m = ((n : Int), true) := by
  have hs : numShape (dec n) = true := by
    have h1 := dec_len 11 n (by omega)
    have h2 : (dec n).isEmpty = false := by
      cases hd : dec n with
      | nil => exact absurd hd (dec_ne n)
      | cons a r => rfl
    simp only [numShape, h2, Bool.not_false, Bool.true_and, Bool.and_eq_true, decide_eq_true_eq]
    refine ⟨h1, ?_⟩
    by_cases hz : n ≤ 9
    · rw [dec_small hz]; simp
    · have := dec_head (n + 1) n (by omega) (by omega)
      simp [this]
  have ha : (dec n).all isDig = true := List.all_eq_true.2 (dec_digs (n + 1) n (by omega))
  unfold numOf
  rw [hs, ha, dec_val (n + 1) n (by omega)]
  simp [h]

theorem tab_code : ∀ t ∈ codeTab, codeAt t.2 = t.1 := by decide +kernel
theorem tab_bytes : ∀ t ∈ codeTab, (32 : UInt8) ∉ t.2 ∧ (10 : UInt8) ∉ t.2 := by decide +kernel
theorem name_mem (c : Int) : ∀ l : List (Int × List UInt8), nameIn c l ≠ [] → (c, nameIn c l) ∈ l
  | [], h => absurd rfl h
  | t :: r, h => by
    rw [nameIn] at h ⊢
    by_cases e : t.1 = c
    · rw [if_pos e, ← e]
      exact List.mem_cons_self ..
    · rw [if_neg e] at h ⊢
      exact List.mem_cons_of_mem _ (name_mem c r h)

/-- A line without its end. -/
def lineText (x : Ins) : List UInt8 := nameText x.code ++ 32 :: (dec x.jt.toNat ++ 32 :: (dec x.jf.toNat ++ 32 :: dec x.k.toNat))
theorem showLine_text (x : Ins) : showLine x = lineText x ++ [10] := by simp [showLine, lineText]

theorem no32 (n : Nat) : (32 : UInt8) ∉ dec n := dec_not n 32 rfl
theorem no10 (n : Nat) : (10 : UInt8) ∉ dec n := dec_not n 10 rfl

theorem line_parts (x : Ins) : partsOf 32 (lineText x) = (if nameOf x.code = [] then [[99, 111, 100, 101], dec x.code.toNat] else [nameOf x.code]) ++ [dec x.jt.toNat, dec x.jf.toNat, dec x.k.toNat] := by
  have tail : ∀ cur a : List UInt8, (32 : UInt8) ∉ a → splitAcc 32 cur (a ++ 32 :: (dec x.jt.toNat ++ 32 :: (dec x.jf.toNat ++ 32 :: dec x.k.toNat))) = [cur ++ a, dec x.jt.toNat, dec x.jf.toNat, dec x.k.toNat] := by
    intro cur a ha
    rw [split_over _ _ _ ha, split_over _ _ _ (no32 _), split_over _ _ _ (no32 _), split_end _ _ (no32 _)]
    simp
  unfold partsOf lineText nameText
  by_cases h : nameOf x.code = []
  · rw [if_pos h, if_pos h]
    rw [show ([99, 111, 100, 101, 32] ++ dec x.code.toNat ++ 32 :: (dec x.jt.toNat ++ 32 :: (dec x.jf.toNat ++ 32 :: dec x.k.toNat)) : List UInt8) = [99, 111, 100, 101] ++ 32 :: (dec x.code.toNat ++ 32 :: (dec x.jt.toNat ++ 32 :: (dec x.jf.toNat ++ 32 :: dec x.k.toNat))) from by simp]
    rw [split_over _ _ _ (by decide), tail _ _ (no32 _)]
    rfl
  · rw [if_neg h, if_neg h]
    exact tail _ _ (tab_bytes _ (name_mem _ _ h)).1

theorem line_back (x : Ins) (hf : x.fits = true) (k0 : 0 ≤ x.k) (k1 : x.k ≤ 4294967295) : lineRead (lineText x) = some x := by
  obtain ⟨c0, c1, t0, t1, f0, f1⟩ := fits_bd hf
  have n1 := num_dec x.jt.toNat 255 (by omega) (by omega)
  have n2 := num_dec x.jf.toNat 255 (by omega) (by omega)
  have n3 := num_dec x.k.toNat 4294967295 (by omega) (by omega)
  have n4 := num_dec x.code.toNat 65535 (by omega) (by omega)
  rw [show ((x.jt.toNat : Nat) : Int) = x.jt from by omega] at n1
  rw [show ((x.jf.toNat : Nat) : Int) = x.jf from by omega] at n2
  rw [show ((x.k.toNat : Nat) : Int) = x.k from by omega] at n3
  rw [show ((x.code.toNat : Nat) : Int) = x.code from by omega] at n4
  unfold lineRead
  rw [line_parts]
  by_cases h : nameOf x.code = []
  · rw [if_pos h]
    simp only [List.cons_append, List.nil_append, headOf, n4, h, and_self, if_true, lineTail, n1, n2, n3, Bool.and_self]
  · rw [if_neg h]
    have hc := tab_code _ (name_mem _ _ h)
    have hc' : codeAt (nameOf x.code) = x.code := hc
    simp only [List.cons_append, List.nil_append, headOf, hc', lineTail]
    rw [if_neg (by omega)]
    simp only [n1, n2, n3, Bool.and_self, if_true]

theorem line_no10 (x : Ins) : (10 : UInt8) ∉ lineText x := by
  unfold lineText nameText
  intro h
  simp only [List.mem_append, List.mem_cons] at h
  rcases h with h | h | h | h | h | h | h
  · split at h
    · rcases List.mem_append.1 h with h | h
      · exact absurd h (by decide)
      · exact no10 _ h
    · rename_i hn
      exact (tab_bytes _ (name_mem _ _ hn)).2 h
  · exact absurd h (by decide)
  · exact no10 _ h
  · exact absurd h (by decide)
  · exact no10 _ h
  · exact absurd h (by decide)
  · exact no10 _ h

theorem read_lines : ∀ (l acc : List Ins) (i : Nat), (∀ x ∈ l, x.fits = true) → (∀ x ∈ l, 0 ≤ x.k ∧ x.k ≤ 4294967295) → readFrom i acc (splitAcc 10 [] (l.flatMap showLine)) = (acc ++ l, -1, 0)
  | [], acc, i, _, _ => by simp [splitAcc, readFrom]
  | x :: l, acc, i, hf, hk => by
    have h1 := line_back x (hf x (List.mem_cons_self ..)) (hk x (List.mem_cons_self ..)).1 (hk x (List.mem_cons_self ..)).2
    have ih := read_lines l (acc ++ [x]) (i + 1) (fun y hy => hf y (List.mem_cons_of_mem _ hy)) (fun y hy => hk y (List.mem_cons_of_mem _ hy))
    rw [List.flatMap_cons, showLine_text, List.append_assoc, List.singleton_append, split_over _ _ _ (line_no10 x), List.nil_append]
    cases hs : splitAcc 10 [] (l.flatMap showLine) with
    | nil => exact absurd hs (parts_ne 10 _)
    | cons a r =>
      rw [hs] at ih
      rw [readFrom, h1]
      simp only
      rw [ih]
      simp

/-- What was written is read back. -/
theorem read_show (l : List Ins) (hf : l.all Ins.fits = true) (hk : ∀ x ∈ l, 0 ≤ x.k ∧ x.k ≤ 4294967295) : readOf (showOf l) = (l, -1, 0) := by
  unfold readOf showOf partsOf
  rw [if_pos hf]
  exact read_lines l [] 0 (List.all_eq_true.1 hf) hk

end Go.Proofs.YtdcpdieejknliaaDoor
