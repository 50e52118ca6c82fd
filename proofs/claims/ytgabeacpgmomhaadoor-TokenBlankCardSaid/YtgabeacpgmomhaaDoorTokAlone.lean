/- A token with a blank behind it is the same token; how it is written. Plain facts. -/
import Derived.Test.YtgabeacpgmomhaaDoorTokSrc
namespace Go.Proofs.YtgabeacpgmomhaaDoor
open Go.RowKit

theorem sign_cut (rest r : List UInt8) (hr : r ≠ []) (h : signL r ≠ 0) : signL (r.take (signL r) ++ 32 :: rest) = signL r := by
  cases h2 : twoSigns.contains (r.take 2)
  · cases r with
    | nil => exact absurd rfl hr
    | cons c t =>
      have h1 := sign_one h2 rfl
      by_cases ho : oneSigns.contains c = true
      · rw [h1, if_pos ho] at h ⊢
        rw [List.take_succ_cons, List.take_zero]
        have hn : twoSigns.contains (([c] ++ 32 :: rest).take 2) = false := by
          simp [twoSigns]
        rw [sign_one hn rfl, if_pos ho]
      · rw [h1, if_neg ho] at h
        exact absurd rfl h
  · rw [sign_two h2]
    refine sign_two ?_
    have hl : (r.take 2).length = 2 := by
      have : ∀ x : List UInt8, twoSigns.contains x = true → x.length = 2 := by
        intro x hx
        simp only [twoSigns, List.contains_cons, List.contains_nil, Bool.or_false, Bool.or_eq_true, beq_iff_eq] at hx
        rcases hx with rfl | rfl | rfl | rfl | rfl | rfl <;> rfl
      exact this _ h2
    have e : (r.take 2 ++ 32 :: rest).take 2 = r.take 2 := List.take_left' hl
    rw [e]
    exact h2

/-- How a token is written. -/
def srcOf (k : Int) (x : List UInt8) : List UInt8 := if k = 4 then 34 :: (x ++ [34]) else x

theorem letter_not {c : UInt8} (h : letterB c = true) : c ≠ 32 ∧ c ≠ 9 ∧ c ≠ 10 ∧ c ≠ 13 ∧ c ≠ 47 := by
  refine ⟨?_, ?_, ?_, ?_, ?_⟩ <;> (rintro rfl; revert h; decide)
theorem digit_not {c : UInt8} (h : digB c = true) : c ≠ 32 ∧ c ≠ 9 ∧ c ≠ 10 ∧ c ≠ 13 ∧ c ≠ 47 := by
  refine ⟨?_, ?_, ?_, ?_, ?_⟩ <;> (rintro rfl; revert h; decide)
theorem sign_not {c : UInt8} {t : List UInt8} (h : signL (c :: t) ≠ 0) : c ≠ 32 ∧ c ≠ 9 ∧ c ≠ 10 ∧ c ≠ 13 ∧ c ≠ 47 := by
  refine ⟨?_, ?_, ?_, ?_, ?_⟩ <;> (
    rintro rfl
    refine h ?_
    have hn : ∀ a : UInt8, a ≠ 38 → a ≠ 124 → a ≠ 61 → a ≠ 33 → a ≠ 60 → a ≠ 62 → twoSigns.contains ((a :: t).take 2) = false := by
      intro a h1 h2 h3 h4 h5 h6
      simp [twoSigns, h1, h2, h3, h4, h5, h6]
    rw [sign_one (hn _ (by decide) (by decide) (by decide) (by decide) (by decide) (by decide)) rfl]
    rfl)

theorem one_head {c : UInt8} {t : List UInt8} {v : Int × List UInt8 × Nat} (h : oneL (c :: t) = some v) : c ≠ 32 ∧ c ≠ 9 ∧ c ≠ 10 ∧ c ≠ 13 ∧ c ≠ 47 := by
  unfold oneL at h
  dsimp only at h
  by_cases hl : letterB c = true
  · exact letter_not hl
  · rw [if_neg hl] at h
    by_cases hg : digB c = true
    · exact digit_not hg
    · rw [if_neg hg] at h
      by_cases h34 : c = 34
      · subst h34
        decide
      · rw [if_neg h34] at h
        by_cases h35 : c = 35
        · subst h35
          decide
        · rw [if_neg h35] at h
          by_cases hs : signL (c :: t) = 0
          · rw [if_pos hs] at h
            cases h
          · exact sign_not hs
theorem one_skip {r : List UInt8} {v : Int × List UInt8 × Nat} (h : oneL r = some v) : skipL r = some 0 := by
  cases r with
  | nil => cases h
  | cons c t =>
    obtain ⟨h1, h2, h3, h4, h5⟩ := one_head h
    refine skip_no ?_ ?_ ?_
    · simp [blankB, h1, h2, h3, h4]
    · simp [beginsL, h5]
    · simp [beginsL, h5]

theorem one_cut (rest r : List UInt8) (v : Int × List UInt8 × Nat) (h : oneL r = some v) : oneL (r.take v.2.2 ++ 32 :: rest) = some v ∧ r.take v.2.2 = srcOf v.1 v.2.1 := by
  have hlen := one_len h
  cases r with
  | nil => cases h
  | cons c u =>
    unfold oneL at h
    dsimp only at h
    by_cases hl : letterB c = true
    · rw [if_pos hl] at h
      obtain rfl := Option.some.inj h
      dsimp only at hlen ⊢
      have hw : wordB c = true := by unfold wordB; rw [hl]; rfl
      have hrc := run_cut wordB (c := 32) (by decide) rest (c :: u)
      have hll : ((c :: u).take (runLen wordB (c :: u))).length = runLen wordB (c :: u) := by rw [List.length_take]; omega
      generalize hn : runLen wordB (c :: u) = n at *
      obtain ⟨m, rfl⟩ : ∃ m, n = m + 1 := ⟨n - 1, by omega⟩
      rw [List.take_succ_cons] at hrc hll ⊢
      refine ⟨?_, rfl⟩
      rw [List.cons_append] at hrc ⊢
      unfold oneL
      dsimp only
      rw [if_pos hl, hrc, ← List.cons_append, List.take_left' hll]
    · rw [if_neg hl] at h
      by_cases hg : digB c = true
      · rw [if_pos hg] at h
        cases hnum : numL (c :: u) with
        | none => rw [hnum] at h; cases h
        | some w =>
          obtain ⟨a, n⟩ := w
          rw [hnum] at h
          obtain rfl := Option.some.inj h
          dsimp only at hlen ⊢
          have hc := num_cut rest _ _ _ hnum
          have hll : ((c :: u).take n).length = n := by rw [List.length_take]; omega
          obtain ⟨m, rfl⟩ : ∃ m, n = m + 1 := ⟨n - 1, by omega⟩
          rw [List.take_succ_cons] at hc hll ⊢
          refine ⟨?_, rfl⟩
          rw [List.cons_append] at hc ⊢
          unfold oneL
          dsimp only
          rw [if_neg hl, if_pos hg, hc]
          show some (2, (c :: (u.take m ++ 32 :: rest)).take (m + 1), m + 1) = _
          rw [← List.cons_append, List.take_left' hll]
      · rw [if_neg hg] at h
        by_cases h34 : c = 34
        · rw [if_pos h34] at h
          have hrc := run_cut (fun x => !(x == 34) && !(x == 10)) (c := 34) (by decide) (32 :: rest) u
          have hrl := run_le (fun x => !(x == 34) && !(x == 10)) u
          generalize hn : runLen (fun x => !(x == 34) && !(x == 10)) u = n at *
          cases hd : u.drop n with
          | nil => rw [hd] at h; cases h
          | cons a w =>
            rw [hd] at h
            by_cases ha : a = 34
            · subst ha
              obtain rfl := Option.some.inj h
              dsimp only at hlen ⊢
              have hll : (u.take n).length = n := by rw [List.length_take]; omega
              have e : u.take (n + 1) = u.take n ++ [34] := by
                rw [List.take_add, hd]
                rfl
              rw [List.take_succ_cons, e, List.cons_append, List.append_assoc]
              refine ⟨?_, by rw [h34]; rfl⟩
              show oneL (c :: (u.take n ++ 34 :: 32 :: rest)) = _
              unfold oneL
              dsimp only
              rw [if_neg hl, if_neg hg, if_pos h34, hrc, List.drop_left' hll, List.take_left' hll]
              rfl
            · split at h
              · rename_i he
                simp only [List.cons.injEq] at he
                exact absurd he.1 ha
              · cases h
        · rw [if_neg h34] at h
          by_cases h35 : c = 35
          · rw [if_pos h35] at h
            cases e1 : (beginsL [35, 105, 110, 99, 108, 117, 100, 101] (c :: u) && !goesOn ((c :: u).drop 8))
            · rw [e1] at h
              cases e2 : (beginsL [35, 100, 101, 102, 105, 110, 101] (c :: u) && !goesOn ((c :: u).drop 7))
              · rw [e2] at h
                simp at h
              · rw [e2] at h
                simp only [Bool.false_eq_true, if_false, if_true] at h
                obtain rfl := Option.some.inj h
                rw [Bool.and_eq_true] at e2
                have e3 : (c :: u).take 7 = [35, 100, 101, 102, 105, 110, 101] := by
                  have := e2.1
                  unfold beginsL at this
                  exact eq_of_beq this
                dsimp only
                rw [e3]
                refine ⟨?_, rfl⟩
                rfl
            · rw [e1] at h
              simp only [if_true] at h
              obtain rfl := Option.some.inj h
              rw [Bool.and_eq_true] at e1
              have e3 : (c :: u).take 8 = [35, 105, 110, 99, 108, 117, 100, 101] := by
                have := e1.1
                unfold beginsL at this
                exact eq_of_beq this
              dsimp only
              rw [e3]
              refine ⟨?_, rfl⟩
              rfl
          · rw [if_neg h35] at h
            by_cases hs : signL (c :: u) = 0
            · rw [if_pos hs] at h
              cases h
            · rw [if_neg hs] at h
              obtain rfl := Option.some.inj h
              dsimp only at hlen ⊢
              have hc := sign_cut rest (c :: u) (by simp) hs
              have hll : ((c :: u).take (signL (c :: u))).length = signL (c :: u) := by rw [List.length_take]; omega
              generalize signL (c :: u) = n at *
              obtain ⟨m, rfl⟩ : ∃ m, n = m + 1 := ⟨n - 1, by omega⟩
              rw [List.take_succ_cons] at hc hll ⊢
              refine ⟨?_, rfl⟩
              rw [List.cons_append] at hc ⊢
              unfold oneL
              dsimp only
              rw [if_neg hl, if_neg hg, if_neg h34, if_neg h35, hc, if_neg hs, ← List.cons_append, List.take_left' hll]

end Go.Proofs.YtgabeacpgmomhaaDoor
