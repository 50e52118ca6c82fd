/- Two texts, line by line, are taken apart as each of them: plain facts. -/
import Derived.Test.YtgabeacpgmomhaaDoorTokLex
namespace Go.Proofs.YtgabeacpgmomhaaDoor
open Go.RowKit

theorem run_app (p : UInt8 → Bool) (hp : p 10 = false) (t : List UInt8) : ∀ r : List UInt8, runLen p (r ++ 10 :: t) = runLen p r
  | [] => by
    rw [List.nil_append, run_no _ hp]
    rfl
  | c :: r => by
    rw [List.cons_append, runLen, runLen, run_app p hp t r]

theorem begins_app (t : List UInt8) : ∀ (w r : List UInt8), (10 : UInt8) ∉ w → beginsL w (r ++ 10 :: t) = beginsL w r
  | [], r, _ => by simp [beginsL]
  | a :: w, [], h => by
    have ha : ¬ (10 : UInt8) = a := fun e => h (by rw [e]; exact List.mem_cons_self ..)
    simp [beginsL, ha]
  | a :: w, b :: r, h => by
    have ih := begins_app t w r (fun hm => h (List.mem_cons_of_mem _ hm))
    unfold beginsL at ih ⊢
    simp only [List.length_cons, List.cons_append, List.take_succ_cons, List.cons_beq_cons]
    rw [ih]

theorem end_app (t : List UInt8) : ∀ (r : List UInt8) (m : Nat), endOf r = some m → endOf (r ++ 10 :: t) = some m
  | [], m, h => by cases h
  | c :: r, m, h => by
    have hb := begins_app t [42, 47] (c :: r) (by decide)
    rw [List.cons_append] at hb ⊢
    rw [endOf] at h ⊢
    rw [hb]
    by_cases hq : beginsL [42, 47] (c :: r) = true
    · rw [if_pos hq] at h ⊢
      exact h
    · rw [if_neg hq] at h ⊢
      cases he : endOf r with
      | none => rw [he] at h; cases h
      | some k =>
        rw [he] at h
        rw [end_app t r k he]
        exact h

theorem hex_app (t : List UInt8) (r : List UInt8) : hexAhead (r ++ 10 :: t) = hexAhead r := by
  cases r with
  | nil =>
    cases t with
    | nil => rfl
    | cons a t => simp [hexAhead]
  | cons a r =>
    cases r with
    | nil => simp [hexAhead]
    | cons b r => rfl
theorem hex_two {r : List UInt8} (h : hexAhead r = true) : 2 ≤ r.length := by
  cases r with
  | nil => cases h
  | cons a r =>
    cases r with
    | nil => cases h
    | cons b r => simp
theorem goes_app (t : List UInt8) (r : List UInt8) : goesOn (r ++ 10 :: t) = goesOn r := by
  cases r with
  | nil =>
    show wordB 10 = false
    decide
  | cons a r => rfl
theorem ishex_nl (base : Nat) : isHex base 10 = false := by
  have : hexOf 10 = -1 := by decide
  unfold isHex
  rw [this]
  rfl
theorem digits_app (base : Nat) (t : List UInt8) : ∀ (r : List UInt8) (n : Nat), digitsOf base n (r ++ 10 :: t) = digitsOf base n r
  | [], n => by
    rw [List.nil_append, digits_no (ishex_nl base)]
    rfl
  | c :: r, n => by
    rw [List.cons_append, digitsOf, digitsOf, digits_app base t r]
theorem drop_app (t : List UInt8) (r : List UInt8) (k : Nat) (h : k ≤ r.length) : (r ++ 10 :: t).drop k = r.drop k ++ 10 :: t := by
  rw [List.drop_append_of_le_length h]
theorem take_app (t : List UInt8) (r : List UInt8) (k : Nat) (h : k ≤ r.length) : (r ++ 10 :: t).take k = r.take k := by
  rw [List.take_append_of_le_length h]

theorem num_app (t : List UInt8) (r : List UInt8) : numL (r ++ 10 :: t) = numL r := by
  unfold numL
  dsimp only
  rw [hex_app]
  have hoff : (if hexAhead r then 2 else 0) ≤ r.length := by
    split
    · rename_i h; exact hex_two h
    · omega
  rw [drop_app t r _ hoff, digits_app]
  cases hd : digitsOf (if hexAhead r then 16 else 10) 0 (r.drop (if hexAhead r then 2 else 0)) with
  | none => rfl
  | some u =>
    obtain ⟨v, k⟩ := u
    have hk := digits_len _ _ _ _ _ hd
    rw [List.length_drop] at hk
    dsimp only
    rw [drop_app t r _ (by omega), goes_app]

theorem sign_app (t : List UInt8) (r : List UInt8) (hr : r ≠ []) : signL (r ++ 10 :: t) = signL r := by
  cases r with
  | nil => exact absurd rfl hr
  | cons a r =>
    cases r with
    | nil => simp [signL, twoSigns]
    | cons b r => simp [signL]

theorem one_app (t : List UInt8) (r : List UInt8) (v : Int × List UInt8 × Nat) (h : oneL r = some v) : oneL (r ++ 10 :: t) = some v := by
  cases r with
  | nil => cases h
  | cons c u =>
    have hnum := num_app t (c :: u)
    have hsign := sign_app t (c :: u) (by simp)
    have hb1 := begins_app t [35, 105, 110, 99, 108, 117, 100, 101] (c :: u) (by decide)
    have hb2 := begins_app t [35, 100, 101, 102, 105, 110, 101] (c :: u) (by decide)
    have hrun := run_app wordB (by decide) t (c :: u)
    have hstr := run_app (fun x => !(x == 34) && !(x == 10)) (by decide) t u
    rw [List.cons_append] at hnum hsign hb1 hb2 hrun ⊢
    unfold oneL at h ⊢
    dsimp only at h ⊢
    by_cases hl : letterB c = true
    rotate_left
    · rw [if_neg hl] at h ⊢
      by_cases hg : digB c = true
      rotate_left
      · rw [if_neg hg] at h ⊢
        by_cases h34 : c = 34
        · rw [if_pos h34] at h ⊢
          rw [hstr]
          generalize hn : runLen (fun x => !(x == 34) && !(x == 10)) u = n at *
          have hle : n ≤ u.length := by rw [← hn]; exact run_le _ _
          rw [drop_app t u n hle, take_app t u n hle]
          cases hd : u.drop n with
          | nil => rw [hd] at h; cases h
          | cons a w =>
            rw [hd] at h
            by_cases ha : a = 34
            · rw [ha] at h ⊢
              exact h
            · split at h
              · rename_i he
                simp only [List.cons.injEq] at he
                exact absurd he.1 ha
              · cases h
        · rw [if_neg h34] at h ⊢
          by_cases h35 : c = 35
          · rw [if_pos h35] at h ⊢
            rw [hb1, hb2]
            have g1 : beginsL [35, 105, 110, 99, 108, 117, 100, 101] (c :: u) = true → goesOn ((c :: (u ++ 10 :: t)).drop 8) = goesOn ((c :: u).drop 8) := fun hb => by
              rw [← List.cons_append, drop_app t (c :: u) 8 (begins_len hb), goes_app]
            have g2 : beginsL [35, 100, 101, 102, 105, 110, 101] (c :: u) = true → goesOn ((c :: (u ++ 10 :: t)).drop 7) = goesOn ((c :: u).drop 7) := fun hb => by
              rw [← List.cons_append, drop_app t (c :: u) 7 (begins_len hb), goes_app]
            cases e1 : beginsL [35, 105, 110, 99, 108, 117, 100, 101] (c :: u)
            · rw [e1] at h
              simp only [Bool.false_and, Bool.false_eq_true, if_false] at h ⊢
              cases e2 : beginsL [35, 100, 101, 102, 105, 110, 101] (c :: u)
              · rw [e2] at h
                simp at h
              · rw [e2] at h
                rw [g2 e2]
                exact h
            · rw [e1] at h
              rw [g1 e1]
              cases e2 : beginsL [35, 100, 101, 102, 105, 110, 101] (c :: u)
              · rw [e2] at h
                exact h
              · rw [e2] at h
                rw [g2 e2]
                exact h
          · rw [if_neg h35] at h ⊢
            rw [hsign]
            by_cases hs : signL (c :: u) = 0
            · rw [if_pos hs] at h
              cases h
            · rw [if_neg hs] at h ⊢
              rw [← List.cons_append, take_app t (c :: u) _ sign_len]
              exact h
      · rw [if_pos hg] at h ⊢
        rw [hnum]
        cases hn : numL (c :: u) with
        | none => rw [hn] at h; cases h
        | some w =>
          rw [hn] at h
          have h5 := Option.some.inj h
          show some (2, (c :: (u ++ 10 :: t)).take w.2, w.2) = some v
          rw [← List.cons_append, take_app t (c :: u) _ (num_len hn), ← h5]
    · rw [if_pos hl] at h ⊢
      rw [hrun, ← List.cons_append, take_app t (c :: u) _ (run_le _ _)]
      exact h

theorem skip_app (t : List UInt8) (r : List UInt8) (n : Nat) (hr : r ≠ []) (h : skipL r = some n) : skipL (r ++ 10 :: t) = some n := by
  cases r with
  | nil => exact absurd rfl hr
  | cons c u =>
    have h1 := begins_app t [47, 47] (c :: u) (by decide)
    have h2 := begins_app t [47, 42] (c :: u) (by decide)
    have h3 := run_app (fun x => !(x == 10)) (by decide) t (c :: u)
    rw [List.cons_append] at h1 h2 h3 ⊢
    cases hb : blankB c
    · cases e1 : beginsL [47, 47] (c :: u)
      · cases e2 : beginsL [47, 42] (c :: u)
        · rw [skip_no hb e1 e2] at h
          rw [skip_no hb (by rw [h1, e1]) (by rw [h2, e2])]
          exact h
        · rw [skip_far hb e1 e2] at h
          rw [skip_far hb (by rw [h1, e1]) (by rw [h2, e2]), ← List.cons_append, drop_app t (c :: u) 2 (begins_len e2)]
          cases he : endOf ((c :: u).drop 2) with
          | none => rw [he] at h; cases h
          | some m =>
            rw [he] at h
            rw [end_app t _ m he]
            exact h
      · rw [skip_line hb e1] at h
        rw [skip_line hb (by rw [h1, e1]), h3]
        exact h
    · rw [skip_blank hb] at h
      rw [skip_blank hb]
      exact h

end Go.Proofs.YtgabeacpgmomhaaDoor
