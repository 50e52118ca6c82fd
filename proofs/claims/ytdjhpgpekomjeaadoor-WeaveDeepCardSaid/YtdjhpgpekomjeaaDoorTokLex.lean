/- A text taken apart, as a plain function of what is left of it. -/
import Derived.Test.YtdjhpgpekomjeaaDoorPart3
namespace Go.Proofs.YtdjhpgpekomjeaaDoor
open Go.RowKit

/-- A token, and where it begins. -/
structure TokV where
  kind : Int
  text : List UInt8
  place : Nat × Nat
  deriving DecidableEq

def splitL : Nat → Nat × Nat → List UInt8 → Except (Nat × Nat) (List TokV)
  | 0, _, _ => .ok []
  | _ + 1, _, [] => .ok []
  | f + 1, p, c :: t => match skipL (c :: t) with
    | none => .error p
    | some n => if 0 < n then splitL f (posFrom p ((c :: t).take n)) ((c :: t).drop n) else match oneL (c :: t) with
      | none => .error p
      | some v => (splitL f (posFrom p ((c :: t).take v.2.2)) ((c :: t).drop v.2.2)).map (⟨v.1, v.2.1, p⟩ :: ·)
def splitOf (s : List UInt8) : Except (Int × Nat × Nat) (List TokV) := if 20000 < s.length then .error (9, 1, 1) else match splitL s.length (1, 1) s with
  | .error p => .error (3, p)
  | .ok l => .ok l

theorem split_far {f : Nat} {p : Nat × Nat} {r : List UInt8} (hr : r ≠ []) (h : skipL r = none) : splitL (f + 1) p r = .error p := by
  cases r with
  | nil => exact absurd rfl hr
  | cons c t => rw [splitL, h]
theorem split_skip {f n : Nat} {p : Nat × Nat} {r : List UInt8} (hr : r ≠ []) (h : skipL r = some n) (hn : 0 < n) : splitL (f + 1) p r = splitL f (posFrom p (r.take n)) (r.drop n) := by
  cases r with
  | nil => exact absurd rfl hr
  | cons c t =>
    rw [splitL, h]
    dsimp only
    rw [if_pos hn]
theorem split_bad {f : Nat} {p : Nat × Nat} {r : List UInt8} (hr : r ≠ []) (h : skipL r = some 0) (h1 : oneL r = none) : splitL (f + 1) p r = .error p := by
  cases r with
  | nil => exact absurd rfl hr
  | cons c t =>
    rw [splitL, h]
    dsimp only
    rw [if_neg (by omega), h1]
theorem split_tok {f : Nat} {p : Nat × Nat} {r : List UInt8} {v : Int × List UInt8 × Nat} (hr : r ≠ []) (h : skipL r = some 0) (h1 : oneL r = some v) : splitL (f + 1) p r = (splitL f (posFrom p (r.take v.2.2)) (r.drop v.2.2)).map (⟨v.1, v.2.1, p⟩ :: ·) := by
  cases r with
  | nil => exact absurd rfl hr
  | cons c t =>
    rw [splitL, h]
    dsimp only
    rw [if_neg (by omega), h1]
theorem split_nil (f : Nat) (p : Nat × Nat) : splitL f p [] = .ok [] := by cases f <;> rfl

theorem end_len : ∀ (r : List UInt8) (m : Nat), endOf r = some m → m ≤ r.length
  | [], m, h => by cases h
  | c :: r, m, h => by
    rw [endOf] at h
    split at h
    · rename_i hb
      have := congrArg List.length (eq_of_beq hb)
      rw [List.length_take] at this
      have h4 : min 2 (c :: r).length = 2 := this
      have h5 : 2 = m := Option.some.inj h
      omega
    · cases hd : endOf r with
      | none => rw [hd] at h; cases h
      | some t =>
        rw [hd] at h
        have h5 : t + 1 = m := Option.some.inj h
        have := end_len r t hd
        rw [List.length_cons]
        omega

theorem begins_len {t r : List UInt8} (h : beginsL t r = true) : t.length ≤ r.length := by
  have := congrArg List.length (eq_of_beq h)
  rw [List.length_take] at this
  omega

theorem skip_len {r : List UInt8} {n : Nat} (h : skipL r = some n) : n ≤ r.length := by
  cases r with
  | nil =>
    have : 0 = n := Option.some.inj h
    omega
  | cons c t =>
    cases hb : blankB c
    · cases h1 : beginsL [47, 47] (c :: t)
      · cases h2 : beginsL [47, 42] (c :: t)
        · rw [skip_no hb h1 h2] at h
          have : 0 = n := Option.some.inj h
          omega
        · rw [skip_far hb h1 h2] at h
          have hl := begins_len h2
          cases he : endOf ((c :: t).drop 2) with
          | none => rw [he] at h; cases h
          | some m =>
            rw [he] at h
            have h5 : m + 2 = n := Option.some.inj h
            have := end_len _ _ he
            rw [List.length_drop] at this
            have hl2 : 2 ≤ (c :: t).length := hl
            omega
      · rw [skip_line hb h1] at h
        have h5 := Option.some.inj h
        rw [← h5]
        exact run_le _ _
    · rw [skip_blank hb] at h
      have h5 : 1 = n := Option.some.inj h
      rw [List.length_cons]
      omega

theorem num_pos {r : List UInt8} {v : Nat × Nat} (h : numL r = some v) : 1 ≤ v.2 := by
  unfold numL at h
  dsimp only at h
  cases hd : digitsOf (if hexAhead r then 16 else 10) 0 (r.drop (if hexAhead r then 2 else 0)) with
  | none => rw [hd] at h; cases h
  | some u =>
    obtain ⟨v1, k1⟩ := u
    rw [hd] at h
    dsimp only at h
    by_cases hk : k1 = 0 ∨ goesOn (r.drop ((if hexAhead r then 2 else 0) + k1)) = true
    · rw [if_pos hk] at h
      cases h
    · rw [if_neg hk] at h
      simp only [Option.some.injEq] at h
      rw [← h]
      simp only [not_or] at hk
      show 1 ≤ (if hexAhead r then 2 else 0) + k1
      omega

theorem one_len {r : List UInt8} {v : Int × List UInt8 × Nat} (h : oneL r = some v) : 1 ≤ v.2.2 ∧ v.2.2 ≤ r.length := by
  cases r with
  | nil => cases h
  | cons c t =>
    unfold oneL at h
    dsimp only at h
    cases hl : letterB c
    · rw [if_neg (by rw [hl]; decide)] at h
      cases hg : digB c
      · rw [if_neg (by rw [hg]; decide)] at h
        by_cases h34 : c = 34
        · rw [if_pos h34] at h
          cases hd : t.drop (runLen (fun x => !(x == 34) && !(x == 10)) t) with
          | nil => rw [hd] at h; cases h
          | cons a u =>
            have hlt : runLen (fun x => !(x == 34) && !(x == 10)) t < t.length := by
              have := congrArg List.length hd
              rw [List.length_drop, List.length_cons] at this
              omega
            rw [hd] at h
            by_cases ha : a = 34
            · rw [ha] at h
              have h5 := Option.some.inj h
              rw [← h5]
              simp only [List.length_cons]
              omega
            · split at h
              · rename_i he
                simp only [List.cons.injEq] at he
                exact absurd he.1 ha
              · cases h
        · rw [if_neg h34] at h
          by_cases h35 : c = 35
          · rw [if_pos h35] at h
            split at h
            · rename_i hb
              simp only [Bool.and_eq_true] at hb
              have := begins_len hb.1
              have h5 := Option.some.inj h
              rw [← h5]
              exact ⟨by decide, this⟩
            · split at h
              · rename_i hb
                simp only [Bool.and_eq_true] at hb
                have := begins_len hb.1
                have h5 := Option.some.inj h
                rw [← h5]
                exact ⟨by decide, this⟩
              · cases h
          · rw [if_neg h35] at h
            by_cases hs : signL (c :: t) = 0
            · rw [if_pos hs] at h
              cases h
            · rw [if_neg hs] at h
              have h5 := Option.some.inj h
              rw [← h5]
              have := sign_len (r := c :: t)
              exact ⟨by show 1 ≤ signL (c :: t); omega, this⟩
      · rw [if_pos hg] at h
        cases hn : numL (c :: t) with
        | none => rw [hn] at h; cases h
        | some u =>
          rw [hn] at h
          have h5 := Option.some.inj h
          rw [← h5]
          exact ⟨num_pos hn, num_len hn⟩
    · rw [if_pos hl] at h
      have h5 := Option.some.inj h
      rw [← h5]
      refine ⟨?_, run_le _ _⟩
      show 1 ≤ runLen wordB (c :: t)
      rw [run_on _ (show wordB c = true by unfold wordB; rw [hl]; rfl)]
      omega

theorem pos_add (s : List UInt8) (k n : Nat) : posFrom (1, 1) (s.take (k + n)) = posFrom (posFrom (1, 1) (s.take k)) ((s.drop k).take n) := by
  rw [List.take_add]
  unfold posFrom
  rw [List.foldl_append]
theorem map_map_ok {l m : List TokV} (e : Except (Nat × Nat) (List TokV)) : (e.map (m ++ ·)).map (l ++ ·) = e.map ((l ++ m) ++ ·) := by
  cases e with
  | error p => rfl
  | ok x => simp [Except.map]

/-! ### Tokens as cells -/
def tokVals (file : Int) (t : TokV) : List Value := [.int .i64 t.kind, .string (strOf t.text), .int .i64 file, .complex .f64 (fl t.place.1) (fl t.place.2)]
def toksV (file : Int) (l : List TokV) : List Value := l.flatMap (tokVals file)
theorem toksV_snoc (file : Int) (l : List TokV) (t : TokV) : toksV file (l ++ [t]) = toksV file l ++ tokVals file t := by simp [toksV]
theorem toksV_len (file : Int) (l : List TokV) : (toksV file l).length = l.length * 4 := by
  unfold toksV
  induction l with
  | nil => rfl
  | cons t l ih => simp [tokVals] at ih ⊢; omega
def faultCells (e file : Int) (re im : Nat) : Array Value := #[.int .i64 e, .int .i64 file, .complex .f64 re im]

/-- What a function that takes a text apart gives. -/
def SplitRes (file : Int) (t : Except (Int × Nat × Nat) (List TokV)) (w : World) : Ending → World → Prop := fun r w' =>
  ((∃ (e : Int) (p : Nat × Nat) (A : Option Addr) (c : Nat), t = .error (e, p) ∧ r = .returned (.tuple #[.slice A 0 c, .agg (faultCells e file (fl p.1) (fl p.2))])) ∨
   (∃ (l : List TokV) (A : Option Addr) (c : Nat), t = .ok l ∧ r = .returned (.tuple #[.slice A l.length c, .agg (faultCells 0 0 0 0)]) ∧ l.length ≤ c ∧ Lies w' w'.heap.size 4 A l.length (toksV file l))) ∧ Below w.heap.size w w'

/-- The same, its tokens in a row of its own. -/
def SplitNew (file : Int) (t : Except (Int × Nat × Nat) (List TokV)) (w : World) : Ending → World → Prop := fun r w' =>
  ((∃ (e : Int) (p : Nat × Nat) (A : Option Addr) (c : Nat), t = .error (e, p) ∧ r = .returned (.tuple #[.slice A 0 c, .agg (faultCells e file (fl p.1) (fl p.2))])) ∨
   (∃ (l : List TokV) (A : Option Addr) (c : Nat), t = .ok l ∧ r = .returned (.tuple #[.slice A l.length c, .agg (faultCells 0 0 0 0)]) ∧ l.length ≤ c ∧ w'.ownsRow w.heap.size 35 4 (.slice A l.length c) l.length (toksV file l))) ∧ Below w.heap.size w w'
theorem SplitNew.res {file : Int} {t : Except (Int × Nat × Nat) (List TokV)} {w : World} {r : Ending} {w' : World} (h : SplitNew file t w r w') : SplitRes file t w r w' := by
  obtain ⟨h | ⟨l, A, c, h1, h2, h3, h4⟩, hb⟩ := h
  · exact ⟨.inl h, hb⟩
  · exact ⟨.inr ⟨l, A, c, h1, h2, h3, Lies.of_own h4⟩, hb⟩

end Go.Proofs.YtdjhpgpekomjeaaDoor
