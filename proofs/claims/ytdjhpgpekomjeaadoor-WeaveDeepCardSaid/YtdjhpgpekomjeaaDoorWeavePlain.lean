/- The tokens of files that include one another, as plain functions. -/
import Derived.Test.YtdjhpgpekomjeaaDoorTokLex
import Derived.Test.YtdjhpgpekomjeaaDoorPart4
namespace Go.Proofs.YtdjhpgpekomjeaaDoor
open Go.RowKit

abbrev FTok := Int × TokV
abbrev FileV := ByteArray × ByteArray
/-- An error's number, a file, a place. -/
abbrev FaultV := Int × Int × (Nat × Nat)
def ftokV (t : FTok) : List Value := tokVals t.1 t.2
def ftoksV (l : List FTok) : List Value := l.flatMap ftokV
theorem ftoksV_len (l : List FTok) : (ftoksV l).length = l.length * 4 := by
  unfold ftoksV
  induction l with
  | nil => rfl
  | cons t l ih => simp [ftokV, tokVals] at ih ⊢; omega
theorem ftoksV_append (l m : List FTok) : ftoksV (l ++ m) = ftoksV l ++ ftoksV m := by simp [ftoksV]
theorem ftoksV_one (t : FTok) : ftoksV [t] = tokVals t.1 t.2 := by simp [ftoksV, ftokV]
theorem ftoksV_file (file : Int) (l : List TokV) : ftoksV (l.map fun t => (file, t)) = toksV file l := by
  unfold ftoksV toksV
  induction l with
  | nil => rfl
  | cons t l ih =>
    simp only [List.map_cons, List.flatMap_cons]
    rw [ih]
    rfl

def includeT : List UInt8 := [35, 105, 110, 99, 108, 117, 100, 101]
def isInc (t : TokV) : Bool := (t.text == includeT) && (t.kind == 5)

abbrev WeaveR := Except FaultV (List FTok) × Nat

/-- The tokens that are left; 'rec' reads an included file. -/
def weaveToks (fs : List FileV) (rec : Nat → List Nat → Nat → WeaveR) (path : List UInt8) (file : Nat) (opened : List Nat) : List TokV → List FTok → Nat → WeaveR
  | [], acc, n => (.ok acc, n)
  | t :: r, acc, n =>
    if isInc t = false then weaveToks fs rec path file opened r (acc ++ [((file : Int), t)]) n
    else match r with
      | [] => (.error (3, file, t.place), n)
      | u :: r' =>
        if u.kind ≠ 4 then (.error (3, file, t.place), n)
        else if (joinPath path u.text).2 = false ∨ (fileOf fs (joinPath path u.text).1).2 = false then (.error (4, file, t.place), n)
        else if opened.contains (fileOf fs (joinPath path u.text).1).1.toNat then (.error (5, file, t.place), n)
        else if 8 ≤ opened.length then (.error (6, file, t.place), n)
        else if 1000 ≤ n then (.error (9, file, t.place), n)
        else match rec (fileOf fs (joinPath path u.text).1).1.toNat (opened ++ [(fileOf fs (joinPath path u.text).1).1.toNat]) (n + 1) with
          | (.error e, n') => (.error e, n')
          | (.ok x, n') => weaveToks fs rec path file opened r' (acc ++ x) n'

def weaveFile (fs : List FileV) (rec : Nat → List Nat → Nat → WeaveR) (file : Nat) (opened : List Nat) (n : Nat) : WeaveR :=
  match fs[file]? with
  | none => (.ok [], n)
  | some f => match splitOf f.2.data.toList with
    | .error e => (.error (e.1, file, e.2), n)
    | .ok t => weaveToks fs rec f.1.data.toList file opened t [] n

/-- d: how many files may still be opened. -/
def weaveL (fs : List FileV) : Nat → Nat → List Nat → Nat → WeaveR
  | 0 => weaveFile fs fun _ _ n => (.ok [], n)
  | d + 1 => weaveFile fs (weaveL fs d)

def weaveOf (fs : List FileV) (root : List UInt8) : Except FaultV (List FTok) :=
  if (fileOf fs root).2 then (weaveL fs 7 (fileOf fs root).1.toNat [(fileOf fs root).1.toNat] 0).1 else .error (4, -1, (0, 0))

/-! ### How long a path is -/
theorem cleanFrom_tot : ∀ (ps l L : List (List UInt8)), cleanFrom l ps = some L → tot L ≤ tot l + tot ps
  | [], l, L, h => by
    simp only [cleanFrom, Option.some.injEq] at h
    rw [h]
    omega
  | p :: r, l, L, h => by
    rw [cleanFrom] at h
    cases hs : cleanStep l p with
    | none => rw [hs] at h; cases h
    | some m =>
      rw [hs] at h
      have ih := cleanFrom_tot r m L h
      have hm : tot m ≤ tot l + (p.length + 1) := by
        unfold cleanStep at hs
        split at hs
        · rw [← Option.some.inj hs]; omega
        split at hs
        · split at hs
          · cases hs
          · rw [← Option.some.inj hs]
            have := tot_last l
            omega
        · rw [← Option.some.inj hs, tot_snoc]
          omega
      rw [tot_cons]
      omega
theorem cleanOf_tot (ps : List (List UInt8)) : (cleanOf ps).1.length ≤ tot ps := by
  unfold cleanOf
  cases h : cleanFrom [] ps with
  | none => simp [cleanEnd]
  | some L =>
    cases L with
    | nil => simp [cleanEnd]
    | cons x r =>
      have h1 := cleanFrom_tot ps [] _ h
      have h2 := join_len (x :: r)
      rw [tot_nil] at h1
      show (joinOf (x :: r)).length ≤ _
      omega
theorem joinPath_len (f p : ByteArray) : (joinPath f.data.toList p.data.toList).1.length ≤ f.size + p.size + 2 := by
  unfold joinPath
  have hp := parts_tot 47 p
  have hf := parts_tot 47 f
  split
  · unfold cleanPath
    have := cleanOf_tot (partsOf 47 p.data.toList)
    omega
  · have h1 := cleanOf_tot ((partsOf 47 f.data.toList).dropLast ++ partsOf 47 p.data.toList)
    rw [tot_append] at h1
    have h2 := tot_last (partsOf 47 f.data.toList)
    omega

/-! ### How many -/
theorem splitL_len' : ∀ (f : Nat) (p : Nat × Nat) (r : List UInt8) (l : List TokV), splitL f p r = .ok l → l.length ≤ f
  | 0, p, r, l, h => by simp [splitL] at h; rw [h]; simp
  | f + 1, p, [], l, h => by simp [splitL] at h; rw [h]; simp
  | f + 1, p, c :: t, l, h => by
    rw [splitL] at h
    cases hs : skipL (c :: t) with
    | none => rw [hs] at h; cases h
    | some n =>
      rw [hs] at h
      dsimp only at h
      split at h
      · exact Nat.le_succ_of_le (splitL_len' f _ _ _ h)
      · cases ho : oneL (c :: t) with
        | none => rw [ho] at h; cases h
        | some v =>
          rw [ho] at h
          dsimp only at h
          cases hr : splitL f (posFrom p ((c :: t).take v.2.2)) ((c :: t).drop v.2.2) with
          | error e => rw [hr] at h; cases h
          | ok m =>
            rw [hr] at h
            have hl : ⟨v.1, v.2.1, p⟩ :: m = l := Except.ok.inj h
            rw [← hl, List.length_cons]
            have := splitL_len' f _ _ _ hr
            omega
theorem split_most {s : List UInt8} {l : List TokV} (h : splitOf s = .ok l) : l.length ≤ 20000 := by
  unfold splitOf at h
  split at h
  · cases h
  · rename_i hs
    cases hr : splitL s.length (1, 1) s with
    | error e => rw [hr] at h; cases h
    | ok m =>
      rw [hr] at h
      have := Except.ok.inj h
      subst this
      have := splitL_len' _ _ _ _ hr
      omega

theorem toks_plain (fs : List FileV) (rec : Nat → List Nat → Nat → WeaveR) (path : List UInt8) (file : Nat) (opened : List Nat) (t : TokV) (r : List TokV) (acc : List FTok) (n : Nat) (h : isInc t = false) :
    weaveToks fs rec path file opened (t :: r) acc n = weaveToks fs rec path file opened r (acc ++ [((file : Int), t)]) n := by
  cases r <;> simp [weaveToks, h]
theorem toks_end (fs : List FileV) (rec : Nat → List Nat → Nat → WeaveR) (path : List UInt8) (file : Nat) (opened : List Nat) (t : TokV) (acc : List FTok) (n : Nat) (h : isInc t = true) :
    weaveToks fs rec path file opened [t] acc n = (.error (3, file, t.place), n) := by
  simp [weaveToks, h]
/-- What an include is, its string behind it. -/
def incStep (fs : List FileV) (rec : Nat → List Nat → Nat → WeaveR) (path : List UInt8) (file : Nat) (opened : List Nat) (t u : TokV) (n : Nat) : WeaveR :=
  if u.kind ≠ 4 then (.error (3, file, t.place), n)
  else if (joinPath path u.text).2 = false ∨ (fileOf fs (joinPath path u.text).1).2 = false then (.error (4, file, t.place), n)
  else if opened.contains (fileOf fs (joinPath path u.text).1).1.toNat then (.error (5, file, t.place), n)
  else if 8 ≤ opened.length then (.error (6, file, t.place), n)
  else if 1000 ≤ n then (.error (9, file, t.place), n)
  else rec (fileOf fs (joinPath path u.text).1).1.toNat (opened ++ [(fileOf fs (joinPath path u.text).1).1.toNat]) (n + 1)
/-- What comes behind an include. -/
def afterInc (k : List FTok → Nat → WeaveR) : WeaveR → WeaveR
  | (.error e, n') => (.error e, n')
  | (.ok x, n') => k x n'
theorem toks_inc (fs : List FileV) (rec : Nat → List Nat → Nat → WeaveR) (path : List UInt8) (file : Nat) (opened : List Nat) (t u : TokV) (r : List TokV) (acc : List FTok) (n : Nat) (h : isInc t = true) :
    weaveToks fs rec path file opened (t :: u :: r) acc n = afterInc (fun x n' => weaveToks fs rec path file opened r (acc ++ x) n') (incStep fs rec path file opened t u n) := by
  rw [weaveToks, if_neg (by simp [h])]
  unfold incStep
  split
  · rfl
  split
  · rfl
  split
  · rfl
  split
  · rfl
  split
  · rfl
  rcases rec (fileOf fs (joinPath path u.text).1).1.toNat (opened ++ [(fileOf fs (joinPath path u.text).1).1.toNat]) (n + 1) with ⟨a | a, n'⟩ <;> rfl

theorem tok_text {r : List UInt8} {v : Int × List UInt8 × Nat} (h : oneL r = some v) : v.2.1.length ≤ r.length := by
  cases r with
  | nil => simp [oneL] at h
  | cons c t =>
    rw [oneL] at h
    split at h
    · rw [← Option.some.inj h]; exact List.length_take_le' _ _
    split at h
    · obtain ⟨x, _, hx⟩ := Option.map_eq_some_iff.1 h
      rw [← hx]
      exact List.length_take_le' _ _
    split at h
    · split at h
      · rw [← Option.some.inj h]
        have := List.length_take_le' (runLen (fun x => !(x == 34) && !(x == 10)) t) t
        simp only [List.length_cons]
        omega
      · cases h
    split at h
    · split at h
      · rename_i hb
        have := begins_len (Bool.and_eq_true_iff.1 hb).1
        rw [← Option.some.inj h]
        exact this
      · split at h
        · rename_i hb
          have := begins_len (Bool.and_eq_true_iff.1 hb).1
          rw [← Option.some.inj h]
          exact this
        · cases h
    split at h
    · cases h
    · rw [← Option.some.inj h]; exact List.length_take_le' _ _
theorem splitL_text : ∀ (f : Nat) (p : Nat × Nat) (r : List UInt8) (l : List TokV), splitL f p r = .ok l → ∀ u ∈ l, u.text.length ≤ r.length
  | 0, p, r, l, h, u, hu => by simp [splitL] at h; rw [h] at hu; cases hu
  | f + 1, p, [], l, h, u, hu => by simp [splitL] at h; rw [h] at hu; cases hu
  | f + 1, p, c :: t, l, h, u, hu => by
    rw [splitL] at h
    cases hs : skipL (c :: t) with
    | none => rw [hs] at h; cases h
    | some n =>
      rw [hs] at h
      dsimp only at h
      split at h
      · have := splitL_text f _ _ _ h u hu
        rw [List.length_drop] at this
        omega
      · cases ho : oneL (c :: t) with
        | none => rw [ho] at h; cases h
        | some v =>
          rw [ho] at h
          dsimp only at h
          cases hr : splitL f (posFrom p ((c :: t).take v.2.2)) ((c :: t).drop v.2.2) with
          | error e => rw [hr] at h; cases h
          | ok m =>
            rw [hr] at h
            have hl : ⟨v.1, v.2.1, p⟩ :: m = l := Except.ok.inj h
            rw [← hl] at hu
            rcases List.mem_cons.1 hu with rfl | hu
            · exact tok_text ho
            · have := splitL_text f _ _ _ hr u hu
              rw [List.length_drop] at this
              omega
theorem split_text {s : List UInt8} {l : List TokV} (h : splitOf s = .ok l) : ∀ u ∈ l, u.text.length ≤ s.length := by
  unfold splitOf at h
  split at h
  · cases h
  · cases hr : splitL s.length (1, 1) s with
    | error e => rw [hr] at h; cases h
    | ok m =>
      rw [hr] at h
      have := Except.ok.inj h
      subst this
      exact splitL_text _ _ _ _ hr

/-- What a reading of an included file keeps to. -/
def RecOk (rec : Nat → List Nat → Nat → WeaveR) : Prop := ∀ f o n, n ≤ (rec f o n).2 ∧ (∀ x, (rec f o n).1 = .ok x → x.length ≤ 20000 * ((rec f o n).2 - n + 1)) ∧ ((rec f o n).2 ≤ 1000 ∨ (rec f o n).2 = n)

theorem toks_ok (fs : List FileV) (rec : Nat → List Nat → Nat → WeaveR) (hr : RecOk rec) (path : List UInt8) (file : Nat) (opened : List Nat) : ∀ (k : Nat) (t : List TokV), t.length ≤ k → ∀ (acc : List FTok) (n : Nat),
    n ≤ (weaveToks fs rec path file opened t acc n).2 ∧ (∀ x, (weaveToks fs rec path file opened t acc n).1 = .ok x → x.length ≤ acc.length + t.length + 20000 * ((weaveToks fs rec path file opened t acc n).2 - n)) ∧ ((weaveToks fs rec path file opened t acc n).2 ≤ 1000 ∨ (weaveToks fs rec path file opened t acc n).2 = n)
  | 0, t, hk, acc, n => by
    obtain rfl := List.eq_nil_of_length_eq_zero (Nat.le_zero.1 hk)
    rw [weaveToks]
    exact ⟨Nat.le_refl _, fun x hx => (by rw [← Except.ok.inj hx]; simp), .inr rfl⟩
  | k + 1, [], hk, acc, n => by
    rw [weaveToks]
    exact ⟨Nat.le_refl _, fun x hx => (by rw [← Except.ok.inj hx]; simp), .inr rfl⟩
  | k + 1, t :: r, hk, acc, n => by
    simp only [List.length_cons] at hk
    cases hi : isInc t
    · rw [toks_plain _ _ _ _ _ _ _ _ _ hi]
      have ih := toks_ok fs rec hr path file opened k r (by omega) (acc ++ [((file : Int), t)]) n
      refine ⟨ih.1, fun x hx => ?_, ih.2.2⟩
      have := ih.2.1 x hx
      simp only [List.length_append, List.length_cons, List.length_nil] at this ⊢
      omega
    · cases r with
      | nil =>
        rw [toks_end _ _ _ _ _ _ _ _ hi]
        exact ⟨Nat.le_refl _, fun x hx => (by cases hx), .inr rfl⟩
      | cons u r' =>
        rw [toks_inc _ _ _ _ _ _ _ _ _ _ hi]
        have h1 : n ≤ (incStep fs rec path file opened t u n).2 ∧ (∀ x, (incStep fs rec path file opened t u n).1 = .ok x → x.length ≤ 20000 * ((incStep fs rec path file opened t u n).2 - n)) ∧ ((incStep fs rec path file opened t u n).2 ≤ 1000 ∨ (incStep fs rec path file opened t u n).2 = n) := by
          unfold incStep
          split
          · exact ⟨Nat.le_refl _, fun x hx => (by cases hx), .inr rfl⟩
          split
          · exact ⟨Nat.le_refl _, fun x hx => (by cases hx), .inr rfl⟩
          split
          · exact ⟨Nat.le_refl _, fun x hx => (by cases hx), .inr rfl⟩
          split
          · exact ⟨Nat.le_refl _, fun x hx => (by cases hx), .inr rfl⟩
          split
          · exact ⟨Nat.le_refl _, fun x hx => (by cases hx), .inr rfl⟩
          have h2 := hr (fileOf fs (joinPath path u.text).1).1.toNat (opened ++ [(fileOf fs (joinPath path u.text).1).1.toNat]) (n + 1)
          refine ⟨by omega, fun x hx => ?_, by omega⟩
          have := h2.2.1 x hx
          rw [show (rec (fileOf fs (joinPath path u.text).1).1.toNat (opened ++ [(fileOf fs (joinPath path u.text).1).1.toNat]) (n + 1)).2 - n = (rec (fileOf fs (joinPath path u.text).1).1.toNat (opened ++ [(fileOf fs (joinPath path u.text).1).1.toNat]) (n + 1)).2 - (n + 1) + 1 from by omega]
          exact this
        rcases hc : incStep fs rec path file opened t u n with ⟨a, n'⟩
        rw [hc] at h1
        dsimp only at h1
        cases a with
        | error e => exact ⟨h1.1, fun x hx => (by cases hx), h1.2.2⟩
        | ok x =>
          dsimp only [afterInc]
          have ih := toks_ok fs rec hr path file opened k r' (by simp only [List.length_cons] at hk; omega) (acc ++ x) n'
          have h2 := h1.2.1 x rfl
          refine ⟨by omega, fun y hy => ?_, by omega⟩
          have := ih.2.1 y hy
          simp only [List.length_append, List.length_cons] at this ⊢
          omega

theorem file_ok (fs : List FileV) (rec : Nat → List Nat → Nat → WeaveR) (hr : RecOk rec) : RecOk (weaveFile fs rec) := by
  intro f o n
  unfold weaveFile
  cases fs[f]? with
  | none => exact ⟨Nat.le_refl _, fun x hx => (by rw [← Except.ok.inj hx]; simp), .inr rfl⟩
  | some v =>
    dsimp only
    cases hs : splitOf v.2.data.toList with
    | error e => exact ⟨Nat.le_refl _, fun x hx => (by cases hx), .inr rfl⟩
    | ok t =>
      dsimp only
      have h := toks_ok fs rec hr v.1.data.toList f o t.length t (Nat.le_refl _) [] n
      refine ⟨h.1, fun x hx => ?_, h.2.2⟩
      have := h.2.1 x hx
      have hm := split_most hs
      simp only [List.length_nil] at this
      omega

theorem weave_ok (fs : List FileV) : ∀ d, RecOk (weaveL fs d)
  | 0 => file_ok fs _ fun _ _ n => ⟨Nat.le_refl _, fun x hx => (by rw [← Except.ok.inj hx]; simp), .inr rfl⟩
  | d + 1 => file_ok fs _ (weave_ok fs d)

theorem fileFrom_lt (p : List UInt8) : ∀ (l : List FileV) (k : Nat), (fileFrom p k l).2 = true → 0 ≤ (fileFrom p k l).1 ∧ (fileFrom p k l).1.toNat < k + l.length
  | [], k, h => by simp [fileFrom] at h
  | f :: r, k, h => by
    rw [fileFrom] at h ⊢
    split at h
    · rename_i hf
      rw [if_pos hf]
      simp
    · rename_i hf
      rw [if_neg hf]
      have := fileFrom_lt p r (k + 1) h
      simp only [List.length_cons]
      omega
theorem fileOf_lt {l : List FileV} {s : List UInt8} (h : (fileOf l s).2 = true) : 0 ≤ (fileOf l s).1 ∧ (fileOf l s).1.toNat < l.length := by
  unfold fileOf at h ⊢
  split at h
  · rename_i hc
    rw [if_pos hc]
    have := fileFrom_lt (cleanPath s).1 l 0 h
    simpa using this
  · cases h

end Go.Proofs.YtdjhpgpekomjeaaDoor
