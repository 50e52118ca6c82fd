/- A path that is clean stays so; behind itself, and back, leads to the first: plain facts. -/
import Derived.Test.YtdjhpgpekomjeaaDoorPart4
namespace Go.Proofs.YtdjhpgpekomjeaaDoor
open Go.RowKit

def Good (p : List UInt8) : Prop := p ≠ [] ∧ p ≠ [46] ∧ p ≠ [46, 46] ∧ (47 : UInt8) ∉ p

theorem split_append (c : UInt8) : ∀ (s cur t : List UInt8), splitAcc c cur (s ++ c :: t) = splitAcc c cur s ++ splitAcc c [] t
  | [], cur, t => by simp [splitAcc]
  | x :: s, cur, t => by
    rw [List.cons_append, splitAcc, splitAcc]
    split
    · rw [split_append c s [] t]; rfl
    · rw [split_append c s (cur ++ [x]) t]
theorem parts_append (c : UInt8) (s t : List UInt8) : partsOf c (s ++ c :: t) = partsOf c s ++ partsOf c t := split_append c s [] t

theorem split_none (c : UInt8) : ∀ (s cur : List UInt8), c ∉ s → splitAcc c cur s = [cur ++ s]
  | [], cur, _ => by simp [splitAcc]
  | x :: s, cur, h => by
    have h1 : ¬ x = c := fun e => h (by rw [e]; exact List.mem_cons_self ..)
    rw [splitAcc, if_neg h1, split_none c s _ (fun hm => h (List.mem_cons_of_mem _ hm)), List.append_assoc]
    rfl
theorem parts_one (c : UInt8) (s : List UInt8) (h : c ∉ s) : partsOf c s = [s] := split_none c s [] h

theorem split_clean (c : UInt8) : ∀ (s cur : List UInt8), c ∉ cur → ∀ p ∈ splitAcc c cur s, c ∉ p
  | [], cur, h, p, hp => by
    simp [splitAcc] at hp
    rw [hp]
    exact h
  | x :: s, cur, h, p, hp => by
    rw [splitAcc] at hp
    split at hp
    · rcases List.mem_cons.1 hp with e | hm
      · rw [e]; exact h
      · exact split_clean c s [] (by simp) p hm
    · rename_i hx
      exact split_clean c s _ (by
        intro hm
        rcases List.mem_append.1 hm with h1 | h1
        · exact h h1
        · exact hx (List.mem_singleton.1 h1).symm) p hp
theorem parts_clean (c : UInt8) (s : List UInt8) : ∀ p ∈ partsOf c s, c ∉ p := split_clean c s [] (by simp)

theorem split_count (c : UInt8) : ∀ (s cur : List UInt8), (splitAcc c cur s).length = s.count c + 1
  | [], cur => by simp [splitAcc]
  | x :: s, cur => by
    rw [splitAcc]
    split
    · rename_i h
      rw [List.length_cons, split_count c s [], h, List.count_cons_self]
    · rename_i h
      rw [split_count c s _, List.count_cons_of_ne h]

theorem parts_join : ∀ l : List (List UInt8), l ≠ [] → (∀ p ∈ l, (47 : UInt8) ∉ p) → partsOf 47 (joinOf l) = l
  | [], h, _ => absurd rfl h
  | [x], _, hp => by
    rw [joinOf, List.flatMap_nil, List.append_nil]
    exact parts_one 47 x (hp x (List.mem_cons_self ..))
  | x :: y :: r, _, hp => by
    have e : joinOf (x :: y :: r) = x ++ 47 :: joinOf (y :: r) := by simp [joinOf]
    rw [e, parts_append, parts_one 47 x (hp x (List.mem_cons_self ..)), parts_join (y :: r) (by simp) (fun p h => hp p (List.mem_cons_of_mem _ h))]
    rfl

theorem from_append : ∀ (ps qs L : List (List UInt8)), cleanFrom L (ps ++ qs) = match cleanFrom L ps with
    | none => none
    | some m => cleanFrom m qs
  | [], qs, L => rfl
  | p :: ps, qs, L => by
    rw [List.cons_append, cleanFrom, cleanFrom]
    cases cleanStep L p with
    | none => rfl
    | some m => exact from_append ps qs m

theorem step_good {L : List (List UInt8)} {p : List UInt8} (h : Good p) : cleanStep L p = some (L ++ [p]) := by
  obtain ⟨h1, h2, h3, _⟩ := h
  rw [cleanStep, if_neg (by rintro (e | e); exact h1 e; exact h2 e), if_neg h3]

theorem from_good : ∀ (ps L : List (List UInt8)), (∀ p ∈ ps, Good p) → cleanFrom L ps = some (L ++ ps)
  | [], L, _ => by simp [cleanFrom]
  | p :: ps, L, h => by
    rw [cleanFrom, step_good (h p (List.mem_cons_self ..))]
    show cleanFrom (L ++ [p]) ps = _
    rw [from_good ps _ (fun q hq => h q (List.mem_cons_of_mem _ hq))]
    simp

theorem good_from : ∀ (ps L M : List (List UInt8)), (∀ p ∈ ps, (47 : UInt8) ∉ p) → (∀ p ∈ L, Good p) → cleanFrom L ps = some M → ∀ p ∈ M, Good p
  | [], L, M, _, hL, h => by
    rw [cleanFrom] at h
    rw [← Option.some.inj h]
    exact hL
  | q :: ps, L, M, hp, hL, h => by
    rw [cleanFrom] at h
    cases hs : cleanStep L q with
    | none => rw [hs] at h; cases h
    | some m =>
      rw [hs] at h
      refine good_from ps m M (fun p hm => hp p (List.mem_cons_of_mem _ hm)) ?_ h
      unfold cleanStep at hs
      split at hs
      · rw [← Option.some.inj hs]; exact hL
      split at hs
      · split at hs
        · cases hs
        · rw [← Option.some.inj hs]
          exact fun p hm => hL p ((List.dropLast_sublist L).subset hm)
      · rename_i h1 h2
        rw [← Option.some.inj hs]
        intro p hm
        rcases List.mem_append.1 hm with h3 | h3
        · exact hL p h3
        · rw [List.mem_singleton.1 h3]
          exact ⟨fun e => h1 (.inl e), fun e => h1 (.inr e), h2, hp q (List.mem_cons_self ..)⟩

theorem from_ups : ∀ (M L : List (List UInt8)), cleanFrom (L ++ M) (List.replicate M.length [46, 46]) = some L := by
  intro M
  rw [← List.reverse_reverse M]
  generalize M.reverse = r
  induction r with
  | nil => intro L; simp [cleanFrom]
  | cons x r ih =>
    intro L
    rw [List.reverse_cons, List.length_append, List.length_cons, List.length_nil, Nat.zero_add, List.replicate_succ, cleanFrom]
    have : cleanStep (L ++ (r.reverse ++ [x])) [46, 46] = some (L ++ r.reverse) := by
      rw [cleanStep, if_neg (by decide), if_pos rfl, if_neg (by simp), ← List.append_assoc, List.dropLast_concat]
    rw [this]
    exact ih L

def ups : Nat → List UInt8
  | 0 => []
  | k + 1 => 47 :: 46 :: 46 :: ups k
theorem ups_len : ∀ k, (ups k).length = 3 * k
  | 0 => rfl
  | k + 1 => by rw [ups, List.length_cons, List.length_cons, List.length_cons, ups_len k]; omega
theorem ups_snoc : ∀ k, ups (k + 1) = ups k ++ [47, 46, 46]
  | 0 => rfl
  | k + 1 => by
    show 47 :: 46 :: 46 :: ups (k + 1) = (47 :: 46 :: 46 :: ups k) ++ [47, 46, 46]
    rw [ups_snoc k]
    rfl
theorem parts_ups : ∀ (k : Nat) (s : List UInt8), partsOf 47 (s ++ ups k) = partsOf 47 s ++ List.replicate k [46, 46]
  | 0, s => by simp [ups]
  | k + 1, s => by
    rw [ups, parts_append, show (46 : UInt8) :: 46 :: ups k = [46, 46] ++ ups k from rfl, parts_ups k, parts_one 47 [46, 46] (by decide), List.replicate_succ]
    rfl

/-- A clean path is its good parts, joined. -/
theorem clean_form {s x : List UInt8} (h : cleanPath s = (x, true)) : ∃ L : List (List UInt8), L ≠ [] ∧ (∀ p ∈ L, Good p) ∧ x = joinOf L := by
  unfold cleanPath cleanOf at h
  cases hc : cleanFrom [] (partsOf 47 s) with
  | none => rw [hc] at h; simp [cleanEnd] at h
  | some L =>
    rw [hc] at h
    cases L with
    | nil => simp [cleanEnd] at h
    | cons p L =>
      simp only [cleanEnd, Prod.mk.injEq, and_true] at h
      exact ⟨p :: L, by simp, good_from _ _ _ (parts_clean 47 s) (by simp) hc, h.symm⟩

theorem end_some {L : List (List UInt8)} (h : L ≠ []) : cleanEnd (some L) = (joinOf L, true) := by
  cases L with
  | nil => exact absurd rfl h
  | cons x L => rfl

theorem clean_again {s x : List UInt8} (h : cleanPath s = (x, true)) : cleanPath x = (x, true) := by
  obtain ⟨L, h0, hg, rfl⟩ := clean_form h
  unfold cleanPath cleanOf
  rw [parts_join L h0 (fun p hp => (hg p hp).2.2.2), from_good L [] hg]
  exact end_some h0

/-- x/y, and so many up. -/
theorem clean_back {s t x y : List UInt8} (hx : cleanPath s = (x, true)) (hy : cleanPath t = (y, true)) : cleanPath (x ++ 47 :: (y ++ ups (y.count 47 + 1))) = (x, true) := by
  obtain ⟨L, h0, hg, rfl⟩ := clean_form hx
  obtain ⟨M, m0, mg, rfl⟩ := clean_form hy
  have hM := parts_join M m0 (fun p hp => (mg p hp).2.2.2)
  have hlen : (joinOf M).count 47 + 1 = M.length := by
    rw [← split_count 47 (joinOf M) []]
    exact congrArg List.length hM
  unfold cleanPath cleanOf
  rw [hlen, parts_append, parts_ups, hM, parts_join L h0 (fun p hp => (hg p hp).2.2.2), from_append, from_good L [] hg]
  show cleanEnd (cleanFrom ([] ++ L) (M ++ List.replicate M.length [46, 46])) = _
  rw [List.nil_append, from_append, from_good M L mg]
  show cleanEnd (cleanFrom (L ++ M) (List.replicate M.length [46, 46])) = _
  rw [from_ups M L]
  exact end_some h0

/-- How far up, by what has been read of y. -/
def upTo (y : List UInt8) : Nat := match y with
  | [] => 0
  | _ :: r => r.count 47 + 1
theorem upTo_snoc (y : List UInt8) (c : UInt8) : upTo (y ++ [c]) = upTo y + (if y = [] ∨ c = 47 then 1 else 0) := by
  cases y with
  | nil => simp [upTo]
  | cons a y =>
    by_cases h : c = 47
    · simp [upTo, h]
    · simp [upTo, h, List.count_cons_of_ne h]
theorem upTo_all {t y : List UInt8} (hy : cleanPath t = (y, true)) : upTo y = y.count 47 + 1 := by
  obtain ⟨M, m0, mg, rfl⟩ := clean_form hy
  cases M with
  | nil => exact absurd rfl m0
  | cons p M =>
    obtain ⟨h1, _, _, h4⟩ := mg p (List.mem_cons_self ..)
    cases p with
    | nil => exact absurd rfl h1
    | cons a p =>
      have ha : ¬ a = 47 := fun e => h4 (by rw [e]; exact List.mem_cons_self ..)
      rw [joinOf, List.cons_append, upTo, List.count_cons_of_ne ha]
theorem join_root (f b : List UInt8) : joinPath f (47 :: b) = cleanPath b := by
  unfold joinPath
  rw [if_pos (show (47 :: b).head? = some 47 from rfl)]
  unfold cleanPath
  rw [show (47 : UInt8) :: b = [] ++ 47 :: b from rfl, parts_append]
  rfl
theorem clean_len {s x : List UInt8} {b : Bool} (h : cleanPath s = (x, b)) : x.length ≤ s.length + 1 := by
  unfold cleanPath cleanOf at h
  have key : ∀ (ps L M : List (List UInt8)), cleanFrom L ps = some M → tot M ≤ tot L + tot ps := by
    intro ps
    induction ps with
    | nil =>
      intro L M hc
      rw [cleanFrom] at hc
      rw [← Option.some.inj hc]
      exact Nat.le_add_right _ _
    | cons p ps ih =>
      intro L M hc
      rw [cleanFrom] at hc
      cases hs : cleanStep L p with
      | none => rw [hs] at hc; cases hc
      | some m =>
        rw [hs] at hc
        have h1 := ih m M hc
        have h2 : tot m ≤ tot L + (p.length + 1) := by
          unfold cleanStep at hs
          split at hs
          · rw [← Option.some.inj hs]; omega
          split at hs
          · split at hs
            · cases hs
            · rw [← Option.some.inj hs]
              have := tot_last L
              omega
          · rw [← Option.some.inj hs, tot_snoc]
            omega
        rw [tot_cons]
        omega
  have hp := split_tot 47 s []
  simp only [List.length_nil, Nat.zero_add] at hp
  cases hc : cleanFrom [] (partsOf 47 s) with
  | none =>
    rw [hc] at h
    simp only [cleanEnd, Prod.mk.injEq] at h
    rw [← h.1]
    simp
  | some M =>
    rw [hc] at h
    have h1 := key _ _ _ hc
    rw [tot_nil] at h1
    have h3 : tot (partsOf 47 s) ≤ s.length + 1 := hp
    cases M with
    | nil =>
      simp only [cleanEnd, Prod.mk.injEq] at h
      rw [← h.1]
      simp
    | cons a M =>
      simp only [cleanEnd, Prod.mk.injEq] at h
      rw [← h.1]
      have h2 := join_len (a :: M)
      omega

theorem clean_bad {s x : List UInt8} (h : cleanPath s = (x, false)) : x = [] := by
  unfold cleanPath cleanOf at h
  cases hc : cleanFrom [] (partsOf 47 s) with
  | none => rw [hc] at h; simp only [cleanEnd, Prod.mk.injEq] at h; exact h.1.symm
  | some M =>
    rw [hc] at h
    cases M with
    | nil => simp only [cleanEnd, Prod.mk.injEq] at h; exact h.1.symm
    | cons a M => simp [cleanEnd] at h

end Go.Proofs.YtdjhpgpekomjeaaDoor
