/- The tokens of two texts, line by line: those of the first, then those of the second, further down. -/
import Derived.Test.YtgabeacpgmomhaaDoorTokApp
namespace Go.Proofs.YtgabeacpgmomhaaDoor
open Go.RowKit

theorem splitL_fuel : ∀ (f g : Nat) (p : Nat × Nat) (r : List UInt8), r.length ≤ f → r.length ≤ g → splitL f p r = splitL g p r
  | f, g, p, [], _, _ => by rw [split_nil, split_nil]
  | 0, g, p, c :: t, h, _ => by simp at h
  | f + 1, 0, p, c :: t, _, h => by simp at h
  | f + 1, g + 1, p, c :: t, hf, hg => by
    rw [List.length_cons] at hf hg
    cases hs : skipL (c :: t) with
    | none => rw [split_far (by simp) hs, split_far (by simp) hs]
    | some n =>
      by_cases hn : 0 < n
      · rw [split_skip (by simp) hs hn, split_skip (by simp) hs hn]
        exact splitL_fuel f g _ _ (by rw [List.length_drop, List.length_cons]; omega) (by rw [List.length_drop, List.length_cons]; omega)
      · obtain rfl : n = 0 := by omega
        cases ho : oneL (c :: t) with
        | none => rw [split_bad (by simp) hs ho, split_bad (by simp) hs ho]
        | some v =>
          have := one_len ho
          rw [split_tok (by simp) hs ho, split_tok (by simp) hs ho, splitL_fuel f g _ _ (by rw [List.length_drop, List.length_cons]; omega) (by rw [List.length_drop, List.length_cons]; omega)]

theorem pos_app (p : Nat × Nat) (u v : List UInt8) : posFrom p (u ++ v) = posFrom (posFrom p u) v := by
  unfold posFrom
  rw [List.foldl_append]

theorem splitL_join (t : List UInt8) : ∀ (f : Nat) (p : Nat × Nat) (r : List UInt8) (l : List TokV), r.length ≤ f → splitL f p r = .ok l → ∀ g, r.length + 1 + t.length ≤ g →
    splitL g p (r ++ 10 :: t) = (splitL g (posFrom p (r ++ [10])) t).map (l ++ ·)
  | f, p, [], l, _, h, g, hg => by
    rw [split_nil] at h
    have hl : [] = l := by injection h
    subst hl
    obtain ⟨g', rfl⟩ : ∃ g', g = g' + 1 := ⟨g - 1, by simp at hg; omega⟩
    rw [List.nil_append, split_skip (n := 1) (by simp) (skip_blank (by decide)) (by omega), List.nil_append]
    show splitL g' (posFrom p [10]) t = (splitL (g' + 1) (posFrom p [10]) t).map fun x => [] ++ x
    rw [splitL_fuel g' (g' + 1) _ t (by simp at hg; omega) (by simp at hg; omega)]
    cases splitL (g' + 1) (posFrom p [10]) t <;> rfl
  | 0, p, c :: u, l, hf, _, g, _ => by simp at hf
  | f + 1, p, c :: u, l, hf, h, g, hg => by
    obtain ⟨g', rfl⟩ : ∃ g', g = g' + 1 := ⟨g - 1, by simp at hg; omega⟩
    have hlen : (c :: u).length ≤ f + 1 := hf
    generalize hr : c :: u = r at *
    have hne : r ≠ [] := by rw [← hr]; simp
    have hne2 : r ++ 10 :: t ≠ [] := by simp
    cases hs : skipL r with
    | none => rw [split_far hne hs] at h; cases h
    | some n =>
      have hnl := skip_len hs
      have hs2 := skip_app t r n hne hs
      by_cases hn : 0 < n
      · rw [split_skip hne hs hn] at h
        have hd : (r.drop n).length = r.length - n := List.length_drop ..
        have ih := splitL_join t f _ _ l (by omega) h g' (by omega)
        rw [split_skip hne2 hs2 hn, take_app t r n hnl, drop_app t r n hnl, ih, ← pos_app, ← List.append_assoc, List.take_append_drop]
        rw [splitL_fuel g' (g' + 1) _ t (by omega) (by omega)]
      · obtain rfl : n = 0 := by omega
        cases ho : oneL r with
        | none => rw [split_bad hne hs ho] at h; cases h
        | some v =>
          have hol := one_len ho
          have ho2 := one_app t r v ho
          rw [split_tok hne hs ho] at h
          cases hm : splitL f (posFrom p (r.take v.2.2)) (r.drop v.2.2) with
          | error e => rw [hm] at h; cases h
          | ok m =>
            rw [hm] at h
            have hl : (⟨v.1, v.2.1, p⟩ : TokV) :: m = l := by injection h
            have hd : (r.drop v.2.2).length = r.length - v.2.2 := List.length_drop ..
            have ih := splitL_join t f _ _ m (by omega) hm g' (by omega)
            rw [split_tok hne2 hs2 ho2, take_app t r _ hol.2, drop_app t r _ hol.2, ih, ← pos_app, ← List.append_assoc, List.take_append_drop]
            rw [splitL_fuel g' (g' + 1) _ t (by omega) (by omega), ← hl]
            cases splitL (g' + 1) (posFrom p (r ++ [10])) t <;> rfl

/-- A token so many lines further down. -/
def shiftT (L : Nat) (t : TokV) : TokV := ⟨t.kind, t.text, (L + t.place.1, t.place.2)⟩
def shiftR (L : Nat) : Except (Nat × Nat) (List TokV) → Except (Nat × Nat) (List TokV)
  | .error e => .error (L + e.1, e.2)
  | .ok l => .ok (l.map (shiftT L))
theorem pos_shift (L : Nat) : ∀ (u : List UInt8) (p : Nat × Nat), posFrom (L + p.1, p.2) u = (L + (posFrom p u).1, (posFrom p u).2)
  | [], p => rfl
  | b :: u, p => by
    have e : ∀ q : Nat × Nat, posFrom q (b :: u) = posFrom (stepPos q b) u := fun q => rfl
    rw [e, e, ← pos_shift L u]
    congr 1
    unfold stepPos
    split <;> simp [Nat.add_assoc]
theorem splitL_shift (L : Nat) : ∀ (f : Nat) (p : Nat × Nat) (r : List UInt8), splitL f (L + p.1, p.2) r = shiftR L (splitL f p r)
  | f, p, [] => by
    rw [split_nil, split_nil]
    rfl
  | 0, p, c :: t => rfl
  | f + 1, p, c :: t => by
    cases hs : skipL (c :: t) with
    | none =>
      rw [split_far (by simp) hs, split_far (by simp) hs]
      rfl
    | some n =>
      by_cases hn : 0 < n
      · rw [split_skip (by simp) hs hn, split_skip (by simp) hs hn, pos_shift]
        exact splitL_shift L f _ _
      · obtain rfl : n = 0 := by omega
        cases ho : oneL (c :: t) with
        | none =>
          rw [split_bad (by simp) hs ho, split_bad (by simp) hs ho]
          rfl
        | some v =>
          rw [split_tok (by simp) hs ho, split_tok (by simp) hs ho, pos_shift, splitL_shift L f]
          cases splitL f (posFrom p ((c :: t).take v.2.2)) ((c :: t).drop v.2.2) <;> rfl

theorem splitOf_ok {s : List UInt8} {l : List TokV} (h : splitOf s = .ok l) : s.length ≤ 20000 ∧ splitL s.length (1, 1) s = .ok l := by
  unfold splitOf at h
  by_cases hl : 20000 < s.length
  · rw [if_pos hl] at h
    cases h
  · rw [if_neg hl] at h
    cases hs : splitL s.length (1, 1) s with
    | error e => rw [hs] at h; cases h
    | ok m =>
      rw [hs] at h
      have hm : m = l := by injection h
      exact ⟨by omega, by rw [hm]⟩

theorem splitOf_join {s t : List UInt8} {x y : List TokV} (hx : splitOf s = .ok x) (hy : splitOf t = .ok y) (hl : s.length + 1 + t.length ≤ 20000) :
    splitOf (s ++ 10 :: t) = .ok (x ++ y.map (shiftT (posFrom (1, 1) s).1)) := by
  obtain ⟨_, hx⟩ := splitOf_ok hx
  obtain ⟨_, hy⟩ := splitOf_ok hy
  have hlen : (s ++ 10 :: t).length = s.length + 1 + t.length := by simp; omega
  unfold splitOf
  rw [if_neg (by rw [hlen]; omega), hlen, splitL_join t s.length (1, 1) s x (Nat.le_refl _) hx _ (Nat.le_refl _), pos_app]
  have hp : posFrom (posFrom (1, 1) s) [10] = ((posFrom (1, 1) s).1 + 1, 1) := by
    show stepPos (posFrom (1, 1) s) 10 = _
    unfold stepPos
    rw [if_pos rfl]
  have hsh := splitL_shift (posFrom (1, 1) s).1 (s.length + 1 + t.length) (1, 1) t
  rw [hp]
  have e : ((posFrom (1, 1) s).1 + 1, 1) = ((posFrom (1, 1) s).1 + ((1, 1) : Nat × Nat).1, ((1, 1) : Nat × Nat).2) := rfl
  rw [e, hsh, splitL_fuel _ t.length (1, 1) t (by omega) (Nat.le_refl _), hy]
  rfl

end Go.Proofs.YtgabeacpgmomhaaDoor
