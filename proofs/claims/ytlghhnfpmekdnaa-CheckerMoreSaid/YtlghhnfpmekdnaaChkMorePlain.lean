/- A filter that is let in, with more behind it, and a beginning of it: plain facts. -/
import Derived.Test.YtlghhnfpmekdnaaChkSafe
namespace Go.Proofs.Ytlghhnfpmekdnaa
open Go.RowKit

theorem refused_mono (x : Ins) (a b : Int) (h : refusedB x a = false) (ha : 0 ≤ a) (hab : a ≤ b) : refusedB x b = false := by
  unfold refusedB at h ⊢
  split at h
  · cases h
  rename_i h0
  rw [if_neg h0]
  split at h
  · rename_i h1
    rw [if_pos h1]
    simp only [Bool.or_eq_false_iff, beq_eq_false_iff_ne] at h ⊢
    exact ⟨h.1, by omega⟩
  rename_i h1
  rw [if_neg h1]
  split at h
  · rename_i h2
    rw [if_pos h2]
    simp only [Bool.or_eq_false_iff, beq_eq_false_iff_ne] at h ⊢
    exact ⟨h.1, by omega⟩
  rename_i h2
  rw [if_neg h2]
  split at h
  · rename_i h3
    rw [if_pos h3]
    simp only [Bool.or_eq_false_iff, beq_eq_false_iff_ne] at h ⊢
    exact ⟨h.1, by omega⟩
  rename_i h3
  rw [if_neg h3]
  split at h
  · rename_i h4
    rw [if_pos h4]
    simp only [Bool.or_eq_false_iff, beq_eq_false_iff_ne] at h ⊢
    exact ⟨h.1, by omega⟩
  rename_i h4
  rw [if_neg h4]
  split at h
  · rename_i h5
    rw [if_pos h5]
    simp only [decide_eq_false_iff_not] at h ⊢
    omega
  rename_i h5
  rw [if_neg h5]
  split at h
  · rename_i h6
    rw [if_pos h6]
    simp only [Bool.or_eq_false_iff, decide_eq_false_iff_not] at h ⊢
    omega
  rename_i h6
  rw [if_neg h6]
  split at h
  · rename_i h7
    rw [if_pos h7]
  rename_i h7
  rw [if_neg h7]
  simp only [beq_eq_false_iff_ne] at h ⊢
  omega

/-- Two rows that are one up to N. -/
def Alike (N : Nat) (o p : List Int) : Prop := N ≤ o.length ∧ N ≤ p.length ∧ ∀ j, j < N → o.getD j 0 = p.getD j 0

theorem getD_set (o : List Int) (i j : Nat) (v : Int) (hi : i < o.length) : (o.set i v).getD j 0 = if i = j then v else o.getD j 0 := by
  simp only [List.getD, List.getElem?_set]
  split
  · rfl
  · rfl

theorem getD_set_ne (o : List Int) (i j : Nat) (v : Int) (h : i ≠ j) : (o.set i v).getD j 0 = o.getD j 0 := by
  simp [List.getD, h]

theorem Alike.put {N : Nat} {o p : List Int} (h : Alike N o p) (j : Nat) {a b : Int} (hab : a = b) : Alike N (putAnd o j a) (putAnd p j b) := by
  obtain ⟨h1, h2, h3⟩ := h
  subst hab
  refine ⟨by rw [putAnd_len]; exact h1, by rw [putAnd_len]; exact h2, fun i hi => ?_⟩
  unfold putAnd
  by_cases e : j = i
  · subst e
    rw [getD_set _ _ _ _ (by omega), getD_set _ _ _ _ (by omega), if_pos rfl, if_pos rfl, h3 j hi]
  · rw [getD_set_ne _ _ _ _ e, getD_set_ne _ _ _ _ e, h3 i hi]

theorem Alike.spread {N : Nat} {o p : List Int} (h : Alike N o p) (x : Ins) (i : Nat) (hi : i < N) : Alike N (spread x i o) (spread x i p) := by
  have he := h.2.2 i hi
  unfold Go.Proofs.Ytlghhnfpmekdnaa.spread
  split
  · exact h
  split
  · exact h.put _ he
  split
  · exact (h.put _ he).put _ he
  · rw [he]
    exact h.put _ rfl

theorem Alike.masks {N : Nat} {o p : List Int} (l : List Ins) (h : Alike N o p) : ∀ k, k ≤ N → Alike N (masks l o k) (masks l p k)
  | 0, _ => h
  | k + 1, hk => by
    have ih := Alike.masks l h k (by omega)
    unfold Go.Proofs.Ytlghhnfpmekdnaa.masks
    split
    · exact ih
    · exact ih.spread _ _ (by omega)

theorem masks_append (l t : List Ins) (o : List Int) : ∀ k, k ≤ l.length → masks (l ++ t) o k = masks l o k
  | 0, _ => rfl
  | k + 1, hk => by
    unfold Go.Proofs.Ytlghhnfpmekdnaa.masks
    rw [masks_append l t o k (by omega), List.getElem?_append_left (by omega)]

theorem start_at (N j : Nat) (h : j < N) : (startMask N).getD j 0 = if j = 0 then 0 else 65535 := by
  unfold startMask
  rw [getD_set _ _ _ _ (by simp; omega)]
  by_cases e : j = 0
  · rw [if_pos e.symm, if_pos e]
  · rw [if_neg (fun h => e h.symm), if_neg e]
    simp [List.getD, h]

def moreL (l : List Ins) (k : Int) : List Ins := l ++ [⟨132, 0, 0, 0⟩, ⟨6, 0, 0, k⟩]

theorem more_in (l : List Ins) (k : Int) (h : (checkOf l).2 = true) (hn : l.length ≤ 200) : checkOf (moreL l k) = (-1, true) := by
  obtain ⟨h1, _, hr, hb, hm⟩ := let_in l h
  have hlen : (moreL l k).length = l.length + 2 := by simp [moreL]
  have hr' : ∀ i, i < (moreL l k).length → refusedAt (moreL l k) i = false := by
    intro i hi
    rw [hlen] at hi
    by_cases h2 : i < l.length
    · obtain ⟨x, hx⟩ : ∃ x, l[i]? = some x := ⟨_, List.getElem?_eq_getElem h2⟩
      have h3 := hr i h2
      have hx' : (moreL l k)[i]? = some x := by unfold moreL; rw [List.getElem?_append_left h2, hx]
      unfold refusedAt at h3 ⊢
      rw [hx] at h3
      rw [hx', hlen]
      exact refused_mono x _ _ h3 (by omega) (by omega)
    · by_cases h3 : i = l.length
      · subst h3
        have hx' : (moreL l k)[l.length]? = some ⟨132, 0, 0, 0⟩ := by unfold moreL; rw [List.getElem?_append_right (Nat.le_refl _), Nat.sub_self]; rfl
        unfold refusedAt
        rw [hx', hlen, show l.length + 2 - 1 - l.length = 1 from by omega]
        decide +kernel
      · obtain rfl : i = l.length + 1 := by omega
        have hx' : (moreL l k)[l.length + 1]? = some ⟨6, 0, 0, k⟩ := by unfold moreL; rw [List.getElem?_append_right (by omega), Nat.add_sub_cancel_left]; rfl
        unfold refusedAt
        rw [hx', hlen, show l.length + 2 - 1 - (l.length + 1) = 0 from by omega]
        have h6 : isCode 6 = true := by decide +kernel
        have hj : isJump 6 = false := rfl
        simp [refusedB, h6, hj]
  have hm' : mostOf (moreL l k) = (moreL l k).length := most_all _ hr'
  have ho : outOf l = masks l (startMask (l.length + 1)) l.length := by unfold outOf; rw [hm, List.take_length]
  have ho' : outOf (moreL l k) = masks (moreL l k) (startMask (l.length + 3)) (l.length + 2) := by unfold outOf; rw [hm', List.take_length, hlen]
  have hal : Alike (l.length + 1) (masks l (startMask (l.length + 3)) l.length) (masks l (startMask (l.length + 1)) l.length) :=
    Alike.masks l ⟨by rw [start_len]; omega, by rw [start_len]; exact Nat.le_refl _, fun j hj => by rw [start_at _ _ (by omega), start_at _ _ (by omega)]⟩ _ (by omega)
  have hb' : ∀ i, i < (moreL l k).length → badAt (moreL l k) (outOf (moreL l k)) i = false := by
    intro i hi
    rw [hlen] at hi
    by_cases h2 : i < l.length
    · obtain ⟨x, hx⟩ : ∃ x, l[i]? = some x := ⟨_, List.getElem?_eq_getElem h2⟩
      have h3 := hb i h2
      have hx' : (moreL l k)[i]? = some x := by unfold moreL; rw [List.getElem?_append_left h2, hx]
      unfold badAt at h3 ⊢
      rw [hx] at h3
      rw [hx']
      have e : (outOf (moreL l k)).getD i 0 = (outOf l).getD i 0 := by
        rw [ho', ho, ← hal.2.2 i (by omega)]
        rw [masks_step (moreL l k) _ (l.length + 1) ⟨6, 0, 0, k⟩ (by unfold moreL; rw [List.getElem?_append_right (by omega), Nat.add_sub_cancel_left]; rfl)]
        rw [masks_step (moreL l k) _ l.length ⟨132, 0, 0, 0⟩ (by unfold moreL; rw [List.getElem?_append_right (Nat.le_refl _), Nat.sub_self]; rfl)]
        rw [show masks (moreL l k) (startMask (l.length + 3)) l.length = masks l (startMask (l.length + 3)) l.length from masks_append l _ _ _ (Nat.le_refl _)]
        have s1 : ∀ o : List Int, spread ⟨6, 0, 0, k⟩ (l.length + 1) o = o := fun o => by unfold spread; rw [if_pos (.inl rfl)]
        have s2 : ∀ o : List Int, spread ⟨132, 0, 0, 0⟩ l.length o = putAnd o (l.length + 1) (o.getD l.length 0) := fun o => by
          have hj : isJump 132 = false := rfl
          simp [spread, hj]
        rw [s1, s2, putAnd, getD_set_ne _ _ _ _ (by omega)]
      show badLoad x ((outOf (moreL l k)).getD i 0) = false
      rw [e]
      exact h3
    · by_cases h3 : i = l.length
      · subst h3
        have hx' : (moreL l k)[l.length]? = some ⟨132, 0, 0, 0⟩ := by unfold moreL; rw [List.getElem?_append_right (Nat.le_refl _), Nat.sub_self]; rfl
        unfold badAt
        rw [hx']
        rfl
      · obtain rfl : i = l.length + 1 := by omega
        have hx' : (moreL l k)[l.length + 1]? = some ⟨6, 0, 0, k⟩ := by unfold moreL; rw [List.getElem?_append_right (by omega), Nat.add_sub_cancel_left]; rfl
        unfold badAt
        rw [hx']
        rfl
  unfold checkOf
  rw [if_neg (by rw [hlen]; omega), hm', find_range_none _ _ hb']
  simp

theorem cut_ends (l : List Ins) (hok : ∀ y ∈ l, y.Ok) (h : (checkOf l).2 = true) (x : Ins) (hx : l[l.length - 1]? = some x) : x.code = 6 ∨ x.code = 22 := by
  obtain ⟨h1, _, hr, _, _⟩ := let_in l h
  have hf := refused_fine l hok (l.length - 1) x hx (hr _ (by omega))
  by_cases hc : x.code = 6 ∨ x.code = 22
  · exact hc
  · exact absurd (hf.more hc) (by simp; omega)

end Go.Proofs.Ytlghhnfpmekdnaa
