/- What is let in never faults; the walk of the statement CheckerSafe. -/
import Derived.Test.YtlghhnfpmekdnaaChkFace
import Derived.Test.YtlghhnfpmekdnaaRunLoop
namespace Go.Proofs.Ytlghhnfpmekdnaa
open Go.RowKit

theorem div_fine (x : Ins) (left : Int) (h : refusedB x left = false) (hp : x.plain) : x.code = 52 → x.k ≠ 0 := by
  intro e
  rw [refusedB_plain x left hp, if_neg (by omega), if_neg (by omega), if_pos e] at h
  simp only [Bool.or_eq_false_iff] at h
  simpa using h.1

theorem abs_fine (x : Ins) (left : Int) (h : refusedB x left = false) (hp : x.plain) : x.code = 32 → okOff x.k = true := by
  intro e
  rw [refusedB_plain x left hp, if_pos e] at h
  simp only [Bool.or_eq_false_iff, decide_eq_false_iff_not] at h
  unfold okOff
  have h1 : x.k % 4 = 0 := by simpa using h.1.1
  have h2 := h.1.2
  simp [h1]
  omega

theorem code_mem {c : Int} (h : isCode c = true) : c ∈ codeTab.map Prod.fst := by
  simpa [isCode] using h

/-- A step of what is not refused, that neither ends, nor jumps, does not fault. -/
theorem plain_goes (s : Mac) (x : Ins) (d : Dat) (hc : isCode x.code = true) (h6 : x.code ≠ 6) (h22 : x.code ≠ 22) (h5 : x.code ≠ 5) (hj : isJump x.code = false) (h52 : x.code = 52 → x.k ≠ 0) (h32 : x.code = 32 → okOff x.k = true)
    (hm : x.code = 2 ∨ x.code = 3 ∨ x.code = 96 ∨ x.code = 97 → x.k < 16) : (plainOf s x.code x.k d).2.2 = true ∨ (plainOf s x.code x.k d).2.1 = true := by
  by_cases ha : isAlu x.code = true
  · unfold plainOf
    rw [if_pos ha]
    split
    · rename_i h
      left
      rcases h.1 with e | e
      · have : other s x.code x.k = x.k := by unfold other; rw [e]; rfl
        exact absurd (this ▸ h.2) (h52 e)
      · rw [e]; rfl
    · right; rfl
  · have ha' : isAlu x.code = false := by simpa using ha
    have hc' := code_mem hc
    obtain ⟨c, jt, jf, k⟩ := x
    dsimp only at *
    by_cases h32' : c = 32
    · subst h32'
      right
      show okOff k = true
      exact h32 rfl
    · by_cases hmem : c = 2 ∨ c = 3 ∨ c = 96 ∨ c = 97
      · have := hm hmem
        right
        have hk : ¬ (16 : Int) ≤ k := by omega
        rcases hmem with rfl | rfl | rfl | rfl <;> simp [plainOf, isAlu, aluCodes, hk]
      · right
        simp only [codeTab, List.map_cons, List.map_nil, List.mem_cons, List.not_mem_nil, or_false] at hc'
        simp only [isAlu, aluCodes, List.contains_cons, List.contains_nil, Bool.or_false, Bool.or_eq_false_iff, beq_eq_false_iff_ne] at ha'
        simp only [isJump, jumpCodes, List.contains_cons, List.contains_nil, Bool.or_false, Bool.or_eq_false_iff, beq_eq_false_iff_ne] at hj
        have : c = 0 ∨ c = 1 ∨ c = 128 ∨ c = 129 ∨ c = 132 ∨ c = 7 ∨ c = 135 := by omega
        rcases this with rfl | rfl | rfl | rfl | rfl | rfl | rfl <;> rfl

/-- One step of a filter of which none is refused. -/
theorem safe_step (l : List Ins) (d : Dat) (hok : ∀ y ∈ l, y.Ok) (hr : ∀ i, i < l.length → refusedAt l i = false) (p : Nat) (hp : p < l.length) (s : Mac) :
    (∃ v, stepOf l d p s = .inl (v, 1, true)) ∨ ∃ q t, stepOf l d p s = .inr (q, t) ∧ p < q ∧ q < l.length := by
  obtain ⟨x, hx⟩ : ∃ x, l[p]? = some x := ⟨_, List.getElem?_eq_getElem hp⟩
  have hrp := hr p hp
  have hf := refused_fine l hok p x hx hrp
  have hxo := hok x (List.mem_of_getElem? hx)
  have hb : refusedB x (l.length - 1 - p : Nat) = false := by
    unfold refusedAt at hrp
    rw [hx] at hrp
    exact hrp
  unfold stepOf
  rw [hx]
  by_cases h6 : x.code = 6
  · left; exact ⟨x.k, by simp [h6]⟩
  by_cases h22 : x.code = 22
  · left; exact ⟨s.a, by simp [h22]⟩
  by_cases h5 : x.code = 5
  · right
    have := hf.ja h5
    have k0 := hxo.k0
    refine ⟨p + 1 + x.k.toNat, s, ?_, by omega, by omega⟩
    have hn : ¬ (l.length : Int) < x.k := by omega
    simp [h5, hn]
  by_cases hj : isJump x.code = true
  · right
    obtain ⟨j1, j2⟩ := hf.jump hj
    obtain ⟨p0, p1, p2, p3, _⟩ := hf.plain
    have hjj : ∀ j : Int, 0 ≤ j → j < (l.length : Int) - 1 - p → jumpTo l.length (p + 1) j = p + 1 + j.toNat := fun j a b => by
      unfold jumpTo
      rw [if_neg (by omega)]
      omega
    cases hb2 : jumpOf x.code s.a (other s x.code x.k)
    · exact ⟨p + 1 + x.jf.toNat, s, by simp [h6, h22, h5, hj, hb2, hjj x.jf p2 j2], by omega, by omega⟩
    · exact ⟨p + 1 + x.jt.toNat, s, by simp [h6, h22, h5, hj, hb2, hjj x.jt p0 j1], by omega, by omega⟩
  · have hj' : isJump x.code = false := by simpa using hj
    have hmore := hf.more (by omega)
    rcases plain_goes s x d hf.plain.2.2.2.2 h6 h22 h5 hj' (div_fine x _ hb hf.plain) (abs_fine x _ hb hf.plain) hf.mem with h | h
    · left; exact ⟨0, by simp [h6, h22, h5, hj', h]⟩
    · cases he : (plainOf s x.code x.k d).2.2
      · right; exact ⟨p + 1, _, by simp [h6, h22, h5, hj', h, he]; rfl, by omega, by omega⟩
      · left; exact ⟨0, by simp [h6, h22, h5, hj', he]⟩

theorem safe_from (l : List Ins) (d : Dat) (hok : ∀ y ∈ l, y.Ok) (hr : ∀ i, i < l.length → refusedAt l i = false) : ∀ (f k p : Nat) (s : Mac), p < l.length → l.length - p ≤ f →
    ∃ v e, runFrom l d f k p s = (v, e, true) ∧ k + 1 ≤ e ∧ e ≤ k + (l.length - p)
  | 0, k, p, s, hp, hf => absurd hf (by omega)
  | f + 1, k, p, s, hp, hf => by
    rw [run_step _ _ _ _ _ _ (by omega)]
    rcases safe_step l d hok hr p hp s with ⟨v, h⟩ | ⟨q, t, h, hq1, hq2⟩
    · rw [h]
      exact ⟨v, k + 1, rfl, by omega, by omega⟩
    · rw [h]
      show ∃ v e, runFrom l d (f + 1 - 1) (k + 1) q t = (v, e, true) ∧ _
      rw [Nat.add_sub_cancel]
      obtain ⟨v, e, h1, h2, h3⟩ := safe_from l d hok hr f (k + 1) q t hq2 (by omega)
      exact ⟨v, e, h1, by omega, by omega⟩

theorem none_of (l : List Ins) (h : mostOf l = l.length) : ∀ i, i < l.length → refusedAt l i = false := by
  intro i hi
  cases hr : refusedAt l i
  · rfl
  · exfalso
    unfold mostOf at h
    cases hf : (List.range l.length).find? (refusedAt l) with
    | none =>
      rw [List.find?_eq_none] at hf
      exact hf i (List.mem_range.2 hi) hr
    | some j =>
      rw [hf] at h
      have := List.mem_of_find?_eq_some hf
      rw [List.mem_range] at this
      simp at h
      omega

/-- What is let in. -/
theorem let_in (l : List Ins) (h : (checkOf l).2 = true) : 1 ≤ l.length ∧ l.length ≤ 4096 ∧ (∀ i, i < l.length → refusedAt l i = false) ∧ (∀ i, i < l.length → badAt l (outOf l) i = false) ∧ mostOf l = l.length := by
  unfold checkOf at h
  by_cases h0 : l.length = 0 ∨ 4096 < l.length
  · rw [if_pos h0] at h; cases h
  rw [if_neg h0] at h
  cases hf : (List.range (mostOf l)).find? (badAt l (outOf l)) with
  | some i => rw [hf] at h; cases h
  | none =>
    rw [hf] at h
    by_cases hm : mostOf l < l.length
    · simp [hm] at h
    · have hle : mostOf l ≤ l.length := by
        unfold mostOf
        cases hq : (List.range l.length).find? (refusedAt l) with
        | none => exact Nat.le_refl _
        | some j =>
          have := List.mem_of_find?_eq_some hq
          rw [List.mem_range] at this
          exact Nat.le_of_lt this
      have he : mostOf l = l.length := by omega
      refine ⟨by omega, by omega, none_of l he, fun i hi => ?_, he⟩
      rw [List.find?_eq_none] at hf
      have := hf i (List.mem_range.2 (by omega))
      simpa using this

theorem safe_run (l : List Ins) (d : Dat) (hok : ∀ y ∈ l, y.Ok) (h : (checkOf l).2 = true) : ∃ v e, runOf l d = (v, e, true) ∧ 1 ≤ e ∧ e ≤ l.length := by
  obtain ⟨h1, h2, hr, _, _⟩ := let_in l h
  obtain ⟨v, e, h3, h4, h5⟩ := safe_from l d hok hr 4096 0 0 Mac.zero (by omega) (by omega)
  exact ⟨v, e, h3, by omega, by omega⟩

end Go.Proofs.Ytlghhnfpmekdnaa
