/- What the document's own prim, Number, Op give. -/
import Derived.Test.YtogpicfofifbkaaDoorTreeName
namespace Go.Proofs.YtogpicfofifbkaaDoor
open Go.RowKit

/-- The sign of a comparison, by what is told of it. -/
theorem op_kinds (s : ByteArray) : (s.toList = [61, 61] ∧ opOf s.data.toList = 1) ∨ (s.toList = [33, 61] ∧ opOf s.data.toList = 2) ∨ (s.toList = [60] ∧ opOf s.data.toList = 3) ∨ (s.toList = [60, 61] ∧ opOf s.data.toList = 4) ∨
    (s.toList = [62] ∧ opOf s.data.toList = 5) ∨ (s.toList = [62, 61] ∧ opOf s.data.toList = 6) ∨ (((s.toList == [61, 61]) = false ∧ (s.toList == [33, 61]) = false ∧ (s.toList == [60]) = false ∧ (s.toList == [60, 61]) = false ∧ (s.toList == [62]) = false ∧ (s.toList == [62, 61]) = false) ∧ opOf s.data.toList = 0) := by
  rw [ByteArray.toList_eq]
  generalize s.data.toList = l
  by_cases h1 : l = [61, 61]
  · subst h1; exact .inl ⟨rfl, rfl⟩
  by_cases h2 : l = [33, 61]
  · subst h2; exact .inr (.inl ⟨rfl, rfl⟩)
  by_cases h3 : l = [60]
  · subst h3; exact .inr (.inr (.inl ⟨rfl, rfl⟩))
  by_cases h4 : l = [60, 61]
  · subst h4; exact .inr (.inr (.inr (.inl ⟨rfl, rfl⟩)))
  by_cases h5 : l = [62]
  · subst h5; exact .inr (.inr (.inr (.inr (.inl ⟨rfl, rfl⟩))))
  by_cases h6 : l = [62, 61]
  · subst h6; exact .inr (.inr (.inr (.inr (.inr (.inl ⟨rfl, rfl⟩)))))
  refine .inr (.inr (.inr (.inr (.inr (.inr ⟨?_, ?_⟩)))))
  · simp only [beq_eq_false_iff_ne]
    exact ⟨h1, h2, h3, h4, h5, h6⟩
  · unfold opOf
    rw [if_neg h1, if_neg h2, if_neg h3, if_neg h4, if_neg h5, if_neg h6]

end Go.Proofs.YtogpicfofifbkaaDoor
