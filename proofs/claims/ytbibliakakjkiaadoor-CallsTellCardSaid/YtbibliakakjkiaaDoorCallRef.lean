/- What the document's own Arch gives. -/
import Derived.Test.YtbibliakakjkiaaDoorCallTab
import Derived.Test.YtbibliakakjkiaaDoorCallVal
import Derived.Test.YtbibliakakjkiaaDoorStr
import Derived.Test.YtbibliakakjkiaaDoorChecked
namespace Go.Proofs.YtbibliakakjkiaaDoor
open Go.RowKit

/-- Which architecture a text is. -/
theorem arch_kinds (s : ByteArray) :
    ((s.toList == armB) = true ∧ s.data.toList = armB) ∨
    ((s.toList == armB) = false ∧ (s.toList == x86B) = true ∧ s.data.toList = x86B) ∨
    ((s.toList == armB) = false ∧ (s.toList == x86B) = false ∧ (s.toList == amdB) = true ∧ s.data.toList = amdB) ∨
    ((s.toList == armB) = false ∧ (s.toList == x86B) = false ∧ (s.toList == amdB) = false ∧ s.data.toList ≠ armB ∧ s.data.toList ≠ x86B ∧ s.data.toList ≠ amdB) := by
  have e : s.toList = s.data.toList := ByteArray.toList_eq s
  rw [e]
  cases h1 : (s.data.toList == armB)
  · cases h2 : (s.data.toList == x86B)
    · cases h3 : (s.data.toList == amdB)
      · exact .inr (.inr (.inr ⟨rfl, rfl, rfl, by simpa using h1, by simpa using h2, by simpa using h3⟩))
      · exact .inr (.inr (.inl ⟨rfl, rfl, rfl, by simpa using h3⟩))
    · exact .inr (.inl ⟨rfl, rfl, by simpa using h2⟩)
  · exact .inl ⟨rfl, by simpa using h1⟩

theorem number_arm {s : List UInt8} (h : s = armB) : numberOf s = (3221225655, true) := by subst h; rfl
theorem number_x86 {s : List UInt8} (h : s = x86B) : numberOf s = (1073741827, true) := by subst h; rfl
theorem number_amd {s : List UInt8} (h : s = amdB) : numberOf s = (3221225534, true) := by subst h; rfl
theorem number_none {s : List UInt8} (h1 : s ≠ armB) (h2 : s ≠ x86B) (h3 : s ≠ amdB) : numberOf s = (0, false) := by
  unfold numberOf
  rw [if_neg h1, if_neg h2, if_neg h3]
theorem sel_arm {s : List UInt8} (h : s = armB) (r : RowV) : selOf s r = r.arm := by subst h; rfl
theorem sel_x86 {s : List UInt8} (h : s = x86B) (r : RowV) : selOf s r = r.x86 := by subst h; rfl
theorem sel_amd {s : List UInt8} (h : s = amdB) (r : RowV) : selOf s r = r.amd := by subst h; rfl
theorem sel_none {s : List UInt8} (h1 : s ≠ armB) (h2 : s ≠ x86B) (h3 : s ≠ amdB) (r : RowV) : selOf s r = -1 := by
  unfold selOf
  rw [if_neg h1, if_neg h2, if_neg h3]

set_option maxRecDepth 100000 in
theorem refArch_any (s : ByteArray) (w : World) : Calls Tryd.prog 8 #[.string s] w (U32Bool (numberOf s.data.toList) w) := by
  rcases arch_kinds s with ⟨b1, h⟩ | ⟨b1, b2, h⟩ | ⟨b1, b2, b3, h⟩ | ⟨b1, b2, b3, h1, h2, h3⟩
  · rw [number_arm h]
    clear h
    unfold armB at b1
    go_enter Tryd.func8, Tryd.ntmps8
    go_wp2
    go_ret2
    exact ⟨rfl, Below.refl _ _⟩
  · rw [number_x86 h]
    clear h
    unfold armB at b1
    unfold x86B at b2
    go_enter Tryd.func8, Tryd.ntmps8
    go_wp2
    go_ret2
    exact ⟨rfl, Below.refl _ _⟩
  · rw [number_amd h]
    clear h
    unfold armB at b1
    unfold x86B at b2
    unfold amdB at b3
    go_enter Tryd.func8, Tryd.ntmps8
    go_wp2
    go_ret2
    exact ⟨rfl, Below.refl _ _⟩
  · rw [number_none h1 h2 h3]
    clear h1 h2 h3
    unfold armB at b1
    unfold x86B at b2
    unfold amdB at b3
    go_enter Tryd.func8, Tryd.ntmps8
    go_wp2
    go_ret2
    exact ⟨rfl, Below.refl _ _⟩

end Go.Proofs.YtbibliakakjkiaaDoor
