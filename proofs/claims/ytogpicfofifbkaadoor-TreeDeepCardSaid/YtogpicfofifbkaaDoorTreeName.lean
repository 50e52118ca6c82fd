/- What the document's own in and Name give. -/
import Derived.Test.YtogpicfofifbkaaDoorTreePlain
import Derived.Test.YtogpicfofifbkaaDoorLetters
namespace Go.Proofs.YtogpicfofifbkaaDoor
open Go.RowKit

theorem any_yes {α : Type} {p : α → Bool} {l : List α} {k : Nat} {x : α} (h : l[k]? = some x) (hp : p x = true) : l.any p = true := List.any_eq_true.2 ⟨x, List.mem_of_getElem? h, hp⟩
theorem any_no {α : Type} {p : α → Bool} {l : List α} (h : ∀ j x, j < l.length → l[j]? = some x → p x = false) : l.any p = false := by
  rw [List.any_eq_false]
  intro x hx
  obtain ⟨j, hj⟩ := List.mem_iff_getElem?.1 hx
  rw [h j x (List.getElem?_eq_some_iff.1 hj).1 hj]
  decide
theorem all_yes {α : Type} {p : α → Bool} {l : List α} (h : ∀ j x, j < l.length → l[j]? = some x → p x = true) : l.all p = true := by
  rw [List.all_eq_true]
  intro x hx
  obtain ⟨j, hj⟩ := List.mem_iff_getElem?.1 hx
  exact h j x (List.getElem?_eq_some_iff.1 hj).1 hj
theorem all_no {α : Type} {p : α → Bool} {l : List α} {k : Nat} {x : α} (h : l[k]? = some x) (hp : p x = false) : l.all p = false := by
  cases ha : l.all p with
  | false => rfl
  | true =>
    rw [List.all_eq_true] at ha
    rw [ha x (List.mem_of_getElem? h)] at hp
    cases hp

def inL (l : List ByteArray) (s : ByteArray) : Bool := l.any fun x => x.toList == s.toList

def barredS : List ByteArray := [⟨#[80, 79, 76, 73, 67, 89]⟩, ⟨#[85, 83, 69]⟩, ⟨#[68, 69, 70, 65, 85, 76, 84]⟩, ⟨#[65, 76, 76, 79, 87]⟩, ⟨#[76, 79, 71]⟩, ⟨#[75, 73, 76, 76]⟩, ⟨#[75, 73, 76, 76, 95, 80, 82, 79, 67, 69, 83, 83]⟩, ⟨#[84, 82, 65, 80]⟩, ⟨#[69, 82, 82, 78, 79]⟩, ⟨#[84, 82, 65, 67, 69]⟩]
theorem in_barred (s : ByteArray) : inL barredS s = barred.any (· == s.data.toList) := by
  unfold inL
  rw [show (s.toList) = s.data.toList from ByteArray.toList_eq s]
  simp only [barredS, barred, List.any_cons, List.any_nil, ByteArray.toList_eq]

theorem name_nil {s : ByteArray} (h : s.size = 0) : nameOk s = false := by
  have : s.data.toList = [] := List.eq_nil_of_length_eq_zero (by
    rw [Array.length_toList]
    exact h)
  unfold nameOk
  rw [this]
  rfl
theorem name_first {s : ByteArray} (h : 0 < s.size) (hq : letterB (s[0]'h) = false) : nameOk s = false := by
  have hx := str_at s 0 h
  unfold nameOk
  cases hd : s.data.toList with
  | nil => rfl
  | cons c r =>
    rw [hd] at hx
    have : c = s[0]'h := by simpa using hx
    simp only [nameL]
    rw [this, hq]
    rfl
theorem name_at {s : ByteArray} {k : Nat} (h : k < s.size) (hq : wordB (s[k]'h) = false) : nameOk s = false := by
  have hx := str_at s k h
  have ha := all_no (p := wordB) hx hq
  unfold nameOk
  cases hd : s.data.toList with
  | nil => rfl
  | cons c r =>
    rw [hd] at ha
    simp only [nameL]
    rw [ha]
    simp
theorem name_end {s : ByteArray} (h : 0 < s.size) (hq : letterB (s[0]'h) = true) (ha : ∀ j (hj : j < s.size), wordB (s[j]'hj) = true) : nameOk s = !inL barredS s := by
  have hx := str_at s 0 h
  have hall : s.data.toList.all wordB = true := all_yes fun j x hj hx => by
    have hj' : j < s.size := by simpa using hj
    rw [str_at s j hj'] at hx
    rw [← Option.some.inj hx]
    exact ha j hj'
  rw [in_barred]
  unfold nameOk
  cases hd : s.data.toList with
  | nil => rw [hd] at hx; cases hx
  | cons c r =>
    rw [hd] at hx hall
    have : c = s[0]'h := by simpa using hx
    simp only [nameL]
    rw [hall, this, hq]
    rfl

end Go.Proofs.YtogpicfofifbkaaDoor
