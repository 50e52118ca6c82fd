/- A text as a list of bytes, and back. No condition. -/
import Derived.Test.YtogpicfofifbkaaDoorBase
namespace Go.Proofs.YtogpicfofifbkaaDoor
open Go.RowKit

theorem strOf_size (l : List UInt8) : (strOf l).size = l.length := by simp [strOf, ByteArray.size]
theorem strOf_data (l : List UInt8) : (strOf l).data.toList = l := rfl
theorem strOf_toList (l : List UInt8) : (strOf l).toList = l := by rw [ByteArray.toList_eq]; rfl
theorem strOf_of (s : ByteArray) : strOf s.data.toList = s := by
  unfold strOf
  apply ByteArray.ext
  simp

theorem str_ne (s : ByteArray) (h : s.size ≠ 0) : s.toList.isEmpty = false ∧ (s.toList == []) = false := by
  have e : s.toList = s.data.toList := ByteArray.toList_eq s
  have hl : s.data.toList.length ≠ 0 := by simpa using h
  rw [e]
  cases hs : s.data.toList with
  | nil => rw [hs] at hl; simp at hl
  | cons a l => exact ⟨rfl, rfl⟩
theorem str_no (s : ByteArray) (h : s.size = 0) : s.toList.isEmpty = true ∧ (s.toList == []) = true ∧ s.toList = [] := by
  have e : s.toList = s.data.toList := ByteArray.toList_eq s
  have hl : s.data.toList = [] := List.eq_nil_of_length_eq_zero (by simpa using h)
  rw [e, hl]
  exact ⟨rfl, rfl, rfl⟩

theorem str_at (s : ByteArray) (k : Nat) (h : k < s.size) : s.data.toList[k]? = some s[k] := by
  rw [List.getElem?_eq_getElem (by simpa using h)]
  rfl

def strsV (l : List (List UInt8)) : List Value := l.map fun x => .string (strOf x)

theorem strsV_len (l : List (List UInt8)) : (strsV l).length = l.length := by simp [strsV]
theorem strsV_snoc (l : List (List UInt8)) (x : List UInt8) : strsV (l ++ [x]) = strsV l ++ [.string (strOf x)] := by simp [strsV]
theorem strsV_one (l : List (List UInt8)) : ∀ u ∈ strsV l, u.oneCell' = true := by
  intro u hu
  obtain ⟨x, _, rfl⟩ := List.mem_map.1 hu
  rfl

end Go.Proofs.YtogpicfofifbkaaDoor
