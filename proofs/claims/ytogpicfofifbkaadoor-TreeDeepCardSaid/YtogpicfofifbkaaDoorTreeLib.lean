/- The library's functions that the landed tree calls, as contracts at this translation; sets of bytes. No condition. -/
import Derived.Test.YtogpicfofifbkaaDoorShelf
import Derived.Test.YtogpicfofifbkaaDoorChecked
import Derived.Test.YtogpicfofifbkaaDoorTreePlain
import Derived.Shelf.Strings.SlTrimAscii
import Derived.Shelf.Strings.Search3
import Derived.Lib.SlTrimSet
namespace Go.Proofs.YtogpicfofifbkaaDoor.LandedT
open Go.RowKit

theorem every_byte {p : UInt8 → Bool} (h : (List.range 256).all (fun n => p (UInt8.ofNat n)) = true) (c : UInt8) : p c = true := by
  have := List.all_eq_true.1 h c.toNat (List.mem_range.2 c.toNat_lt)
  simpa using this

def digitsL : List UInt8 := [48, 49, 50, 51, 52, 53, 54, 55, 56, 57]
def inWordL : List UInt8 := [48, 49, 50, 51, 52, 53, 54, 55, 56, 57, 97, 98, 99, 100, 101, 102, 103, 104, 105, 106, 107, 108, 109, 110, 111, 112, 113, 114, 115, 116, 117, 118, 119, 120, 121, 122, 65, 66, 67, 68, 69, 70, 71, 72, 73, 74, 75, 76, 77, 78, 79, 80, 81, 82, 83, 84, 85, 86, 87, 88, 89, 90, 95]

theorem in_digits (c : UInt8) : digitsL.contains c = digB c := eq_of_beq (every_byte (p := fun c => digitsL.contains c == digB c) (by decide +kernel) c)
theorem in_word (c : UInt8) : inWordL.contains c = wordB c := eq_of_beq (every_byte (p := fun c => inWordL.contains c == wordB c) (by decide +kernel) c)
theorem word_first (c : UInt8) : letterB c = (wordB c && !digB c) := eq_of_beq (every_byte (p := fun c => letterB c == (wordB c && !digB c)) (by decide +kernel) c)

theorem drop_all (p : UInt8 → Bool) : ∀ l : List UInt8, (l.dropWhile p == []) = l.all p
  | [] => rfl
  | c :: r => by
    rw [List.dropWhile_cons, List.all_cons]
    cases h : p c
    · simp
    · simp only [if_true, Bool.true_and]
      exact drop_all p r

theorem trim_words (s : ByteArray) (w : World) :
    Calls Tryd.prog 22 #[.string s, .string ⟨inWordL.toArray⟩] w fun e w' => e = .returned (.string (strOf (s.data.toList.dropWhile (inWordL.contains ·)))) ∧ Below w.heap.size w w' :=
  Calls.mono (f := 22) (Any.strings_TrimLeft_laid Tryd.lays161 (by kernel_rfl) s ⟨inWordL.toArray⟩ w (by decide +kernel) (ascii_of_all (by decide +kernel))) fun _ _ h => h

theorem digits_has (c : UInt8) (w : World) :
    Calls Tryd.prog 21 #[.string ⟨digitsL.toArray⟩, .string ⟨#[c]⟩] w fun e w' => e = .returned (.bool (digB c)) ∧ w = w' :=
  Calls.mono (f := 21) (Any.strings_Contains_one Tryd.lays144 ⟨digitsL.toArray⟩ c w) fun _ _ ⟨h1, h2⟩ => ⟨by rw [h1, ← Lib.contains_iff_indexByte]; exact congrArg (fun b => Ending.returned (.bool b)) (in_digits c), h2.symm⟩

set_option maxRecDepth 100000 in
set_option maxHeartbeats 1000000 in
theorem taken_any (s : ByteArray) (w : World) : Calls Tryd.prog 23 #[.string s] w fun e w' => e = .returned (.bool (barred.any (· == s.data.toList))) ∧ w' = w := by
  have hs : s.toList = s.data.toList := ByteArray.toList_eq s
  by_cases h : s.data.toList ∈ barred
  · have hb : barred.any (· == s.data.toList) = true := List.any_eq_true.2 ⟨_, h, by simp⟩
    rw [hb]
    unfold barred at h
    simp only [List.mem_cons, List.not_mem_nil, or_false] at h
    have HS := Lib.hid hs
    clear hs hb
    rcases h with h | h | h | h | h | h | h | h | h | h
    all_goals
      rw [h] at HS
      obtain ⟨l, hl⟩ : ∃ l, l = s.toList := ⟨_, rfl⟩
      have he : s.toList = _ := HS.out
      clear h hl HS
      go_enter Tryd.func23, Tryd.ntmps23
      go_wp2
      go_ret
      exact ⟨rfl, rfl⟩
  · have hb : barred.any (· == s.data.toList) = false := by
      rw [Bool.eq_false_iff]
      intro e
      obtain ⟨x, hx, he⟩ := List.any_eq_true.1 e
      have : x = s.data.toList := by simpa using he
      exact h (this ▸ hx)
    rw [hb]
    unfold barred at h
    simp only [List.mem_cons, List.not_mem_nil, or_false, not_or] at h
    obtain ⟨h1, h2, h3, h4, h5, h6, h7, h8, h9, h10⟩ := h
    replace h1 := beq_eq_false_iff_ne.2 h1
    replace h2 := beq_eq_false_iff_ne.2 h2
    replace h3 := beq_eq_false_iff_ne.2 h3
    replace h4 := beq_eq_false_iff_ne.2 h4
    replace h5 := beq_eq_false_iff_ne.2 h5
    replace h6 := beq_eq_false_iff_ne.2 h6
    replace h7 := beq_eq_false_iff_ne.2 h7
    replace h8 := beq_eq_false_iff_ne.2 h8
    replace h9 := beq_eq_false_iff_ne.2 h9
    replace h10 := beq_eq_false_iff_ne.2 h10
    rw [← hs] at h1 h2 h3 h4 h5 h6 h7 h8 h9 h10
    clear hs hb
    go_enter Tryd.func23, Tryd.ntmps23
    go_wp2
    go_ret
    exact ⟨rfl, rfl⟩

end Go.Proofs.YtogpicfofifbkaaDoor.LandedT
