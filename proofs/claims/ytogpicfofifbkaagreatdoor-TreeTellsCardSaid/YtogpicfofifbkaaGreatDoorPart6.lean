/- Texts of mine put together (a claim has at most so many files): Shelf, TreeLib. -/
import Derived.Shelf.Lays
import Derived.Test.YtogpicfofifbkaaGreatDoorProg
import Derived.Test.YtogpicfofifbkaaGreatDoorChecked
import Derived.Test.YtogpicfofifbkaaGreatDoorTreePlain
import Derived.Shelf.Strings.SlTrimAscii
import Derived.Shelf.Strings.Search3
import Derived.Lib.SlTrimSet
/- The library contracts that the proofs lean on, laid at this translation: tables of numbers, and that the bodies are the same. No condition. -/
namespace Go.Proofs
open Go.Shelf
def Tryz.lays144_ren : Go.Shelf.Ren := ⟨fun | 144 => 20 | 143 => 49 | 219 => 70 | 217 => 86 | 225 => 87 | 224 => 88 | 267 => 89 | 266 => 97 | 314 => 98 | n => n, fun | 9 => 9 | 4 => 4 | 3 => 3 | 5 => 5 | 46 => 126 | 146 => 130 | 51 => 76 | n => n, fun | 1 => 0 | n => n⟩
theorem Tryz.lays144 : Go.Proofs.Lays.n144 Tryz.prog Tryz.lays144_ren := {
  mixed := by kernel_rfl
  f143 := Tryz.func49.trans (congrArg some (by kernel_rfl))
  f144 := Tryz.func20.trans (congrArg some (by kernel_rfl))
  f217 := Tryz.func86.trans (congrArg some (by kernel_rfl))
  f219 := Tryz.func70.trans (congrArg some (by kernel_rfl))
  f224 := Tryz.func88.trans (congrArg some (by kernel_rfl))
  f225 := Tryz.func87.trans (congrArg some (by kernel_rfl))
  f266 := Tryz.func97.trans (congrArg some (by kernel_rfl))
  f267 := Tryz.func89.trans (congrArg some (by kernel_rfl))
  f314 := Tryz.func98.trans (congrArg some (by kernel_rfl))
  t3 := Tryz.underlying3
  a3 := Tryz.isAgg3
  z3 := Tryz.sizeOf3
  v3 := Tryz.zeroValue3
  t4 := Tryz.underlying4
  a4 := Tryz.isAgg4
  z4 := Tryz.sizeOf4
  v4 := Tryz.zeroValue4
  t5 := Tryz.underlying5
  a5 := Tryz.isAgg5
  z5 := Tryz.sizeOf5
  v5 := Tryz.zeroValue5
  t9 := Tryz.underlying9
  a9 := Tryz.isAgg9
  z9 := Tryz.sizeOf9
  v9 := Tryz.zeroValue9
  t46 := Tryz.underlying126
  a46 := Tryz.isAgg126
  z46 := Tryz.sizeOf126
  v46 := Tryz.zeroValue126
  t51 := Tryz.underlying76
  a51 := Tryz.isAgg76
  z51 := Tryz.sizeOf76
  v51 := Tryz.zeroValue76
  t146 := Tryz.underlying130
  a146 := Tryz.isAgg130
  z146 := Tryz.sizeOf130
  v146 := Tryz.zeroValue130
  g1 := by kernel_rfl }
def Tryz.lays161_ren : Go.Shelf.Ren := ⟨fun | 161 => 21 | 231 => 50 | 227 => 51 | 233 => 52 | 235 => 53 | 228 => 71 | 197 => 72 | 151 => 73 | 260 => 90 | 152 => 91 | 137 => 99 | 119 => 100 | 224 => 88 | 225 => 87 | 217 => 86 | 266 => 97 | n => n, fun | 9 => 9 | 4 => 4 | 3 => 3 | 5 => 5 | 117 => 91 | 116 => 90 | 0 => 0 | 124 => 94 | 105 => 107 | 21 => 21 | 119 => 132 | 46 => 126 | 139 => 135 | 138 => 134 | n => n, fun | 3 => 1 | 4 => 2 | n => n⟩
theorem Tryz.lays161 : Go.Proofs.Lays.n161 Tryz.prog Tryz.lays161_ren := {
  mixed := by kernel_rfl
  f119 := Tryz.func100.trans (congrArg some (by kernel_rfl))
  f137 := Tryz.func99.trans (congrArg some (by kernel_rfl))
  f151 := Tryz.func73.trans (congrArg some (by kernel_rfl))
  f152 := Tryz.func91.trans (congrArg some (by kernel_rfl))
  f161 := Tryz.func21.trans (congrArg some (by kernel_rfl))
  f197 := Tryz.func72.trans (congrArg some (by kernel_rfl))
  f217 := Tryz.func86.trans (congrArg some (by kernel_rfl))
  f224 := Tryz.func88.trans (congrArg some (by kernel_rfl))
  f225 := Tryz.func87.trans (congrArg some (by kernel_rfl))
  f227 := Tryz.func51.trans (congrArg some (by kernel_rfl))
  f228 := Tryz.func71.trans (congrArg some (by kernel_rfl))
  f231 := Tryz.func50.trans (congrArg some (by kernel_rfl))
  f233 := Tryz.func52.trans (congrArg some (by kernel_rfl))
  f235 := Tryz.func53.trans (congrArg some (by kernel_rfl))
  f260 := Tryz.func90.trans (congrArg some (by kernel_rfl))
  f266 := Tryz.func97.trans (congrArg some (by kernel_rfl))
  t0 := Tryz.underlying0
  a0 := Tryz.isAgg0
  z0 := Tryz.sizeOf0
  v0 := Tryz.zeroValue0
  t3 := Tryz.underlying3
  a3 := Tryz.isAgg3
  z3 := Tryz.sizeOf3
  v3 := Tryz.zeroValue3
  t4 := Tryz.underlying4
  a4 := Tryz.isAgg4
  z4 := Tryz.sizeOf4
  v4 := Tryz.zeroValue4
  t5 := Tryz.underlying5
  a5 := Tryz.isAgg5
  z5 := Tryz.sizeOf5
  v5 := Tryz.zeroValue5
  t9 := Tryz.underlying9
  a9 := Tryz.isAgg9
  z9 := Tryz.sizeOf9
  v9 := Tryz.zeroValue9
  t21 := Tryz.underlying21
  a21 := Tryz.isAgg21
  z21 := Tryz.sizeOf21
  v21 := Tryz.zeroValue21
  t46 := Tryz.underlying126
  a46 := Tryz.isAgg126
  z46 := Tryz.sizeOf126
  v46 := Tryz.zeroValue126
  t105 := Tryz.underlying107
  a105 := Tryz.isAgg107
  z105 := Tryz.sizeOf107
  v105 := Tryz.zeroValue107
  t116 := Tryz.underlying90
  a116 := Tryz.isAgg90
  z116 := Tryz.sizeOf90
  t117 := Tryz.underlying91
  a117 := Tryz.isAgg91
  z117 := Tryz.sizeOf91
  v117 := Tryz.zeroValue91
  t119 := Tryz.underlying132
  a119 := Tryz.isAgg132
  z119 := Tryz.sizeOf132
  t124 := Tryz.underlying94
  a124 := Tryz.isAgg94
  z124 := Tryz.sizeOf94
  v124 := Tryz.zeroValue94
  t138 := Tryz.underlying134
  a138 := Tryz.isAgg134
  z138 := Tryz.sizeOf134
  v138 := Tryz.zeroValue134
  t139 := Tryz.underlying135
  a139 := Tryz.isAgg135
  z139 := Tryz.sizeOf135
  v139 := Tryz.zeroValue135
  g3 := by kernel_rfl
  g4 := by kernel_rfl }
end Go.Proofs

/- The library's functions that the landed tree calls, as contracts at this translation; sets of bytes. No condition. -/
namespace Go.Proofs.YtogpicfofifbkaaGreatDoor.LandedT
open Go.RowKit

theorem every_byte {p : UInt8 → Bool} (h : (List.range 256).all (fun n => p (UInt8.ofNat n)) = true) (c : UInt8) : p c = true := by
  have := List.all_eq_true.1 h c.toNat (List.mem_range.2 c.toNat_lt)
  simpa using this

def digitsL : List UInt8 := [48, 49, 50, 51, 52, 53, 54, 55, 56, 57]
def inWordL : List UInt8 := [48, 49, 50, 51, 52, 53, 54, 55, 56, 57, 97, 98, 99, 100, 101, 102, 103, 104, 105, 106, 107, 108, 109, 110, 111, 112, 113, 114, 115, 116, 117, 118, 119, 120, 121, 122, 65, 66, 67, 68, 69, 70, 71, 72, 73, 74, 75, 76, 77, 78, 79, 80, 81, 82, 83, 84, 85, 86, 87, 88, 89, 90, 95]

theorem in_digits (c : UInt8) : digitsL.contains c = digB c := eq_of_beq (every_byte (p := fun c => digitsL.contains c == digB c) (by decide +kernel) c)
theorem in_word (c : UInt8) : inWordL.contains c = wordB c := eq_of_beq (every_byte (p := fun c => inWordL.contains c == wordB c) (by decide +kernel) c)
theorem word_first (c : UInt8) : letterB c = (wordB c && !digB c) := eq_of_beq (every_byte (p := fun c => letterB c == (wordB c && !digB c)) (by decide +kernel) c)

theorem drop_all (p : UInt8 → Bool) : ∀ l : List UInt8, (l.dropWhile p == []) = l.all p
  | [] => rfl
  | c :: r => by
    rw [List.dropWhile_cons, List.all_cons]
    cases h : p c
    · simp
    · simp only [if_true, Bool.true_and]
      exact drop_all p r

theorem trim_words (s : ByteArray) (w : World) :
    Calls Tryz.prog 21 #[.string s, .string ⟨inWordL.toArray⟩] w fun e w' => e = .returned (.string (strOf (s.data.toList.dropWhile (inWordL.contains ·)))) ∧ Below w.heap.size w w' :=
  Calls.mono (f := 21) (Any.strings_TrimLeft_laid Tryz.lays161 (by kernel_rfl) s ⟨inWordL.toArray⟩ w (by decide +kernel) (ascii_of_all (by decide +kernel))) fun _ _ h => h

theorem digits_has (c : UInt8) (w : World) :
    Calls Tryz.prog 20 #[.string ⟨digitsL.toArray⟩, .string ⟨#[c]⟩] w fun e w' => e = .returned (.bool (digB c)) ∧ w = w' :=
  Calls.mono (f := 20) (Any.strings_Contains_one Tryz.lays144 ⟨digitsL.toArray⟩ c w) fun _ _ ⟨h1, h2⟩ => ⟨by rw [h1, ← Lib.contains_iff_indexByte]; exact congrArg (fun b => Ending.returned (.bool b)) (in_digits c), h2.symm⟩

set_option maxRecDepth 100000 in
set_option maxHeartbeats 1000000 in
theorem taken_any (s : ByteArray) (w : World) : Calls Tryz.prog 22 #[.string s] w fun e w' => e = .returned (.bool (barred.any (· == s.data.toList))) ∧ w' = w := by
  have hs : s.toList = s.data.toList := ByteArray.toList_eq s
  by_cases h : s.data.toList ∈ barred
  · have hb : barred.any (· == s.data.toList) = true := List.any_eq_true.2 ⟨_, h, by simp⟩
    rw [hb]
    unfold barred at h
    simp only [List.mem_cons, List.not_mem_nil, or_false] at h
    have HS := Lib.hid hs
    clear hs hb
    rcases h with h | h | h | h | h | h | h | h | h | h
    all_goals
      rw [h] at HS
      obtain ⟨l, hl⟩ : ∃ l, l = s.toList := ⟨_, rfl⟩
      have he : s.toList = _ := HS.out
      clear h hl HS
      go_enter Tryz.func22, Tryz.ntmps22
      go_wp2
      go_ret
      exact ⟨rfl, rfl⟩
  · have hb : barred.any (· == s.data.toList) = false := by
      rw [Bool.eq_false_iff]
      intro e
      obtain ⟨x, hx, he⟩ := List.any_eq_true.1 e
      have : x = s.data.toList := by simpa using he
      exact h (this ▸ hx)
    rw [hb]
    unfold barred at h
    simp only [List.mem_cons, List.not_mem_nil, or_false, not_or] at h
    obtain ⟨h1, h2, h3, h4, h5, h6, h7, h8, h9, h10⟩ := h
    replace h1 := beq_eq_false_iff_ne.2 h1
    replace h2 := beq_eq_false_iff_ne.2 h2
    replace h3 := beq_eq_false_iff_ne.2 h3
    replace h4 := beq_eq_false_iff_ne.2 h4
    replace h5 := beq_eq_false_iff_ne.2 h5
    replace h6 := beq_eq_false_iff_ne.2 h6
    replace h7 := beq_eq_false_iff_ne.2 h7
    replace h8 := beq_eq_false_iff_ne.2 h8
    replace h9 := beq_eq_false_iff_ne.2 h9
    replace h10 := beq_eq_false_iff_ne.2 h10
    rw [← hs] at h1 h2 h3 h4 h5 h6 h7 h8 h9 h10
    clear hs hb
    go_enter Tryz.func22, Tryz.ntmps22
    go_wp2
    go_ret
    exact ⟨rfl, rfl⟩

end Go.Proofs.YtogpicfofifbkaaGreatDoor.LandedT
