/- Texts of mine put together (a claim has at most so many files): OpenInts, Str, TokPlain. -/
import Derived.Test.YtdjhpgpekomjeaaDoorFrame
import Derived.Test.YtdjhpgpekomjeaaDoorBase
import Derived.Lib.Strings
/- Slices of integers that came in, as lists. No condition. -/
namespace Go.Proofs.YtdjhpgpekomjeaaDoor
open Go.RowKit Go.ChangeShapes Go.WideShapes Go.ChangeAt

theorem open_ints {H : Type} {enc : TypeId × Value → H} {P : Program} {w : World} {spare : Nat → Bool} {held : Bool} {k : IntKind} {t e : TypeId} {fuel n c : Nat} {A : Option Addr} {x : DataW H × List MemPlace}
    (ht : P.underlying t = some (.slice e)) (he : P.underlying e = some (.int k)) (hC : P.cellsOf e = 1)
    (h : DataW.trod enc P w 0 spare held fuel t [.slice A n c] = some x) :
    n ≤ c ∧ ((n = 0 ∧ x.1 = .nil) ∨ ∃ el sp, x.1 = .slice el sp ∧ n ≤ el.length + sp.length) ∧ ∃ l : List Int, Lies w w.heap.size 1 A n (l.map (Value.int k)) ∧ ∀ y ∈ l, (Lit.int k y).wf = true := by
  obtain ⟨hnc, hr, L, hL, hl, hel⟩ := open_slice_lies ht (C := 1) hC (by omega) h
  refine ⟨hnc, hr, ?_⟩
  obtain ⟨M, hM, hw⟩ := list_of (f := fun b : Int => [Value.int k b]) (p := fun b => (Lit.int k b).wf = true) L (fun cs hcs => by
    obtain ⟨m, y, hy⟩ := hel cs hcs
    obtain ⟨q, rfl, _, hw⟩ := DataW.trod_int he hy
    exact ⟨q, rfl, hw⟩)
  refine ⟨M, ?_, hw⟩
  have e : L.flatten = M.map (Value.int k) := by
    rw [hM]
    clear hM hw
    induction M with
    | nil => rfl
    | cons b M ih => simp at ih ⊢; exact ih
  rw [← e]
  exact hl

theorem wf_bd_i64 {y : Int} (h : (Lit.int .i64 y).wf = true) : -9223372036854775808 ≤ y ∧ y ≤ 9223372036854775807 := by simpa [Lit.wf, IntKind.min, IntKind.max, IntKind.signed, IntKind.bits] using h
theorem wf_bd_u32 {y : Int} (h : (Lit.int .u32 y).wf = true) : 0 ≤ y ∧ y ≤ 4294967295 := by simpa [Lit.wf, IntKind.min, IntKind.max, IntKind.signed, IntKind.bits] using h
theorem wf_bd_u64 {y : Int} (h : (Lit.int .u64 y).wf = true) : 0 ≤ y ∧ y ≤ 18446744073709551615 := by simpa [Lit.wf, IntKind.min, IntKind.max, IntKind.signed, IntKind.bits] using h

end Go.Proofs.YtdjhpgpekomjeaaDoor

/- A text as a list of bytes, and back. No condition. -/
namespace Go.Proofs.YtdjhpgpekomjeaaDoor
open Go.RowKit

theorem strOf_size (l : List UInt8) : (strOf l).size = l.length := by simp [strOf, ByteArray.size]
theorem strOf_data (l : List UInt8) : (strOf l).data.toList = l := rfl
theorem strOf_toList (l : List UInt8) : (strOf l).toList = l := by rw [ByteArray.toList_eq]; rfl
theorem strOf_of (s : ByteArray) : strOf s.data.toList = s := by
  unfold strOf
  apply ByteArray.ext
  simp

theorem str_ne (s : ByteArray) (h : s.size ≠ 0) : s.toList.isEmpty = false ∧ (s.toList == []) = false := by
  have e : s.toList = s.data.toList := ByteArray.toList_eq s
  have hl : s.data.toList.length ≠ 0 := by simpa using h
  rw [e]
  cases hs : s.data.toList with
  | nil => rw [hs] at hl; simp at hl
  | cons a l => exact ⟨rfl, rfl⟩
theorem str_no (s : ByteArray) (h : s.size = 0) : s.toList.isEmpty = true ∧ (s.toList == []) = true ∧ s.toList = [] := by
  have e : s.toList = s.data.toList := ByteArray.toList_eq s
  have hl : s.data.toList = [] := List.eq_nil_of_length_eq_zero (by simpa using h)
  rw [e, hl]
  exact ⟨rfl, rfl, rfl⟩

theorem str_at (s : ByteArray) (k : Nat) (h : k < s.size) : s.data.toList[k]? = some s[k] := by
  rw [List.getElem?_eq_getElem (by simpa using h)]
  rfl

def strsV (l : List (List UInt8)) : List Value := l.map fun x => .string (strOf x)

theorem strsV_len (l : List (List UInt8)) : (strsV l).length = l.length := by simp [strsV]
theorem strsV_snoc (l : List (List UInt8)) (x : List UInt8) : strsV (l ++ [x]) = strsV l ++ [.string (strOf x)] := by simp [strsV]
theorem strsV_one (l : List (List UInt8)) : ∀ u ∈ strsV l, u.oneCell' = true := by
  intro u hu
  obtain ⟨x, _, rfl⟩ := List.mem_map.1 hu
  rfl

end Go.Proofs.YtdjhpgpekomjeaaDoor

/- Tokens of a text, as plain functions of what is left of it. -/
namespace Go.Proofs.YtdjhpgpekomjeaaDoor
open Go.RowKit

def letterB (c : UInt8) : Bool := (decide (97 ≤ (c.toNat : Int)) && decide ((c.toNat : Int) ≤ 122)) || ((decide (65 ≤ (c.toNat : Int)) && decide ((c.toNat : Int) ≤ 90)) || ((c.toNat : Int) == 95))
def digB (c : UInt8) : Bool := decide (48 ≤ (c.toNat : Int)) && decide ((c.toNat : Int) ≤ 57)
def wordB (c : UInt8) : Bool := letterB c || digB c
/-- A byte as a digit of base 16; below 0, if it is none. -/
def hexOf (c : UInt8) : Int :=
  if digB c then (c.toNat : Int) - 48
  else if 97 ≤ (c.toNat : Int) ∧ (c.toNat : Int) ≤ 102 then (c.toNat : Int) - 87
  else if 65 ≤ (c.toNat : Int) ∧ (c.toNat : Int) ≤ 70 then (c.toNat : Int) - 55
  else -1
def isHex (base : Nat) (c : UInt8) : Bool := decide (0 ≤ hexOf c) && decide (hexOf c < (base : Int))

/-- How many at the beginning are so. -/
def runLen (p : UInt8 → Bool) : List UInt8 → Nat
  | [] => 0
  | c :: r => if p c then runLen p r + 1 else 0
/-- What the digits at the beginning say behind n, and how many they are; nothing: too great. -/
def digitsOf (base n : Nat) : List UInt8 → Option (Nat × Nat)
  | [] => some (n, 0)
  | c :: r => if isHex base c then (if (18446744073709551615 - (hexOf c).toNat) / base < n then none else (digitsOf base (n * base + (hexOf c).toNat) r).map fun t => (t.1, t.2 + 1)) else some (n, 0)
def hexAhead (r : List UInt8) : Bool := match r with
  | a :: b :: _ => a == 48 && b == 120
  | _ => false
/-- Goes a word on? -/
def goesOn (r : List UInt8) : Bool := match r with
  | [] => false
  | c :: _ => wordB c
def numL (r : List UInt8) : Option (Nat × Nat) :=
  let off := if hexAhead r then 2 else 0
  match digitsOf (if hexAhead r then 16 else 10) 0 (r.drop off) with
  | none => none
  | some (v, k) => if k = 0 ∨ goesOn (r.drop (off + k)) = true then none else some (v, off + k)

def twoSigns : List (List UInt8) := [[38, 38], [124, 124], [61, 61], [33, 61], [60, 61], [62, 61]]
def oneSigns : List UInt8 := [123, 125, 40, 41, 44, 33, 38, 124, 60, 62]
def signL (r : List UInt8) : Nat := if twoSigns.contains (r.take 2) then 2 else match r with
  | [] => 0
  | c :: _ => if oneSigns.contains c then 1 else 0

def beginsL (t r : List UInt8) : Bool := r.take t.length == t
/-- How far to behind the end of a remark. -/
def endOf : List UInt8 → Option Nat
  | [] => none
  | c :: r => if beginsL [42, 47] (c :: r) then some 2 else (endOf r).map (· + 1)
def blankB (c : UInt8) : Bool := (c == 32) || ((c == 9) || ((c == 10) || (c == 13)))
/-- How many tell nothing; nothing: they don't end. -/
def skipL (r : List UInt8) : Option Nat := match r with
  | [] => some 0
  | c :: _ =>
    if blankB c then some 1
    else if beginsL [47, 47] r then some (runLen (fun x => !(x == 10)) r)
    else if beginsL [47, 42] r then (endOf (r.drop 2)).map (· + 2)
    else some 0

/-- A token: its kind, its text, how many bytes it takes. -/
def oneL (r : List UInt8) : Option (Int × List UInt8 × Nat) := match r with
  | [] => none
  | c :: t =>
    if letterB c then some (1, r.take (runLen wordB r), runLen wordB r)
    else if digB c then (numL r).map fun v => (2, r.take v.2, v.2)
    else if c = 34 then
      (match t.drop (runLen (fun x => !(x == 34) && !(x == 10)) t) with
      | 34 :: _ => some (4, t.take (runLen (fun x => !(x == 34) && !(x == 10)) t), runLen (fun x => !(x == 34) && !(x == 10)) t + 2)
      | _ => none)
    else if c = 35 then
      (if beginsL [35, 105, 110, 99, 108, 117, 100, 101] r && !goesOn (r.drop 8) then some (5, [35, 105, 110, 99, 108, 117, 100, 101], 8)
      else if beginsL [35, 100, 101, 102, 105, 110, 101] r && !goesOn (r.drop 7) then some (5, [35, 100, 101, 102, 105, 110, 101], 7)
      else none)
    else if signL r = 0 then none else some (3, r.take (signL r), signL r)

/-! ### Where a byte stands in what is left -/
theorem drop_at (s : ByteArray) (k : Nat) (h : k < s.size) : s.data.toList.drop k = s[k]'h :: s.data.toList.drop (k + 1) := by
  have hl : k < s.data.toList.length := by rw [Array.length_toList]; exact h
  rw [List.drop_eq_getElem_cons hl]
  rfl
theorem drop_end (s : ByteArray) (k : Nat) (h : s.size ≤ k) : s.data.toList.drop k = [] := List.drop_eq_nil_of_le (by rw [Array.length_toList]; exact h)
theorem run_le (p : UInt8 → Bool) : ∀ r : List UInt8, runLen p r ≤ r.length
  | [] => Nat.le_refl _
  | c :: r => by
    rw [runLen]
    split
    · have := run_le p r
      rw [List.length_cons]
      omega
    · exact Nat.zero_le _
theorem take_str (s : ByteArray) (i k : Nat) : s.extract i k = strOf ((s.data.toList.drop i).take (k - i)) := Go.Lib.extract_eq s i k

end Go.Proofs.YtdjhpgpekomjeaaDoor
