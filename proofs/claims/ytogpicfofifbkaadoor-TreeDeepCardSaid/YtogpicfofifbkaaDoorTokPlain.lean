/- Tokens of a text, as plain functions of what is left of it. -/
import Derived.Test.YtogpicfofifbkaaDoorStr
import Derived.Lib.Strings
namespace Go.Proofs.YtogpicfofifbkaaDoor
open Go.RowKit

def letterB (c : UInt8) : Bool := (decide (97 ≤ (c.toNat : Int)) && decide ((c.toNat : Int) ≤ 122)) || ((decide (65 ≤ (c.toNat : Int)) && decide ((c.toNat : Int) ≤ 90)) || ((c.toNat : Int) == 95))
def digB (c : UInt8) : Bool := decide (48 ≤ (c.toNat : Int)) && decide ((c.toNat : Int) ≤ 57)
def wordB (c : UInt8) : Bool := letterB c || digB c
/-- A byte as a digit of base 16; below 0, if it is none. -/
def hexOf (c : UInt8) : Int :=
  if digB c then (c.toNat : Int) - 48
  else if 97 ≤ (c.toNat : Int) ∧ (c.toNat : Int) ≤ 102 then (c.toNat : Int) - 87
  else if 65 ≤ (c.toNat : Int) ∧ (c.toNat : Int) ≤ 70 then (c.toNat : Int) - 55
  else -1
def isHex (base : Nat) (c : UInt8) : Bool := decide (0 ≤ hexOf c) && decide (hexOf c < (base : Int))

/-- How many at the beginning are so. -/
def runLen (p : UInt8 → Bool) : List UInt8 → Nat
  | [] => 0
  | c :: r => if p c then runLen p r + 1 else 0
/-- What the digits at the beginning say behind n, and how many they are; nothing: too great. -/
def digitsOf (base n : Nat) : List UInt8 → Option (Nat × Nat)
  | [] => some (n, 0)
  | c :: r => if isHex base c then (if (18446744073709551615 - (hexOf c).toNat) / base < n then none else (digitsOf base (n * base + (hexOf c).toNat) r).map fun t => (t.1, t.2 + 1)) else some (n, 0)
def hexAhead (r : List UInt8) : Bool := match r with
  | a :: b :: _ => a == 48 && b == 120
  | _ => false
/-- Goes a word on? -/
def goesOn (r : List UInt8) : Bool := match r with
  | [] => false
  | c :: _ => wordB c
def numL (r : List UInt8) : Option (Nat × Nat) :=
  let off := if hexAhead r then 2 else 0
  match digitsOf (if hexAhead r then 16 else 10) 0 (r.drop off) with
  | none => none
  | some (v, k) => if k = 0 ∨ goesOn (r.drop (off + k)) = true then none else some (v, off + k)

def twoSigns : List (List UInt8) := [[38, 38], [124, 124], [61, 61], [33, 61], [60, 61], [62, 61]]
def oneSigns : List UInt8 := [123, 125, 40, 41, 44, 33, 38, 124, 60, 62]
def signL (r : List UInt8) : Nat := if twoSigns.contains (r.take 2) then 2 else match r with
  | [] => 0
  | c :: _ => if oneSigns.contains c then 1 else 0

def beginsL (t r : List UInt8) : Bool := r.take t.length == t
/-- How far to behind the end of a remark. -/
def endOf : List UInt8 → Option Nat
  | [] => none
  | c :: r => if beginsL [42, 47] (c :: r) then some 2 else (endOf r).map (· + 1)
def blankB (c : UInt8) : Bool := (c == 32) || ((c == 9) || ((c == 10) || (c == 13)))
/-- How many tell nothing; nothing: they don't end. -/
def skipL (r : List UInt8) : Option Nat := match r with
  | [] => some 0
  | c :: _ =>
    if blankB c then some 1
    else if beginsL [47, 47] r then some (runLen (fun x => !(x == 10)) r)
    else if beginsL [47, 42] r then (endOf (r.drop 2)).map (· + 2)
    else some 0

/-- A token: its kind, its text, how many bytes it takes. -/
def oneL (r : List UInt8) : Option (Int × List UInt8 × Nat) := match r with
  | [] => none
  | c :: t =>
    if letterB c then some (1, r.take (runLen wordB r), runLen wordB r)
    else if digB c then (numL r).map fun v => (2, r.take v.2, v.2)
    else if c = 34 then
      (match t.drop (runLen (fun x => !(x == 34) && !(x == 10)) t) with
      | 34 :: _ => some (4, t.take (runLen (fun x => !(x == 34) && !(x == 10)) t), runLen (fun x => !(x == 34) && !(x == 10)) t + 2)
      | _ => none)
    else if c = 35 then
      (if beginsL [35, 105, 110, 99, 108, 117, 100, 101] r && !goesOn (r.drop 8) then some (5, [35, 105, 110, 99, 108, 117, 100, 101], 8)
      else if beginsL [35, 100, 101, 102, 105, 110, 101] r && !goesOn (r.drop 7) then some (5, [35, 100, 101, 102, 105, 110, 101], 7)
      else none)
    else if signL r = 0 then none else some (3, r.take (signL r), signL r)

/-! ### Where a byte stands in what is left -/
theorem drop_at (s : ByteArray) (k : Nat) (h : k < s.size) : s.data.toList.drop k = s[k]'h :: s.data.toList.drop (k + 1) := by
  have hl : k < s.data.toList.length := by rw [Array.length_toList]; exact h
  rw [List.drop_eq_getElem_cons hl]
  rfl
theorem drop_end (s : ByteArray) (k : Nat) (h : s.size ≤ k) : s.data.toList.drop k = [] := List.drop_eq_nil_of_le (by rw [Array.length_toList]; exact h)
theorem run_le (p : UInt8 → Bool) : ∀ r : List UInt8, runLen p r ≤ r.length
  | [] => Nat.le_refl _
  | c :: r => by
    rw [runLen]
    split
    · have := run_le p r
      rw [List.length_cons]
      omega
    · exact Nat.zero_le _
theorem take_str (s : ByteArray) (i k : Nat) : s.extract i k = strOf ((s.data.toList.drop i).take (k - i)) := Go.Lib.extract_eq s i k

end Go.Proofs.YtogpicfofifbkaaDoor
