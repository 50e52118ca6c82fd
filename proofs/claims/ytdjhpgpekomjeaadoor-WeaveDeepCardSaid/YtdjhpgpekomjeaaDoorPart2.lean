/- Texts of mine put together (a claim has at most so many files): Letters, TokBytes, TokNum, TokSkip, TokSign. -/
import Derived.Test.YtdjhpgpekomjeaaDoorPart1
import Derived.Test.YtdjhpgpekomjeaaDoorChecked
import Derived.Lib.Hide
import Derived.BigQuiet
import Derived.Deep.DeepCutAuto
import Derived.Deep.CutBlock
/- What the document's own tests of letters and digits give. -/
namespace Go.Proofs.YtdjhpgpekomjeaaDoor
open Go.RowKit

/-- A value, and nothing turns. -/
def Plainly (v : Value) (w : World) : Ending → World → Prop := fun r w' => r = .returned v ∧ w = w'
/-- A value; the memory stands. -/
def Quietly (v : Value) (w : World) : Ending → World → Prop := fun r w' => r = .returned v ∧ Below w.heap.size w w'
theorem to_quiet {P : Program} {f : Nat} {vs : Array Value} {v : Value} {w : World} (h : Calls P f vs w (Plainly v w)) : Calls P f vs w (Quietly v w) := h.mono fun _ _ ⟨h1, h2⟩ => ⟨h1, h2 ▸ Below.refl _ _⟩

end Go.Proofs.YtdjhpgpekomjeaaDoor

/- What the document's own tests of bytes and signs give. -/
namespace Go.Proofs.YtdjhpgpekomjeaaDoor
open Go.RowKit

end Go.Proofs.YtdjhpgpekomjeaaDoor

/- What the document's own Num gives. -/
namespace Go.Proofs.YtdjhpgpekomjeaaDoor
open Go.RowKit

theorem hex_bd (c : UInt8) : -1 ≤ hexOf c ∧ hexOf c ≤ 15 := by
  unfold hexOf
  split
  · rename_i h
    have : 48 ≤ (c.toNat : Int) ∧ (c.toNat : Int) ≤ 57 := by simpa [digB] using h
    omega
  split
  · omega
  split
  · omega
  · omega

theorem digits_no {base n : Nat} {c : UInt8} {r : List UInt8} (h : isHex base c = false) : digitsOf base n (c :: r) = some (n, 0) := by rw [digitsOf, if_neg (by rw [h]; decide)]
theorem digits_far {base n : Nat} {c : UInt8} {r : List UInt8} (h : isHex base c = true) (hn : (18446744073709551615 - (hexOf c).toNat) / base < n) : digitsOf base n (c :: r) = none := by rw [digitsOf, if_pos h, if_pos hn]
theorem digits_on {base n : Nat} {c : UInt8} {r : List UInt8} (h : isHex base c = true) (hn : ¬ (18446744073709551615 - (hexOf c).toNat) / base < n) : digitsOf base n (c :: r) = (digitsOf base (n * base + (hexOf c).toNat) r).map fun t => (t.1, t.2 + 1) := by rw [digitsOf, if_pos h, if_neg hn]

/-- What a function that hands back a number, a place and a bool gives. -/
def NumPlace (t : Option (Nat × Nat)) (at0 : Nat) (w : World) : Ending → World → Prop := fun r w' => r = .returned (match t with
  | none => .tuple #[.int .u64 0, .int .i64 0, .bool false]
  | some v => .tuple #[.int .u64 (v.1 : Int), .int .i64 ((at0 + v.2 : Nat) : Int), .bool true]) ∧ w = w'

/-- What Num's second part gives: from the digits on. -/
def numFrom (base : Nat) (r : List UInt8) : Option (Nat × Nat) := match digitsOf base 0 r with
  | none => none
  | some (v, k) => if k = 0 ∨ goesOn (r.drop k) = true then none else some (v, k)
theorem num_is (r : List UInt8) : numL r = (numFrom (if hexAhead r then 16 else 10) (r.drop (if hexAhead r then 2 else 0))).map fun v => (v.1, (if hexAhead r then 2 else 0) + v.2) := by
  unfold numL numFrom
  dsimp only
  generalize (if hexAhead r then 2 else 0) = off
  cases digitsOf (if hexAhead r then 16 else 10) 0 (r.drop off) with
  | none => rfl
  | some t =>
    obtain ⟨v, k⟩ := t
    dsimp only
    rw [List.drop_drop]
    by_cases hk : k = 0 ∨ goesOn (r.drop (off + k)) = true
    · rw [if_pos hk, if_pos hk]
      rfl
    · rw [if_neg hk, if_neg hk]
      rfl

/-- Where the digits' loop stands. -/
def Digits (s : ByteArray) (base i : Nat) (w : World) (n k : Value) (wr : World) : Prop :=
  ∃ (m q : Nat), i ≤ m ∧ m ≤ s.size ∧ k = .int .i64 m ∧ n = .int .u64 q ∧ q ≤ 18446744073709551615 ∧ Hid (digitsOf base 0 (s.data.toList.drop i) = (digitsOf base q (s.data.toList.drop m)).map fun t => (t.1, t.2 + (m - i))) ∧ wr = w

end Go.Proofs.YtdjhpgpekomjeaaDoor

/- What the document's own skip gives. -/
namespace Go.Proofs.YtdjhpgpekomjeaaDoor
open Go.RowKit

/-- What a function that hands back a place and a bool gives. -/
def PlaceBool (t : Option Nat) (at0 : Nat) (w : World) : Ending → World → Prop := fun r w' => r = .returned (match t with
  | none => .tuple #[.int .i64 0, .bool false]
  | some n => .tuple #[.int .i64 ((at0 + n : Nat) : Int), .bool true]) ∧ w = w'

theorem run_no (p : UInt8 → Bool) {c : UInt8} {r : List UInt8} (h : p c = false) : runLen p (c :: r) = 0 := by rw [runLen, if_neg (by rw [h]; decide)]
theorem run_on (p : UInt8 → Bool) {c : UInt8} {r : List UInt8} (h : p c = true) : runLen p (c :: r) = runLen p r + 1 := by rw [runLen, if_pos h]

theorem skip_blank {c : UInt8} {r : List UInt8} (h : blankB c = true) : skipL (c :: r) = some 1 := by
  unfold skipL
  dsimp only
  rw [if_pos h]
theorem skip_line {c : UInt8} {r : List UInt8} (h : blankB c = false) (h1 : beginsL [47, 47] (c :: r) = true) : skipL (c :: r) = some (runLen (fun x => !(x == 10)) (c :: r)) := by
  unfold skipL
  dsimp only
  rw [if_neg (by rw [h]; decide), if_pos h1]
theorem skip_far {c : UInt8} {r : List UInt8} (h : blankB c = false) (h1 : beginsL [47, 47] (c :: r) = false) (h2 : beginsL [47, 42] (c :: r) = true) : skipL (c :: r) = (endOf ((c :: r).drop 2)).map (· + 2) := by
  unfold skipL
  dsimp only
  rw [if_neg (by rw [h]; decide), if_neg (by rw [h1]; decide), if_pos h2]
theorem skip_no {c : UInt8} {r : List UInt8} (h : blankB c = false) (h1 : beginsL [47, 47] (c :: r) = false) (h2 : beginsL [47, 42] (c :: r) = false) : skipL (c :: r) = some 0 := by
  unfold skipL
  dsimp only
  rw [if_neg (by rw [h]; decide), if_neg (by rw [h1]; decide), if_neg (by rw [h2]; decide)]

end Go.Proofs.YtdjhpgpekomjeaaDoor

/- What the document's own sign gives. -/
namespace Go.Proofs.YtdjhpgpekomjeaaDoor
open Go.RowKit

theorem sign_two {r : List UInt8} (h : twoSigns.contains (r.take 2) = true) : signL r = 2 := by unfold signL; rw [if_pos h]
theorem sign_one {r t : List UInt8} {c : UInt8} (h : twoSigns.contains (r.take 2) = false) (hr : r = c :: t) : signL r = if oneSigns.contains c then 1 else 0 := by
  unfold signL
  rw [if_neg (by rw [h]; decide), hr]

end Go.Proofs.YtdjhpgpekomjeaaDoor
