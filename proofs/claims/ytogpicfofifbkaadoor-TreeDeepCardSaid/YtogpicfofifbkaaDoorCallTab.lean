/- What the document's table of calls gives, as lists. -/
import Derived.Test.YtogpicfofifbkaaDoorStore
import Derived.Test.YtogpicfofifbkaaDoorStr
namespace Go.Proofs.YtogpicfofifbkaaDoor
open Go.RowKit

/-- A row of the table of calls; below 0: an architecture has none. -/
structure RowV where
  name : List UInt8
  params : List (List UInt8)
  amd : Int
  x86 : Int
  arm : Int

/-- A call of an architecture. -/
structure CallV where
  name : List UInt8
  nr : Int
  params : List (List UInt8)
  deriving DecidableEq

def callTab : List RowV := [⟨[98, 114, 107], [[97, 100, 100, 114]], 12, 45, 214⟩,
  ⟨[99, 108, 111, 115, 101], [[102, 100]], 3, 6, 57⟩,
  ⟨[100, 117, 112], [[102, 100]], 32, 41, 23⟩,
  ⟨[101, 120, 105, 116], [[99, 111, 100, 101]], 60, 1, 93⟩,
  ⟨[101, 120, 105, 116, 95, 103, 114, 111, 117, 112], [[99, 111, 100, 101]], 231, 252, 94⟩,
  ⟨[103, 101, 116, 112, 105, 100], [], 39, 20, 172⟩,
  ⟨[105, 111, 99, 116, 108], [[102, 100], [114, 101, 113, 117, 101, 115, 116], [97, 114, 103]], 16, 54, 29⟩,
  ⟨[107, 105, 108, 108], [[112, 105, 100], [115, 105, 103]], 62, 37, 129⟩,
  ⟨[109, 109, 97, 112], [[97, 100, 100, 114], [108, 101, 110], [112, 114, 111, 116], [102, 108, 97, 103, 115], [102, 100], [111, 102, 102]], 9, 90, 222⟩,
  ⟨[109, 112, 114, 111, 116, 101, 99, 116], [[97, 100, 100, 114], [108, 101, 110], [112, 114, 111, 116]], 10, 125, 226⟩,
  ⟨[109, 117, 110, 109, 97, 112], [[97, 100, 100, 114], [108, 101, 110]], 11, 91, 215⟩,
  ⟨[111, 112, 101, 110], [[112, 97, 116, 104], [102, 108, 97, 103, 115], [109, 111, 100, 101]], 2, 5, -1⟩,
  ⟨[111, 112, 101, 110, 97, 116], [[100, 105, 114], [112, 97, 116, 104], [102, 108, 97, 103, 115], [109, 111, 100, 101]], 257, 295, 56⟩,
  ⟨[112, 114, 99, 116, 108], [[111, 112, 116, 105, 111, 110], [97], [98], [99], [100]], 157, 172, 167⟩,
  ⟨[114, 101, 97, 100], [[102, 100], [98, 117, 102], [99, 111, 117, 110, 116]], 0, 3, 63⟩,
  ⟨[115, 111, 99, 107, 101, 116], [[102, 97, 109, 105, 108, 121], [116, 121, 112, 101], [112, 114, 111, 116, 111, 99, 111, 108]], 41, 359, 198⟩,
  ⟨[119, 114, 105, 116, 101], [[102, 100], [98, 117, 102], [99, 111, 117, 110, 116]], 1, 4, 64⟩]

def armB : List UInt8 := [97, 97, 114, 99, 104, 54, 52]
def x86B : List UInt8 := [105, 51, 56, 54]
def amdB : List UInt8 := [120, 56, 54, 95, 54, 52]

/-- The number of a row's call there; below 0, if there is none. -/
def selOf (s : List UInt8) (r : RowV) : Int := if s = armB then r.arm else if s = x86B then r.x86 else if s = amdB then r.amd else -1
def callsIn (s : List UInt8) (l : List RowV) : List CallV := (l.filter fun r => decide (0 ≤ selOf s r)).map fun r => ⟨r.name, selOf s r, r.params⟩
def callsOf (s : List UInt8) : List CallV := callsIn s callTab
def noCall : CallV := ⟨[], 0, []⟩
def findOf (s n : List UInt8) : CallV × Bool := match (callsOf s).find? fun c => decide (c.name = n) with
  | some c => (c, true)
  | none => (noCall, false)
def numberOf (s : List UInt8) : Int × Bool := if s = armB then (3221225655, true) else if s = x86B then (1073741827, true) else if s = amdB then (3221225534, true) else (0, false)
def valueOf (k d : Int) : Int × Bool :=
  if k = 3 ∨ k = 4 ∨ k = 5 then (if 0 ≤ d ∧ d ≤ 65535 then ((if k = 3 then 196608 else if k = 4 then 327680 else 2146435072) + d, true) else (0, false))
  else if k = 1 ∨ k = 2 ∨ k = 6 ∨ k = 7 then (if d = 0 then (if k = 1 then 2147483648 else if k = 2 then 0 else if k = 6 then 2147221504 else 2147418112, true) else (0, false))
  else (0, false)

theorem tab_row (k : Nat) (h : k < 17) : ∃ r, callTab[k]? = some r ∧ callTab.drop k = r :: callTab.drop (k + 1) :=
  ⟨callTab[k], List.getElem?_eq_getElem h, List.drop_eq_getElem_cons h⟩

/-! ### Calls as cells -/
/-- A call, and where its params lie. -/
abbrev Placed := CallV × Option Addr × Nat
def callVals (p : Placed) : List Value := [.string (strOf p.1.name), .int .u32 p.1.nr, .slice p.2.1 p.1.params.length p.2.2]
def ParamsLie (w : World) (B : Nat) (p : Placed) : Prop := Lies w B 1 p.2.1 p.1.params.length (strsV p.1.params) ∧ p.1.params.length ≤ p.2.2
def CallsLie (w : World) (B : Nat) (A : Option Addr) (n : Nat) (ps : List Placed) : Prop := Lies w B 3 A n (ps.flatMap callVals) ∧ ∀ p ∈ ps, ParamsLie w B p

theorem ParamsLie.below {w w' : World} {B : Nat} {p : Placed} (h : ParamsLie w B p) (hb : Below B w w') : ParamsLie w' B p := ⟨h.1.below hb, h.2⟩
theorem ParamsLie.wider {w : World} {B B' : Nat} {p : Placed} (h : ParamsLie w B p) (hB : B ≤ B') : ParamsLie w B' p := ⟨h.1.wider hB, h.2⟩
theorem CallsLie.below {w w' : World} {B n : Nat} {A : Option Addr} {ps : List Placed} (h : CallsLie w B A n ps) (hb : Below B w w') : CallsLie w' B A n ps := ⟨h.1.below hb, fun p hp => (h.2 p hp).below hb⟩
theorem CallsLie.wider {w : World} {B B' n : Nat} {A : Option Addr} {ps : List Placed} (h : CallsLie w B A n ps) (hB : B ≤ B') : CallsLie w B' A n ps := ⟨h.1.wider hB, fun p hp => (h.2 p hp).wider hB⟩

theorem callVals_len (ps : List Placed) : (ps.flatMap callVals).length = ps.length * 3 := by
  induction ps with
  | nil => rfl
  | cons p ps ih => simp [callVals] at ih ⊢; omega

theorem callVals_at : ∀ (ps : List Placed) (k : Nat) (p : Placed), ps[k]? = some p →
    (ps.flatMap callVals)[k * 3]? = some (.string (strOf p.1.name)) ∧ (ps.flatMap callVals)[k * 3 + 1]? = some (.int .u32 p.1.nr) ∧ (ps.flatMap callVals)[k * 3 + 2]? = some (.slice p.2.1 p.1.params.length p.2.2)
  | [], k, p, h => by simp at h
  | q :: ps, 0, p, h => by
    obtain rfl : q = p := by simpa using h
    exact ⟨rfl, rfl, rfl⟩
  | q :: ps, k + 1, p, h => by
    obtain ⟨h0, h1, h2⟩ := callVals_at ps k p (by simpa using h)
    have e : ∀ j, ((q :: ps).flatMap callVals)[(k + 1) * 3 + j]? = (ps.flatMap callVals)[k * 3 + j]? := fun j => by
      rw [List.flatMap_cons, List.getElem?_append_right (by simp [callVals]; omega)]
      congr 1
      simp [callVals]
      omega
    exact ⟨(e 0).trans h0, (e 1).trans h1, (e 2).trans h2⟩

/-- What a function that hands back a text's number and a bool gives. -/
def U32Bool (t : Int × Bool) (w : World) : Ending → World → Prop := fun r w' => r = .returned (.tuple #[.int .u32 t.1, .bool t.2]) ∧ Below w.heap.size w w'
/-- Calls, each where it lies. -/
def NewCalls (l : List CallV) (w : World) : Ending → World → Prop :=
  fun r w' => ∃ A c ps, r = .returned (.slice A l.length c) ∧ l.length ≤ c ∧ ps.map Prod.fst = l ∧ CallsLie w' w'.heap.size A l.length ps ∧ Below w.heap.size w w'
/-- One call, and where its params lie. -/
def OneCall (t : CallV × Bool) (w : World) : Ending → World → Prop :=
  fun r w' => ∃ P c, r = .returned (.tuple #[.agg #[.string (strOf t.1.name), .int .u32 t.1.nr, .slice P t.1.params.length c], .bool t.2]) ∧ ParamsLie w' w'.heap.size (t.1, P, c) ∧ Below w.heap.size w w'

end Go.Proofs.YtogpicfofifbkaaDoor
