/- Texts of mine put together (a claim has at most so many files): CallTab, TreePlain. -/
import Derived.Test.YtfklajkmikanbaaGreatDoorPart2
import Derived.Test.YtfklajkmikanbaaGreatDoorUnits
/- What the document's table of calls gives, as lists. -/
namespace Go.Proofs.YtfklajkmikanbaaGreatDoor
open Go.RowKit

/-- A row of the table of calls; below 0: an architecture has none. -/
structure RowV where
  name : List UInt8
  params : List (List UInt8)
  amd : Int
  x86 : Int
  arm : Int

/-- A call of an architecture. -/
structure CallV where
  name : List UInt8
  nr : Int
  params : List (List UInt8)
  deriving DecidableEq

def callTab : List RowV := [⟨[98, 114, 107], [[97, 100, 100, 114]], 12, 45, 214⟩,
  ⟨[99, 108, 111, 115, 101], [[102, 100]], 3, 6, 57⟩,
  ⟨[100, 117, 112], [[102, 100]], 32, 41, 23⟩,
  ⟨[101, 120, 105, 116], [[99, 111, 100, 101]], 60, 1, 93⟩,
  ⟨[101, 120, 105, 116, 95, 103, 114, 111, 117, 112], [[99, 111, 100, 101]], 231, 252, 94⟩,
  ⟨[103, 101, 116, 112, 105, 100], [], 39, 20, 172⟩,
  ⟨[105, 111, 99, 116, 108], [[102, 100], [114, 101, 113, 117, 101, 115, 116], [97, 114, 103]], 16, 54, 29⟩,
  ⟨[107, 105, 108, 108], [[112, 105, 100], [115, 105, 103]], 62, 37, 129⟩,
  ⟨[109, 109, 97, 112], [[97, 100, 100, 114], [108, 101, 110], [112, 114, 111, 116], [102, 108, 97, 103, 115], [102, 100], [111, 102, 102]], 9, 90, 222⟩,
  ⟨[109, 112, 114, 111, 116, 101, 99, 116], [[97, 100, 100, 114], [108, 101, 110], [112, 114, 111, 116]], 10, 125, 226⟩,
  ⟨[109, 117, 110, 109, 97, 112], [[97, 100, 100, 114], [108, 101, 110]], 11, 91, 215⟩,
  ⟨[111, 112, 101, 110], [[112, 97, 116, 104], [102, 108, 97, 103, 115], [109, 111, 100, 101]], 2, 5, -1⟩,
  ⟨[111, 112, 101, 110, 97, 116], [[100, 105, 114], [112, 97, 116, 104], [102, 108, 97, 103, 115], [109, 111, 100, 101]], 257, 295, 56⟩,
  ⟨[112, 114, 99, 116, 108], [[111, 112, 116, 105, 111, 110], [97], [98], [99], [100]], 157, 172, 167⟩,
  ⟨[114, 101, 97, 100], [[102, 100], [98, 117, 102], [99, 111, 117, 110, 116]], 0, 3, 63⟩,
  ⟨[115, 111, 99, 107, 101, 116], [[102, 97, 109, 105, 108, 121], [116, 121, 112, 101], [112, 114, 111, 116, 111, 99, 111, 108]], 41, 359, 198⟩,
  ⟨[119, 114, 105, 116, 101], [[102, 100], [98, 117, 102], [99, 111, 117, 110, 116]], 1, 4, 64⟩]

def armB : List UInt8 := [97, 97, 114, 99, 104, 54, 52]
def x86B : List UInt8 := [105, 51, 56, 54]
def amdB : List UInt8 := [120, 56, 54, 95, 54, 52]

/-- The number of a row's call there; below 0, if there is none. -/
def selOf (s : List UInt8) (r : RowV) : Int := if s = armB then r.arm else if s = x86B then r.x86 else if s = amdB then r.amd else -1
def callsIn (s : List UInt8) (l : List RowV) : List CallV := (l.filter fun r => decide (0 ≤ selOf s r)).map fun r => ⟨r.name, selOf s r, r.params⟩
def callsOf (s : List UInt8) : List CallV := callsIn s callTab
def noCall : CallV := ⟨[], 0, []⟩
def findOf (s n : List UInt8) : CallV × Bool := match (callsOf s).find? fun c => decide (c.name = n) with
  | some c => (c, true)
  | none => (noCall, false)
def numberOf (s : List UInt8) : Int × Bool := if s = armB then (3221225655, true) else if s = x86B then (1073741827, true) else if s = amdB then (3221225534, true) else (0, false)
def valueOf (k d : Int) : Int × Bool :=
  if k = 3 ∨ k = 4 ∨ k = 5 then (if 0 ≤ d ∧ d ≤ 65535 then ((if k = 3 then 196608 else if k = 4 then 327680 else 2146435072) + d, true) else (0, false))
  else if k = 1 ∨ k = 2 ∨ k = 6 ∨ k = 7 then (if d = 0 then (if k = 1 then 2147483648 else if k = 2 then 0 else if k = 6 then 2147221504 else 2147418112, true) else (0, false))
  else (0, false)

theorem tab_row (k : Nat) (h : k < 17) : ∃ r, callTab[k]? = some r ∧ callTab.drop k = r :: callTab.drop (k + 1) :=
  ⟨callTab[k], List.getElem?_eq_getElem h, List.drop_eq_getElem_cons h⟩

/-! ### Calls as cells -/
/-- A call, and where its params lie. -/
abbrev Placed := CallV × Option Addr × Nat
def callVals (p : Placed) : List Value := [.string (strOf p.1.name), .int .u32 p.1.nr, .slice p.2.1 p.1.params.length p.2.2]
def ParamsLie (w : World) (B : Nat) (p : Placed) : Prop := Lies w B 1 p.2.1 p.1.params.length (strsV p.1.params) ∧ p.1.params.length ≤ p.2.2
def CallsLie (w : World) (B : Nat) (A : Option Addr) (n : Nat) (ps : List Placed) : Prop := Lies w B 3 A n (ps.flatMap callVals) ∧ ∀ p ∈ ps, ParamsLie w B p

theorem ParamsLie.below {w w' : World} {B : Nat} {p : Placed} (h : ParamsLie w B p) (hb : Below B w w') : ParamsLie w' B p := ⟨h.1.below hb, h.2⟩
theorem ParamsLie.wider {w : World} {B B' : Nat} {p : Placed} (h : ParamsLie w B p) (hB : B ≤ B') : ParamsLie w B' p := ⟨h.1.wider hB, h.2⟩
theorem CallsLie.below {w w' : World} {B n : Nat} {A : Option Addr} {ps : List Placed} (h : CallsLie w B A n ps) (hb : Below B w w') : CallsLie w' B A n ps := ⟨h.1.below hb, fun p hp => (h.2 p hp).below hb⟩
theorem CallsLie.wider {w : World} {B B' n : Nat} {A : Option Addr} {ps : List Placed} (h : CallsLie w B A n ps) (hB : B ≤ B') : CallsLie w B' A n ps := ⟨h.1.wider hB, fun p hp => (h.2 p hp).wider hB⟩

theorem callVals_len (ps : List Placed) : (ps.flatMap callVals).length = ps.length * 3 := by
  induction ps with
  | nil => rfl
  | cons p ps ih => simp [callVals] at ih ⊢; omega

theorem callVals_at : ∀ (ps : List Placed) (k : Nat) (p : Placed), ps[k]? = some p →
    (ps.flatMap callVals)[k * 3]? = some (.string (strOf p.1.name)) ∧ (ps.flatMap callVals)[k * 3 + 1]? = some (.int .u32 p.1.nr) ∧ (ps.flatMap callVals)[k * 3 + 2]? = some (.slice p.2.1 p.1.params.length p.2.2)
  | [], k, p, h => by simp at h
  | q :: ps, 0, p, h => by
    obtain rfl : q = p := by simpa using h
    exact ⟨rfl, rfl, rfl⟩
  | q :: ps, k + 1, p, h => by
    obtain ⟨h0, h1, h2⟩ := callVals_at ps k p (by simpa using h)
    have e : ∀ j, ((q :: ps).flatMap callVals)[(k + 1) * 3 + j]? = (ps.flatMap callVals)[k * 3 + j]? := fun j => by
      rw [List.flatMap_cons, List.getElem?_append_right (by simp [callVals]; omega)]
      congr 1
      simp [callVals]
      omega
    exact ⟨(e 0).trans h0, (e 1).trans h1, (e 2).trans h2⟩

/-- What a function that hands back a text's number and a bool gives. -/
def U32Bool (t : Int × Bool) (w : World) : Ending → World → Prop := fun r w' => r = .returned (.tuple #[.int .u32 t.1, .bool t.2]) ∧ Below w.heap.size w w'
/-- Calls, each where it lies. -/
def NewCalls (l : List CallV) (w : World) : Ending → World → Prop :=
  fun r w' => ∃ A c ps, r = .returned (.slice A l.length c) ∧ l.length ≤ c ∧ ps.map Prod.fst = l ∧ CallsLie w' w'.heap.size A l.length ps ∧ Below w.heap.size w w'
/-- One call, and where its params lie. -/
def OneCall (t : CallV × Bool) (w : World) : Ending → World → Prop :=
  fun r w' => ∃ P c, r = .returned (.tuple #[.agg #[.string (strOf t.1.name), .int .u32 t.1.nr, .slice P t.1.params.length c], .bool t.2]) ∧ ParamsLie w' w'.heap.size (t.1, P, c) ∧ Below w.heap.size w w'

end Go.Proofs.YtfklajkmikanbaaGreatDoor

/- What may be a name, a number, a condition, a unit; which two are one: plain functions. -/
namespace Go.Proofs.YtfklajkmikanbaaGreatDoor
open Go.RowKit

/-- Words that are no names. -/
def barred : List (List UInt8) := [[80, 79, 76, 73, 67, 89], [85, 83, 69], [68, 69, 70, 65, 85, 76, 84], [65, 76, 76, 79, 87], [76, 79, 71], [75, 73, 76, 76], [75, 73, 76, 76, 95, 80, 82, 79, 67, 69, 83, 83], [84, 82, 65, 80], [69, 82, 82, 78, 79], [84, 82, 65, 67, 69]]
def nameL : List UInt8 → Bool
  | [] => false
  | c :: r => letterB c && (c :: r).all wordB && !(barred.any (· == c :: r))
def nameOk (s : ByteArray) : Bool := nameL s.data.toList
def emptyB (s : ByteArray) : Bool := s.toList == []
def primOk : Ex → Bool
  | .node kd op nm nu _ _ ks =>
    if kd = 7 then emptyB op && (emptyB nm && ks.isEmpty)
    else if kd = 5 then emptyB op && (nameOk nm && (nu == 0 && ks.isEmpty))
    else false
def numOk : Ex → Bool
  | .node kd op nm nu A c ks =>
    if kd = 8 then emptyB op && (emptyB nm && (nu == 0 && match ks with
      | [a, b] => numOk a && primOk b
      | _ => false))
    else primOk (.node kd op nm nu A c ks)
theorem num_prim {kd : Int} {op nm : ByteArray} {nu : Int} {A : Option Addr} {c : Nat} {ks : List Ex} (h : kd ≠ 8) : numOk (.node kd op nm nu A c ks) = primOk (.node kd op nm nu A c ks) := by
  conv => lhs; unfold numOk
  rw [if_neg h]
theorem num_no {op nm : ByteArray} {nu : Int} {A : Option Addr} {c : Nat} {ks : List Ex} (h : emptyB op = false ∨ emptyB nm = false ∨ nu ≠ 0 ∨ ks.length ≠ 2) : numOk (.node 8 op nm nu A c ks) = false := by
  unfold numOk
  rw [if_pos rfl]
  rcases h with h | h | h | h
  · rw [h]; rfl
  · rw [h]; simp
  · rw [beq_eq_false_iff_ne.2 h]; simp
  · match ks, h with
    | [], _ => simp
    | [_], _ => simp
    | [_, _], h => exact absurd rfl h
    | _ :: _ :: _ :: _, _ => simp
theorem num_two {op nm : ByteArray} {A : Option Addr} {c : Nat} {a b : Ex} (h1 : emptyB op = true) (h2 : emptyB nm = true) : numOk (.node 8 op nm 0 A c [a, b]) = (numOk a && primOk b) := by
  conv => lhs; unfold numOk
  rw [if_pos rfl, h1, h2]
  rfl
/-- A comparison's sign; 0: none. -/
def opOf (s : List UInt8) : Int :=
  if s = [61, 61] then 1 else if s = [33, 61] then 2 else if s = [60] then 3 else if s = [60, 61] then 4 else if s = [62] then 5 else if s = [62, 61] then 6 else 0
def maskOk : Ex → Bool
  | .node kd op nm nu A c ks =>
    if kd = 5 then primOk (.node kd op nm nu A c ks)
    else kd == 6 && (emptyB op && (nameOk nm && (nu == 0 && match ks with
      | [a] => primOk a
      | _ => false)))
def boolOk : Ex → Bool
  | .node kd op nm nu _ _ ks =>
    if emptyB nm = false ∨ nu ≠ 0 then false
    else if kd = 1 ∨ kd = 2 then emptyB op && match ks with
      | [a, b] => boolOk a && boolOk b
      | _ => false
    else if kd = 3 then emptyB op && match ks with
      | [a] => boolOk a
      | _ => false
    else if kd = 4 then match ks with
      | [a, b] => opOf op.data.toList != 0 && (numOk b && maskOk a)
      | _ => false
    else false
section
variable {kd nu : Int} {op nm : ByteArray} {A : Option Addr} {c : Nat} {ks : List Ex} {a b : Ex}
theorem bool_none (h : emptyB nm = false ∨ nu ≠ 0) : boolOk (.node kd op nm nu A c ks) = false := by
  unfold boolOk
  rw [if_pos h]
theorem bool_kind (h1 : emptyB nm = true) (h : kd ≠ 1 ∧ kd ≠ 2 ∧ kd ≠ 3 ∧ kd ≠ 4) : boolOk (.node kd op nm 0 A c ks) = false := by
  unfold boolOk
  rw [if_neg (by rw [h1]; simp), if_neg (by omega), if_neg (by omega), if_neg (by omega)]
theorem bool_or_no (h1 : emptyB nm = true) (hk : kd = 1 ∨ kd = 2) (h : emptyB op = false ∨ ks.length ≠ 2) : boolOk (.node kd op nm 0 A c ks) = false := by
  unfold boolOk
  rw [if_neg (by rw [h1]; simp), if_pos hk]
  rcases h with h | h
  · rw [h]; rfl
  · match ks, h with
    | [], _ => simp
    | [_], _ => simp
    | [_, _], h => exact absurd rfl h
    | _ :: _ :: _ :: _, _ => simp
theorem bool_or (h1 : emptyB nm = true) (hk : kd = 1 ∨ kd = 2) (h : emptyB op = true) : boolOk (.node kd op nm 0 A c [a, b]) = (boolOk a && boolOk b) := by
  conv => lhs; unfold boolOk
  rw [if_neg (by rw [h1]; simp), if_pos hk, h]
  rfl
theorem bool_not_no (h1 : emptyB nm = true) (h : emptyB op = false ∨ ks.length ≠ 1) : boolOk (.node 3 op nm 0 A c ks) = false := by
  unfold boolOk
  rw [if_neg (by rw [h1]; simp), if_neg (by decide), if_pos rfl]
  rcases h with h | h
  · rw [h]; rfl
  · match ks, h with
    | [], _ => simp
    | [_], h => exact absurd rfl h
    | _ :: _ :: _, _ => simp
theorem bool_not (h1 : emptyB nm = true) (h : emptyB op = true) : boolOk (.node 3 op nm 0 A c [a]) = boolOk a := by
  conv => lhs; unfold boolOk
  rw [if_neg (by rw [h1]; simp), if_neg (by decide), if_pos rfl, h]
  rfl
theorem bool_cmp_no (h1 : emptyB nm = true) (h : ks.length ≠ 2 ∨ opOf op.data.toList = 0) : boolOk (.node 4 op nm 0 A c ks) = false := by
  unfold boolOk
  rw [if_neg (by rw [h1]; simp), if_neg (by decide), if_neg (by decide), if_pos rfl]
  match ks, h with
  | [], _ => rfl
  | [_], _ => rfl
  | [_, _], h =>
    rcases h with h | h
    · exact absurd rfl h
    · simp [h]
  | _ :: _ :: _ :: _, _ => rfl
theorem bool_cmp (h1 : emptyB nm = true) (h : opOf op.data.toList ≠ 0) : boolOk (.node 4 op nm 0 A c [a, b]) = (numOk b && maskOk a) := by
  conv => lhs; unfold boolOk
  rw [if_neg (by rw [h1]; simp), if_neg (by decide), if_neg (by decide), if_pos rfl]
  simp [h]
theorem mask_name : maskOk (.node 5 op nm nu A c ks) = primOk (.node 5 op nm nu A c ks) := by
  unfold maskOk
  simp only [if_true]
theorem mask_no (h5 : kd ≠ 5) (h : kd ≠ 6 ∨ emptyB op = false ∨ nameOk nm = false ∨ nu ≠ 0 ∨ ks.length ≠ 1) : maskOk (.node kd op nm nu A c ks) = false := by
  unfold maskOk
  simp only
  rw [if_neg h5]
  rcases h with h | h | h | h | h
  · rw [beq_eq_false_iff_ne.2 h]; rfl
  · rw [h]; simp
  · rw [h]; simp
  · rw [beq_eq_false_iff_ne.2 h]; simp
  · match ks, h with
    | [], _ => simp
    | [_], h => exact absurd rfl h
    | _ :: _ :: _, _ => simp
theorem mask_one (h1 : emptyB op = true) (h2 : nameOk nm = true) : maskOk (.node 6 op nm 0 A c [a]) = primOk a := by
  unfold maskOk
  simp only
  rw [if_neg (by decide), h1, h2]
  rfl
end
mutual
def depthOf : Ex → Nat
  | .node _ _ _ _ _ _ ks => depthsOf 0 ks + 1
def depthsOf (n : Nat) : List Ex → Nat
  | [] => n
  | k :: r => depthsOf (if n < depthOf k then depthOf k else n) r
end
theorem depths_snoc : ∀ (l : List Ex) (n : Nat) (x : Ex), depthsOf n (l ++ [x]) = if depthsOf n l < depthOf x then depthOf x else depthsOf n l
  | [], n, x => rfl
  | y :: l, n, x => by
    rw [List.cons_append]
    unfold depthsOf
    exact depths_snoc l _ x
theorem depths_ge : ∀ (l : List Ex) (n : Nat), n ≤ depthsOf n l ∧ ∀ k ∈ l, depthOf k ≤ depthsOf n l
  | [], n => ⟨Nat.le_refl _, fun k h => by cases h⟩
  | y :: l, n => by
    unfold depthsOf
    obtain ⟨h1, h2⟩ := depths_ge l (if n < depthOf y then depthOf y else n)
    refine ⟨?_, fun k hk => ?_⟩
    · split at h1 <;> rename_i h <;> simp only [h, if_true, if_false] <;> omega
    · rcases List.mem_cons.1 hk with rfl | hk
      · split at h1 <;> rename_i h <;> simp only [h, if_true, if_false] <;> omega
      · exact h2 k hk
theorem depths_take (l : List Ex) (n k : Nat) : depthsOf n (l.take k) ≤ depthsOf n l := by
  have : ∀ (a b : List Ex) (n : Nat), depthsOf n a ≤ depthsOf n (a ++ b) := by
    intro a
    induction a with
    | nil => intro b n; exact (depths_ge b n).1
    | cons x a ih =>
      intro b n
      rw [List.cons_append]
      unfold depthsOf
      exact ih b _
  have h := this (l.take k) (l.drop k) n
  rwa [List.take_append_drop] at h
theorem depth_node {kd nu : Int} {op nm : ByteArray} {A : Option Addr} {c : Nat} {ks : List Ex} : depthOf (.node kd op nm nu A c ks) = depthsOf 0 ks + 1 := by unfold depthOf; rfl
mutual
def sameEx : Ex → Ex → Bool
  | .node kd op nm nu _ _ ks, .node kd' op' nm' nu' _ _ ks' => kd == kd' && (op.toList == op'.toList && (nm.toList == nm'.toList && (nu == nu' && (ks.length == ks'.length && samesEx ks ks'))))
def samesEx : List Ex → List Ex → Bool
  | [], _ => true
  | _ :: _, [] => true
  | a :: r, b :: t => sameEx a b && samesEx r t
end
def ruleOk (r : Rul) : Bool := nameOk r.call && (r.params.all nameOk && match r.cond with
  | [] => true
  | [e] => boolOk e && decide (depthOf e ≤ 30)
  | _ => false)
def partOk (p : Par) : Bool :=
  if emptyB p.use = false then nameOk p.use && (p.kind == 0 && (p.data == 0 && p.rules.isEmpty))
  else (valueOf p.kind p.data).2 && p.rules.all ruleOk
def rightOk (u : Unt) : Bool :=
  u.defs.all (fun d => nameOk d.name && numOk d.ex) && (u.pols.all (fun p => nameOk p.name && p.parts.all partOk) && ((valueOf u.kind u.data).2 && (!u.main.isEmpty && u.main.all nameOk)))
/-- Two lists, element by element. -/
def alikes {α : Type} (f : α → α → Bool) : List α → List α → Bool
  | [], [] => true
  | a :: r, b :: t => f a b && alikes f r t
  | _, _ => false
def sameStr (a b : ByteArray) : Bool := a.toList == b.toList
def sameRul (a b : Rul) : Bool := sameStr a.call b.call && (alikes sameStr a.params b.params && alikes sameEx a.cond b.cond)
def samePar (a b : Par) : Bool := sameStr a.use b.use && (a.kind == b.kind && (a.data == b.data && alikes sameRul a.rules b.rules))
def samePol (a b : Pol) : Bool := sameStr a.name b.name && alikes samePar a.parts b.parts
def sameDfn (a b : Dfn) : Bool := sameStr a.name b.name && sameEx a.ex b.ex
def sameUnt (a b : Unt) : Bool := alikes sameDfn a.defs b.defs && (alikes samePol a.pols b.pols && (alikes sameStr a.main b.main && (a.kind == b.kind && a.data == b.data)))

/-- Names and kids of no great size. -/
inductive ExSmall : Ex → Prop
  | mk {kd : Int} {op nm : ByteArray} {nu : Int} {A : Option Addr} {c : Nat} {ks : List Ex} (ho : op.size ≤ 1048576) (hn : nm.size ≤ 1048576) (hk : ks.length ≤ 1048576) (all : ∀ k ∈ ks, ExSmall k) : ExSmall (.node kd op nm nu A c ks)
theorem ExIn.next {w w' : World} {e : Ex} (h : ExIn w w.heap.size e) (hb : Below w.heap.size w w') : ExIn w' w'.heap.size e := (h.keep hb).wider hb.size
theorem boxed (w : World) (o : Obj) : Below w.heap.size w (w.alloc o) := (Below.refl _ _).alloc (Nat.le_refl _) _
theorem unbox {w w1 : World} {o : Obj} (hb : Below (w.alloc o).heap.size (w.alloc o) w1) : Below w.heap.size w w1 := below_step (boxed w o) (Nat.le_refl _) hb
theorem box_ex {w : World} {g : Nat} {t : TypeId} {kd nu : Int} {op nm : ByteArray} {A : Option Addr} {n c : Nat} (h : Box w g t #[.int .i64 kd, .string op, .string nm, .int .u64 nu, .slice A n c]) :
    w.cell? ⟨g, 0, none⟩ = some (.int .i64 kd) ∧ w.cell? ⟨g, 1, none⟩ = some (.string op) ∧ w.cell? ⟨g, 2, none⟩ = some (.string nm) ∧ w.cell? ⟨g, 3, none⟩ = some (.int .u64 nu) ∧ w.cell? ⟨g, 4, none⟩ = some (.slice A n c) ∧ g < w.heap.size :=
  ⟨h.cell 0, h.cell 1, h.cell 2, h.cell 3, h.cell 4, h.lt⟩
theorem box_two (w : World) (o : Obj) (t : TypeId) (cs : Array Value) : Box ((w.alloc o).alloc (.cells cs t)) (w.heap.size + 1) t cs := by
  have h := Box.new (w.alloc o) t cs
  have e : (w.alloc o).heap.size = w.heap.size + 1 := by simp
  rwa [e] at h
theorem ret_bool {a b : Bool} (h : a = b) : Ending.returned (.bool a) = .returned (.bool b) := by rw [h]

structure RulSmall (r : Rul) : Prop where
  call : r.call.size ≤ 1048576
  params : ∀ s ∈ r.params, s.size ≤ 1048576
  nparams : r.params.length ≤ 1048576
  ncond : r.cond.length ≤ 1048576
  cond : ∀ e ∈ r.cond, ExSmall e ∧ depthOf e ≤ 1000
structure ParSmall (p : Par) : Prop where
  use : p.use.size ≤ 1048576
  nrules : p.rules.length ≤ 1048576
  rules : ∀ r ∈ p.rules, RulSmall r
  data : I64 p.data
structure PolSmall (p : Pol) : Prop where
  name : p.name.size ≤ 1048576
  nparts : p.parts.length ≤ 1048576
  parts : ∀ x ∈ p.parts, ParSmall x
structure DfnSmall (d : Dfn) : Prop where
  name : d.name.size ≤ 1048576
  ex : ExSmall d.ex
  deep : depthOf d.ex ≤ 1000
structure UntSmall (u : Unt) : Prop where
  ndefs : u.defs.length ≤ 1048576
  defs : ∀ d ∈ u.defs, DfnSmall d
  npols : u.pols.length ≤ 1048576
  pols : ∀ p ∈ u.pols, PolSmall p
  nmain : u.main.length ≤ 1048576
  main : ∀ s ∈ u.main, s.size ≤ 1048576
  data : I64 u.data
theorem SlIn.nextS {w w' : World} {A : Option Addr} {c : Nat} {l : List ByteArray} (h : SlIn w w.heap.size 1 strCells StrIn A c l) (hb : Below w.heap.size w w') : SlIn w' w'.heap.size 1 strCells StrIn A c l := (h.mono hb fun _ _ h => h).wide hb.size fun _ _ h => h
theorem SlIn.nextE {w w' : World} {A : Option Addr} {c : Nat} {l : List Ex} (h : SlIn w w.heap.size 5 Ex.cells (ExIn w w.heap.size) A c l) (hb : Below w.heap.size w w') : SlIn w' w'.heap.size 5 Ex.cells (ExIn w' w'.heap.size) A c l := (h.mono hb fun _ _ h => h.keep hb).wide hb.size fun _ _ h => h.wider hb.size
theorem RulIn.next {w w' : World} {r : Rul} (h : RulIn w w.heap.size r) (hb : Below w.heap.size w w') : RulIn w' w'.heap.size r := (h.below hb).wider hb.size
theorem ParIn.next {w w' : World} {r : Par} (h : ParIn w w.heap.size r) (hb : Below w.heap.size w w') : ParIn w' w'.heap.size r := (h.below hb).wider hb.size
theorem PolIn.next {w w' : World} {r : Pol} (h : PolIn w w.heap.size r) (hb : Below w.heap.size w w') : PolIn w' w'.heap.size r := (h.below hb).wider hb.size
theorem DfnIn.next {w w' : World} {r : Dfn} (h : DfnIn w w.heap.size r) (hb : Below w.heap.size w w') : DfnIn w' w'.heap.size r := (h.below hb).wider hb.size
theorem UntIn.next {w w' : World} {r : Unt} (h : UntIn w w.heap.size r) (hb : Below w.heap.size w w') : UntIn w' w'.heap.size r := (h.below hb).wider hb.size
theorem box_rul {w : World} {g : Nat} {t : TypeId} {s : ByteArray} {A B : Option Addr} {n c m d : Nat} (h : Box w g t #[.string s, .slice A n c, .slice B m d]) :
    w.cell? ⟨g, 0, none⟩ = some (.string s) ∧ w.cell? ⟨g, 1, none⟩ = some (.slice A n c) ∧ w.cell? ⟨g, 2, none⟩ = some (.slice B m d) ∧ g < w.heap.size := ⟨h.cell 0, h.cell 1, h.cell 2, h.lt⟩
theorem box_par {w : World} {g : Nat} {t : TypeId} {s : ByteArray} {k d : Int} {A : Option Addr} {n c : Nat} (h : Box w g t #[.string s, .int .i64 k, .int .i64 d, .slice A n c]) :
    w.cell? ⟨g, 0, none⟩ = some (.string s) ∧ w.cell? ⟨g, 1, none⟩ = some (.int .i64 k) ∧ w.cell? ⟨g, 2, none⟩ = some (.int .i64 d) ∧ w.cell? ⟨g, 3, none⟩ = some (.slice A n c) ∧ g < w.heap.size := ⟨h.cell 0, h.cell 1, h.cell 2, h.cell 3, h.lt⟩
theorem box_unt {w : World} {g : Nat} {t : TypeId} {k d : Int} {A B C : Option Addr} {n c n' c' n'' c'' : Nat} (h : Box w g t #[.slice A n c, .slice B n' c', .slice C n'' c'', .int .i64 k, .int .i64 d]) :
    w.cell? ⟨g, 0, none⟩ = some (.slice A n c) ∧ w.cell? ⟨g, 1, none⟩ = some (.slice B n' c') ∧ w.cell? ⟨g, 2, none⟩ = some (.slice C n'' c'') ∧ w.cell? ⟨g, 3, none⟩ = some (.int .i64 k) ∧ w.cell? ⟨g, 4, none⟩ = some (.int .i64 d) ∧ g < w.heap.size := ⟨h.cell 0, h.cell 1, h.cell 2, h.cell 3, h.cell 4, h.lt⟩

/-! ### What is few -/
mutual
def sizeL (d : Nat) : Ex → Nat
  | .node _ op nm _ _ _ ks => if 100 < d ∨ 60 < nm.size ∨ 20 < op.size then 1000 else sizesL (d + 1) 1 ks
def sizesL (d n : Nat) : List Ex → Nat
  | [] => n
  | k :: r => if n < 1000 then sizesL d (n + sizeL d k) r else n
end
def fewE (e : Ex) : Bool := decide (sizeL 0 e ≤ 300)

end Go.Proofs.YtfklajkmikanbaaGreatDoor
