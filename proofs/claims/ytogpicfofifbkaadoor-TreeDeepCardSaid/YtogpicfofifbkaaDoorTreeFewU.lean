/- What is few enough of a unit is small. -/
import Derived.Test.YtogpicfofifbkaaDoorTreeFew
import Derived.Test.YtogpicfofifbkaaDoorTreeName
namespace Go.Proofs.YtogpicfofifbkaaDoor
open Go.RowKit

def Fewly (u : Unt) (w : World) : Ending → World → Prop := fun r w' => ∃ b : Bool, r = .returned (.bool b) ∧ (b = true → UntSmall u) ∧ Below w.heap.size w w'
theorem few_no {u : Unt} {w w' : World} {r : Ending} (h : r = .returned (.bool false)) (hb : Below w.heap.size w w') : Fewly u w r w' := ⟨false, h, (fun e => by cases e), hb⟩

theorem few_small {e : Ex} (h : fewE e = true) : ExSmall e ∧ depthOf e ≤ 300 := by
  have h1 : sizeL 0 e ≤ 300 := of_decide_eq_true h
  obtain ⟨h2, h3⟩ := size_small e 0 (by omega)
  exact ⟨h2, by omega⟩

/-- All up to k are so. -/
def UpTo {α : Type} (P : α → Prop) (l : List α) (k : Nat) : Prop := k ≤ l.length ∧ ∀ (j : Nat) (x : α), j < k → l[j]? = some x → P x
theorem UpTo.zero {α : Type} {P : α → Prop} {l : List α} : UpTo P l 0 := ⟨Nat.zero_le _, fun j x h => absurd h (by omega)⟩
theorem UpTo.next {α : Type} {P : α → Prop} {l : List α} {k : Nat} {x : α} (h : UpTo P l k) (hx : l[k]? = some x) (hp : P x) : UpTo P l (k + 1) :=
  ⟨(List.getElem?_eq_some_iff.1 hx).1, fun j y hj hy => by
    by_cases e : j = k
    · rw [e, hx] at hy
      rw [← Option.some.inj hy]
      exact hp
    · exact h.2 j y (by omega) hy⟩
theorem UpTo.all {α : Type} {P : α → Prop} {l : List α} (h : UpTo P l l.length) : ∀ x ∈ l, P x := fun x hx => by
  obtain ⟨j, hj⟩ := List.mem_iff_getElem?.1 hx
  exact h.2 j x (List.getElem?_eq_some_iff.1 hj).1 hj

/-- A round over a unit: its box stands. -/
def UnitAt (u : Unt) (w : World) (wr : World) : Prop := Below w.heap.size w wr ∧ Box wr w.heap.size 41 u.cells.toArray
def FewRound {α : Type} (P : α → Prop) (l : List α) (u : Unt) (w : World) (i : Value) (wr : World) : Prop := (∃ k : Nat, UpTo P l k ∧ i = .int .i64 k) ∧ UnitAt u w wr
def FewCount {α : Type} (P : α → Prop) (l : List α) (u : Unt) (w : World) (n i : Value) (wr : World) : Prop := (∃ t : Nat, t ≤ 60 ∧ n = .int .i64 t) ∧ FewRound P l u w i wr
def FewBox {α : Type} (P : α → Prop) (l : List α) (u : Unt) (w : World) (g : Nat) (cs : Array Value) (i : Value) (wr : World) : Prop := FewRound P l u w i wr ∧ Box wr g 31 cs

end Go.Proofs.YtogpicfofifbkaaDoor
