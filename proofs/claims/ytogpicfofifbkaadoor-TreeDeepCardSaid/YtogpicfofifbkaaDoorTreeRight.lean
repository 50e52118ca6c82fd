/- What the document's own Right gives. -/
import Derived.Test.YtogpicfofifbkaaDoorTreePart
namespace Go.Proofs.YtogpicfofifbkaaDoor
open Go.RowKit

theorem all_out {α : Type} {p : α → Bool} {l : List α} (h : l.all p = false) : ∃ (k : Nat) (x : α), l[k]? = some x ∧ p x = false ∧ ∀ (j : Nat) (y : α), j < k → l[j]? = some y → p y = true := by
  induction l with
  | nil => cases h
  | cons a l ih =>
    cases ha : p a with
    | false => exact ⟨0, a, rfl, ha, fun j y hj => absurd hj (by omega)⟩
    | true =>
      rw [List.all_cons, ha, Bool.true_and] at h
      obtain ⟨k, x, h1, h2, h3⟩ := ih h
      refine ⟨k + 1, x, by simpa using h1, h2, fun j y hj hy => ?_⟩
      cases j with
      | zero => rw [← (by simpa using hy : a = y)]; exact ha
      | succ j => exact h3 j y (by omega) (by simpa using hy)

def Righting (u : Unt) (w : World) (P : Nat → Prop) (i : Value) (wr : World) : Prop :=
  (∃ k : Nat, P k ∧ i = .int .i64 k) ∧ Below w.heap.size w wr ∧ Box wr w.heap.size 41 u.cells.toArray
def dfnOk (d : Dfn) : Bool := nameOk d.name && numOk d.ex
def polOk (p : Pol) : Bool := nameOk p.name && p.parts.all partOk
theorem right_eq (u : Unt) : rightOk u = (u.defs.all dfnOk && (u.pols.all polOk && ((valueOf u.kind u.data).2 && (!u.main.isEmpty && u.main.all nameOk)))) := rfl
theorem right_defs {u : Unt} {k : Nat} {d : Dfn} (h : u.defs[k]? = some d) (hd : dfnOk d = false) : rightOk u = false := by
  rw [right_eq, all_no h hd]
  rfl
theorem right_pols {u : Unt} {k : Nat} {p : Pol} (h : u.pols[k]? = some p) (hd : polOk p = false) : rightOk u = false := by
  rw [right_eq, all_no h hd]
  simp
theorem pol_parts {p : Pol} {k : Nat} {x : Par} (h : p.parts[k]? = some x) (hd : partOk x = false) : polOk p = false := by
  unfold polOk
  rw [all_no h hd]
  simp

end Go.Proofs.YtogpicfofifbkaaDoor
