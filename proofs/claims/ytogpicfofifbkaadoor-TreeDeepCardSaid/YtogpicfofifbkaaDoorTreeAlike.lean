/- Plain facts on two lists that are alike; what the document's own same gives. -/
import Derived.Test.YtogpicfofifbkaaDoorTreeSame
import Derived.Test.YtogpicfofifbkaaDoorTreePart
namespace Go.Proofs.YtogpicfofifbkaaDoor
open Go.RowKit

section
variable {α : Type} {f : α → α → Bool}
theorem alikes_len : ∀ (l m : List α), l.length ≠ m.length → alikes f l m = false
  | [], [], h => absurd rfl h
  | [], _ :: _, _ => rfl
  | _ :: _, [], _ => rfl
  | a :: l, b :: m, h => by
    unfold alikes
    rw [alikes_len l m (fun e => h (by simp [e]))]
    simp
theorem alikes_at : ∀ (l m : List α) (k : Nat) (x y : α), l[k]? = some x → m[k]? = some y → f x y = false → alikes f l m = false
  | [], _, k, x, y, h, _, _ => by simp at h
  | a :: l, [], k, x, y, _, h, _ => by simp at h
  | a :: l, b :: m, 0, x, y, h1, h2, h => by
    have e1 : a = x := by simpa using h1
    have e2 : b = y := by simpa using h2
    unfold alikes
    rw [e1, e2, h]
    rfl
  | a :: l, b :: m, k + 1, x, y, h1, h2, h => by
    unfold alikes
    rw [alikes_at l m k x y (by simpa using h1) (by simpa using h2) h]
    simp
theorem alikes_all : ∀ (l m : List α), l.length = m.length → (∀ (k : Nat) (x y : α), k < l.length → l[k]? = some x → m[k]? = some y → f x y = true) → alikes f l m = true
  | [], [], _, _ => rfl
  | [], _ :: _, h, _ => by cases h
  | _ :: _, [], h, _ => by cases h
  | a :: l, b :: m, hl, h => by
    unfold alikes
    rw [h 0 a b (by simp) rfl rfl, alikes_all l m (by simpa using hl) (fun k x y hk h1 h2 => h (k + 1) x y (by simp; omega) (by simpa using h1) (by simpa using h2))]
    rfl
end
theorem sames_alikes : ∀ (l m : List Ex), l.length = m.length → samesEx l m = alikes sameEx l m
  | [], [], _ => by unfold samesEx; rfl
  | [], _ :: _, h => by cases h
  | _ :: _, [], h => by cases h
  | a :: l, b :: m, h => by
    unfold samesEx alikes
    rw [sames_alikes l m (by simpa using h)]

def Alikes {α : Type} (f : α → α → Bool) (l m : List α) (w : World) (i : Value) (wr : World) : Prop :=
  (∃ k : Nat, k ≤ l.length ∧ i = .int .i64 k ∧ ∀ (j : Nat) (x y : α), j < k → l[j]? = some x → m[j]? = some y → f x y = true) ∧ Below w.heap.size w wr

end Go.Proofs.YtogpicfofifbkaaDoor
