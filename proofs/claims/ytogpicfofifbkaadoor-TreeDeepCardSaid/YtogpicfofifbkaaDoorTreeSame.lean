/- What the document's own SameExpr and same give. -/
import Derived.Test.YtogpicfofifbkaaDoorTreeName
import Derived.StillTailTactics
namespace Go.Proofs.YtogpicfofifbkaaDoor
open Go.RowKit

theorem sames_at : ∀ (l m : List Ex) (k : Nat) (x y : Ex), l[k]? = some x → m[k]? = some y → sameEx x y = false → samesEx l m = false
  | [], _, k, x, y, h, _, _ => by simp at h
  | a :: l, [], k, x, y, _, h, _ => by simp at h
  | a :: l, b :: m, 0, x, y, h1, h2, h => by
    have e1 : a = x := by simpa using h1
    have e2 : b = y := by simpa using h2
    unfold samesEx
    rw [e1, e2, h]
    rfl
  | a :: l, b :: m, k + 1, x, y, h1, h2, h => by
    unfold samesEx
    rw [sames_at l m k x y (by simpa using h1) (by simpa using h2) h]
    simp
theorem sames_all : ∀ (l m : List Ex), (∀ (k : Nat) (x y : Ex), l[k]? = some x → m[k]? = some y → sameEx x y = true) → samesEx l m = true
  | [], _, _ => by unfold samesEx; rfl
  | a :: l, [], _ => by unfold samesEx; rfl
  | a :: l, b :: m, h => by
    unfold samesEx
    rw [h 0 a b rfl rfl, sames_all l m (fun k x y h1 h2 => h (k + 1) x y (by simpa using h1) (by simpa using h2))]
    rfl
theorem same_node {kd nu kd' nu' : Int} {op nm op' nm' : ByteArray} {A A' : Option Addr} {c c' : Nat} {ks ks' : List Ex} :
    sameEx (.node kd op nm nu A c ks) (.node kd' op' nm' nu' A' c' ks') = (kd == kd' && (op.toList == op'.toList && (nm.toList == nm'.toList && (nu == nu' && (ks.length == ks'.length && samesEx ks ks'))))) := by
  conv => lhs; unfold sameEx

def Sames (e f : Ex) (ks ks' : List Ex) (w : World) (i : Value) (wr : World) : Prop :=
  (∃ k : Nat, k ≤ ks.length ∧ i = .int .i64 k ∧ ∀ j x y, j < k → ks[j]? = some x → ks'[j]? = some y → sameEx x y = true) ∧ Below w.heap.size w wr ∧ Box wr w.heap.size 26 e.cells.toArray ∧ Box wr (w.heap.size + 1) 26 f.cells.toArray

end Go.Proofs.YtogpicfofifbkaaDoor
