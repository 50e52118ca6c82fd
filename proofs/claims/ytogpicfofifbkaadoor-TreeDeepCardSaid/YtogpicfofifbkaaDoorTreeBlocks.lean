/- Blocks laid one behind the other; a slice over a whole block of expressions. No program. -/
import Derived.Test.YtogpicfofifbkaaDoorTreePlain
namespace Go.Proofs.YtogpicfofifbkaaDoor
open Go.RowKit

/-! ### Blocks laid one behind the other -/
theorem allocs_size : ∀ (os : List Obj) (w : World), (os.foldl World.alloc w).heap.size = w.heap.size + os.length
  | [], w => rfl
  | o :: os, w => by
    rw [List.foldl_cons, allocs_size os (w.alloc o), World.size_alloc, List.length_cons]
    omega
theorem allocs_below : ∀ (os : List Obj) (w : World), Below w.heap.size w (os.foldl World.alloc w)
  | [], w => Below.refl _ _
  | o :: os, w => by
    rw [List.foldl_cons]
    exact below_step (boxed w o) (Nat.le_refl _) (allocs_below os (w.alloc o))
theorem allocs_at : ∀ (os : List Obj) (w : World) (i : Nat) (o : Obj), os[i]? = some o → (os.foldl World.alloc w).heap[w.heap.size + i]? = some o
  | [], w, i, o, h => by simp at h
  | p :: os, w, 0, o, h => by
    have e : p = o := by simpa using h
    subst e
    rw [List.foldl_cons, Nat.add_zero]
    exact ((allocs_below os (w.alloc p)).block _ (by simp)).trans (heap_alloc_new w p)
  | p :: os, w, i + 1, o, h => by
    have h2 := allocs_at os (w.alloc p) i o (by simpa using h)
    rw [World.size_alloc] at h2
    rw [List.foldl_cons, show w.heap.size + (i + 1) = w.heap.size + 1 + i from by omega]
    exact h2
/-- A slice over a whole block of expressions. -/
theorem slin_new {W : World} {g : Nat} {t : TypeId} {cs : Array Value} {l : List Ex} (hb : Box W g t cs) (hc : cs.toList = l.flatMap Ex.cells) (hl : l.length ≤ 1000) (hk : ∀ x ∈ l, ExIn W W.heap.size x) : SlIn W W.heap.size 5 Ex.cells (ExIn W W.heap.size) (some ⟨g, 0, none⟩) l.length l :=
  ⟨⟨by
      have h : ∀ l : List Ex, (l.flatMap Ex.cells).length = l.length * 5 := by
        intro l
        induction l with
        | nil => rfl
        | cons x l ih => rw [List.flatMap_cons, List.length_append, ih, Ex.cells_len, List.length_cons]; omega
      exact h l, fun _ => ⟨g, 0, rfl, hb.lt, fun j u hu => by rw [hb.cell (0 + j), Nat.zero_add, ← Array.getElem?_toList, hc]; exact hu⟩⟩, hk, Nat.le_refl _, by unfold maxLen; omega⟩
theorem exIn_of {W : World} {kd nu : Int} {op nm : ByteArray} {A : Option Addr} {c : Nat} {ks : List Ex} (h : SlIn W W.heap.size 5 Ex.cells (ExIn W W.heap.size) A c ks) (hk : I64 kd) (ho : op.size ≤ maxLen) (hn : nm.size ≤ maxLen) (hu : U64 nu) : ExIn W W.heap.size (.node kd op nm nu A c ks) :=
  .mk h.lies h.all h.cap h.room hk ho hn hu

end Go.Proofs.YtogpicfofifbkaaDoor
