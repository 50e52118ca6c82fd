/- A struct stored in the midst of a block that is known whole; rows of instructions, whole. No condition. -/
import Derived.Test.YtlghhnfpmekdnaaStore
import Derived.Test.YtlghhnfpmekdnaaIns
namespace Go.Proofs.Ytlghhnfpmekdnaa
open Go.RowKit

def putMid {α : Type} (l : List α) (o : Nat) (vs : List α) : List α := l.take o ++ (vs ++ l.drop (o + vs.length))

theorem putMid_cons {α : Type} (l : List α) (o : Nat) (v : α) (r : List α) (h : o < l.length) : putMid l o (v :: r) = putMid (l.set o v) (o + 1) r := by
  unfold putMid
  have h1 : (l.set o v).take (o + 1) = l.take o ++ [v] := by
    rw [List.take_succ_eq_append_getElem (by simpa using h), List.take_set_of_le (Nat.le_refl _)]
    simp
  have h2 : (l.set o v).drop (o + 1 + r.length) = l.drop (o + (v :: r).length) := by
    rw [List.drop_set_of_lt (by omega), List.length_cons]
    congr 1
    omega
  rw [h1, h2]
  simp

theorem Box.mid {g : Nat} {t : TypeId} : ∀ (vs : List Value) (o : Nat) (w : World) (l : List Value), o + vs.length ≤ l.length → Box w g t l.toArray → Box (w.setCells g o vs) g t (putMid l o vs).toArray
  | [], o, w, l, _, h => by
    have e : putMid l o [] = l := by simp [putMid]
    rw [e]
    exact h
  | v :: r, o, w, l, hl, h => by
    rw [List.length_cons] at hl
    rw [putMid_cons l o v r (by omega)]
    refine Box.mid r (o + 1) _ _ (by simp; omega) ?_
    have := h.set o v
    simpa using this

theorem Box.there_mid {w : World} {g : Nat} {t : TypeId} {l : List Value} (h : Box w g t l.toArray) (o n : Nat) (hn : o + n ≤ l.length) : w.there g o n := fun j hj => by
  exact ⟨by rw [h.cell (o + j), List.getElem?_toArray, List.getElem?_eq_getElem (by omega)]; rfl, h.free _⟩

theorem cellsOf_append (l m : List Ins) : cellsOf (l ++ m) = cellsOf l ++ cellsOf m := by simp [cellsOf]

theorem cellsOf_set (l : List Ins) (k : Nat) (x : Ins) (h : k < l.length) : putMid (cellsOf l) (k * 4) x.cells = cellsOf (l.set k x) := by
  have e : l = l.take k ++ (l[k] :: l.drop (k + 1)) := by rw [← List.drop_eq_getElem_cons h, List.take_append_drop]
  have e2 : l.set k x = l.take k ++ (x :: l.drop (k + 1)) := by rw [List.set_eq_take_append_cons_drop, if_pos h]
  have hl : (cellsOf (l.take k)).length = k * 4 := by rw [cells_len, List.length_take]; omega
  have hc : cellsOf l = cellsOf (l.take k) ++ (l[k].cells ++ cellsOf (l.drop (k + 1))) := by
    conv => lhs; rw [e]
    rw [cellsOf_append]
    rfl
  rw [e2, cellsOf_append]
  unfold putMid
  rw [hc, List.take_left' hl, List.drop_append]
  rw [List.drop_eq_nil_of_le (by rw [hl]; omega), List.nil_append, hl]
  have h4 : k * 4 + x.cells.length - k * 4 = l[k].cells.length := by simp [Ins.cells]
  rw [h4, List.drop_left]
  rfl

end Go.Proofs.Ytlghhnfpmekdnaa
