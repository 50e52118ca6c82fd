/- What the document's own table of calls, its Calls and its FindCall give. -/
import Derived.Test.YtbibliakakjkiaaDoorCallRef
import Derived.Test.YtbibliakakjkiaaDoorResBox
import Derived.StillTailTactics
namespace Go.Proofs.YtbibliakakjkiaaDoor
open Go.RowKit

/-! ### A world with several new blocks -/
theorem heap_laid : ∀ (os : List Obj) (w : World), (os.foldl World.alloc w).heap = w.heap ++ os.toArray
  | [], w => by simp
  | o :: os, w => by
    rw [List.foldl_cons, heap_laid os]
    show w.heap.push o ++ os.toArray = w.heap ++ (o :: os).toArray
    apply Array.ext'
    simp

theorem box_laid (w : World) (os : List Obj) (j : Nat) (t : TypeId) (cs : Array Value) (h : os[j]? = some (.cells cs t)) : Box (os.foldl World.alloc w) (w.heap.size + j) t cs := by
  unfold Box
  rw [heap_laid, Array.getElem?_append_right (by omega), Nat.add_sub_cancel_left]
  simpa using h

theorem below_laid {B : Nat} {a : World} : ∀ (os : List Obj) (w : World), Below B a w → B ≤ w.heap.size → Below B a (os.foldl World.alloc w)
  | [], _, h, _ => h
  | o :: os, w, h, hB => below_laid os (w.alloc o) (h.alloc hB o) (by simp; omega)

theorem lies_laid (w : World) (os : List Obj) (j n size : Nat) (t : TypeId) (cs : Array Value) (h : os[j]? = some (.cells cs t)) (hn : cs.size = n * size) :
    Lies (os.foldl World.alloc w) (os.foldl World.alloc w).heap.size size (some ⟨w.heap.size + j, 0, none⟩) n cs.toList := by
  have hb := box_laid w os j t cs h
  refine ⟨by simpa using hn, fun _ => ⟨w.heap.size + j, 0, rfl, hb.lt, fun i u hu => ?_⟩⟩
  rw [Nat.zero_add, hb.cell i]
  simpa using hu

/-! ### The table -/
abbrev RowAt := RowV × Option Addr × Nat
def rowVals (p : RowAt) : List Value := [.string (strOf p.1.name), .slice p.2.1 p.1.params.length p.2.2, .int .i64 p.1.amd, .int .i64 p.1.x86, .int .i64 p.1.arm]
def rowSpots (s : Nat) : List (Option Addr × Nat) := [(some ⟨s, 0, none⟩, 1), (some ⟨s + 1, 0, none⟩, 1), (some ⟨s + 2, 0, none⟩, 1), (some ⟨s + 3, 0, none⟩, 1), (some ⟨s + 4, 0, none⟩, 1), (none, 0), (some ⟨s + 5, 0, none⟩, 3), (some ⟨s + 6, 0, none⟩, 2), (some ⟨s + 7, 0, none⟩, 6), (some ⟨s + 8, 0, none⟩, 3), (some ⟨s + 9, 0, none⟩, 2), (some ⟨s + 10, 0, none⟩, 3), (some ⟨s + 11, 0, none⟩, 4), (some ⟨s + 12, 0, none⟩, 5), (some ⟨s + 13, 0, none⟩, 3), (some ⟨s + 14, 0, none⟩, 3), (some ⟨s + 15, 0, none⟩, 3)]
def rowsAt (s : Nat) : List RowAt := callTab.zip (rowSpots s)
def rowObjs (s : Nat) (T S : TypeId) : List Obj := ((callTab.filter fun r => !r.params.isEmpty).map fun r => .cells (strsV r.params).toArray S) ++ [.cells ((rowsAt s).flatMap rowVals).toArray T]

def RowsLie (w : World) (B : Nat) (A : Option Addr) (ps : List RowAt) : Prop := Lies w B 5 A 17 (ps.flatMap rowVals) ∧ ∀ p ∈ ps, Lies w B 1 p.2.1 p.1.params.length (strsV p.1.params) ∧ p.1.params.length ≤ p.2.2

theorem rows_lie (w : World) (T S : TypeId) : RowsLie ((rowObjs w.heap.size T S).foldl World.alloc w) ((rowObjs w.heap.size T S).foldl World.alloc w).heap.size (some ⟨w.heap.size + 16, 0, none⟩) (rowsAt w.heap.size) := by
  refine ⟨lies_laid w _ 16 17 5 T ((rowsAt w.heap.size).flatMap rowVals).toArray rfl rfl, fun p hp => ?_⟩
  simp only [rowsAt, callTab, rowSpots, List.zip_cons_cons, List.zip_nil_right, List.mem_cons, List.not_mem_nil, or_false] at hp
  rcases hp with rfl | rfl | rfl | rfl | rfl | rfl | rfl | rfl | rfl | rfl | rfl | rfl | rfl | rfl | rfl | rfl | rfl
  · exact ⟨lies_laid w _ 0 1 1 S _ rfl rfl, Nat.le_refl _⟩
  · exact ⟨lies_laid w _ 1 1 1 S _ rfl rfl, Nat.le_refl _⟩
  · exact ⟨lies_laid w _ 2 1 1 S _ rfl rfl, Nat.le_refl _⟩
  · exact ⟨lies_laid w _ 3 1 1 S _ rfl rfl, Nat.le_refl _⟩
  · exact ⟨lies_laid w _ 4 1 1 S _ rfl rfl, Nat.le_refl _⟩
  · exact ⟨Lies.empty _ _ _ _, Nat.le_refl _⟩
  · exact ⟨lies_laid w _ 5 3 1 S _ rfl rfl, Nat.le_refl _⟩
  · exact ⟨lies_laid w _ 6 2 1 S _ rfl rfl, Nat.le_refl _⟩
  · exact ⟨lies_laid w _ 7 6 1 S _ rfl rfl, Nat.le_refl _⟩
  · exact ⟨lies_laid w _ 8 3 1 S _ rfl rfl, Nat.le_refl _⟩
  · exact ⟨lies_laid w _ 9 2 1 S _ rfl rfl, Nat.le_refl _⟩
  · exact ⟨lies_laid w _ 10 3 1 S _ rfl rfl, Nat.le_refl _⟩
  · exact ⟨lies_laid w _ 11 4 1 S _ rfl rfl, Nat.le_refl _⟩
  · exact ⟨lies_laid w _ 12 5 1 S _ rfl rfl, Nat.le_refl _⟩
  · exact ⟨lies_laid w _ 13 3 1 S _ rfl rfl, Nat.le_refl _⟩
  · exact ⟨lies_laid w _ 14 3 1 S _ rfl rfl, Nat.le_refl _⟩
  · exact ⟨lies_laid w _ 15 3 1 S _ rfl rfl, Nat.le_refl _⟩

theorem rowsAt_tab (s : Nat) : (rowsAt s).map Prod.fst = callTab := rfl

/-- What rows gives. -/
def TheRows (w : World) : Ending → World → Prop :=
  fun r w' => ∃ A ps, r = .returned (.slice A 17 17) ∧ ps.map Prod.fst = callTab ∧ RowsLie w' w'.heap.size A ps ∧ Below w.heap.size w w'

set_option maxRecDepth 100000 in
set_option maxHeartbeats 2000000 in
theorem rows_any (w : World) : Calls Tryd.prog 20 #[] w (TheRows w) := by
  have H1 := Lib.hid (rows_lie w 51 9)
  have H2 := Lib.hid (below_laid (rowObjs w.heap.size 51 9) w (Below.refl w.heap.size w) (Nat.le_refl _))
  go_enter Tryd.func20, Tryd.ntmps20
  go_wp2
  go_ret
  exact ⟨some ⟨w.heap.size + 16, 0, none⟩, rowsAt w.heap.size, rfl, rfl, H1.out, H2.out⟩

end Go.Proofs.YtbibliakakjkiaaDoor
