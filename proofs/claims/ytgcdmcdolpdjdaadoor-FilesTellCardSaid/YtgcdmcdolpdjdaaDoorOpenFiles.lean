/- Files that came in, as a list of texts. -/
import Derived.Test.YtgcdmcdolpdjdaaDoorFrame
import Derived.Test.YtgcdmcdolpdjdaaDoorFileRef
import Derived.ChangeMaps5
namespace Go.Proofs.YtgcdmcdolpdjdaaDoor
open Go.RowKit Go.ChangeShapes Go.WideShapes Go.ChangeAt

theorem open_files {H : Type} {enc : TypeId × Value → H} {w : World} {spare : Nat → Bool} {held : Bool} {fuel n c : Nat} {A : Option Addr} {x : DataW H × List MemPlace}
    (h : DataW.trod enc Tryd.prog w 0 spare held fuel 22 [.slice A n c] = some x) :
    n ≤ c ∧ ((n = 0 ∧ x.1 = .nil) ∨ ∃ el sp, x.1 = .slice el sp ∧ n ≤ el.length + sp.length) ∧ ∃ l : List (ByteArray × ByteArray), Lies w w.heap.size 2 A n (filesV l) ∧ ∀ y ∈ l, y.1.size ≤ maxLen ∧ y.2.size ≤ maxLen := by
  obtain ⟨hnc, hr, L, hL, hl, hel⟩ := open_slice_lies Tryd.underlying22 (C := 2) (by kernel_rfl) (by omega) h
  refine ⟨hnc, hr, ?_⟩
  obtain ⟨M, hM, hk⟩ := list_of (f := fun f : ByteArray × ByteArray => [Value.string f.1, .string f.2]) (p := fun y => y.1.size ≤ maxLen ∧ y.2.size ≤ maxLen) L (fun cs hcs => by
    obtain ⟨m, y, hy⟩ := hel cs hcs
    obtain ⟨xs, k, _, _, hlen, hxl, hf⟩ := DataW.trod_struct Tryd.underlying25 hy
    have hc2 : cs.length = 2 := hlen.trans (by kernel_rfl)
    have k1 : Tryd.prog.cellsOf 9 = 1 := by kernel_rfl
    match cs, hc2, xs, hxl with
    | [c0, c1], _, [x0, x1], _ =>
      have g0 := hf 0 _ rfl
      have g1 := hf 1 _ rfl
      simp [k1] at g0 g1
      obtain ⟨s0, e0, _, w0⟩ := DataW.trod_string Tryd.underlying9 g0
      obtain ⟨s1, e1, _, w1⟩ := DataW.trod_string Tryd.underlying9 g1
      simp at e0 e1
      subst e0 e1
      exact ⟨(s0, s1), rfl, w0, w1⟩)
  refine ⟨M, ?_, hk⟩
  have e : L.flatten = filesV M := by
    rw [hM]
    unfold filesV
    rw [List.flatMap_def]
  rw [← e]
  exact hl

end Go.Proofs.YtgcdmcdolpdjdaaDoor
