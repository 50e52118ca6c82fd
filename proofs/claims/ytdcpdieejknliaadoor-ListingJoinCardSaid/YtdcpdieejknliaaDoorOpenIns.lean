/- Slices of instructions that came in, as lists. -/
import Derived.Test.YtdcpdieejknliaaDoorFrame
import Derived.Test.YtdcpdieejknliaaDoorChecked
import Derived.Test.YtdcpdieejknliaaDoorIns
namespace Go.Proofs.YtdcpdieejknliaaDoor
open Go.RowKit Go.ChangeShapes Go.WideShapes Go.ChangeAt

set_option maxRecDepth 100000 in
/-- Instructions that came in. -/
theorem open_instrs_ok {H : Type} {enc : TypeId × Value → H} {w : World} {spare : Nat → Bool} {held : Bool} {fuel n c : Nat} {A : Option Addr} {x : DataW H × List MemPlace}
    (h : DataW.trod enc Tryd.prog w 0 spare held fuel 22 [.slice A n c] = some x) :
    n ≤ c ∧ ((n = 0 ∧ x.1 = .nil) ∨ ∃ el sp, x.1 = .slice el sp ∧ n ≤ el.length + sp.length) ∧ ∃ l : List Ins, Lies w w.heap.size 4 A n (cellsOf l) ∧ ∀ y ∈ l, y.Ok := by
  obtain ⟨hnc, hr, L, hL, hl, hel⟩ := open_slice_lies Tryd.underlying22 (C := 4) (by kernel_rfl) (by omega) h
  refine ⟨hnc, hr, ?_⟩
  obtain ⟨M, hM, hk⟩ := list_of (f := Ins.cells) (p := Ins.Ok) L (fun cs hcs => by
    obtain ⟨m, y, hy⟩ := hel cs hcs
    obtain ⟨xs, k, _, _, hlen, hxl, hf⟩ := DataW.trod_struct Tryd.underlying38 hy
    have hc4 : cs.length = 4 := hlen.trans (by kernel_rfl)
    have k1 : Tryd.prog.cellsOf 3 = 1 := by kernel_rfl
    have k2 : Tryd.prog.cellsOf 36 = 1 := by kernel_rfl
    match cs, hc4, xs, hxl with
    | [c0, c1, c2, c3], _, [x0, x1, x2, x3], _ =>
      have g0 := hf 0 _ rfl
      have g1 := hf 1 _ rfl
      have g2 := hf 2 _ rfl
      have g3 := hf 3 _ rfl
      simp [k1, k2] at g0 g1 g2 g3
      obtain ⟨n0, e0, _, w0⟩ := DataW.trod_int Tryd.underlying3 g0
      obtain ⟨n1, e1, _, w1⟩ := DataW.trod_int Tryd.underlying3 g1
      obtain ⟨n2, e2, _, w2⟩ := DataW.trod_int Tryd.underlying3 g2
      obtain ⟨n3, e3, _, w3⟩ := DataW.trod_int Tryd.underlying36 g3
      simp at e0 e1 e2 e3
      subst e0 e1 e2 e3
      refine ⟨⟨n0, n1, n2, n3⟩, rfl, ?_⟩
      simp [Lit.wf, IntKind.min, IntKind.max, IntKind.signed, IntKind.bits] at w0 w1 w2 w3
      exact ⟨w0.1, w0.2, w1.1, w1.2, w2.1, w2.2, w3.1, w3.2⟩)
  refine ⟨M, ?_, hk⟩
  have e : L.flatten = cellsOf M := by
    rw [hM]
    unfold cellsOf
    rw [List.flatMap_def]
  rw [← e]
  exact hl

end Go.Proofs.YtdcpdieejknliaaDoor
