/- Slices of integers that came in, as lists. No condition. -/
import Derived.Test.YtogpicfofifbkaaDoorFrame
namespace Go.Proofs.YtogpicfofifbkaaDoor
open Go.RowKit Go.ChangeShapes Go.WideShapes Go.ChangeAt

theorem open_ints {H : Type} {enc : TypeId × Value → H} {P : Program} {w : World} {spare : Nat → Bool} {held : Bool} {k : IntKind} {t e : TypeId} {fuel n c : Nat} {A : Option Addr} {x : DataW H × List MemPlace}
    (ht : P.underlying t = some (.slice e)) (he : P.underlying e = some (.int k)) (hC : P.cellsOf e = 1)
    (h : DataW.trod enc P w 0 spare held fuel t [.slice A n c] = some x) :
    n ≤ c ∧ ((n = 0 ∧ x.1 = .nil) ∨ ∃ el sp, x.1 = .slice el sp ∧ n ≤ el.length + sp.length) ∧ ∃ l : List Int, Lies w w.heap.size 1 A n (l.map (Value.int k)) ∧ ∀ y ∈ l, (Lit.int k y).wf = true := by
  obtain ⟨hnc, hr, L, hL, hl, hel⟩ := open_slice_lies ht (C := 1) hC (by omega) h
  refine ⟨hnc, hr, ?_⟩
  obtain ⟨M, hM, hw⟩ := list_of (f := fun b : Int => [Value.int k b]) (p := fun b => (Lit.int k b).wf = true) L (fun cs hcs => by
    obtain ⟨m, y, hy⟩ := hel cs hcs
    obtain ⟨q, rfl, _, hw⟩ := DataW.trod_int he hy
    exact ⟨q, rfl, hw⟩)
  refine ⟨M, ?_, hw⟩
  have e : L.flatten = M.map (Value.int k) := by
    rw [hM]
    clear hM hw
    induction M with
    | nil => rfl
    | cons b M ih => simp at ih ⊢; exact ih
  rw [← e]
  exact hl

theorem wf_bd_i64 {y : Int} (h : (Lit.int .i64 y).wf = true) : -9223372036854775808 ≤ y ∧ y ≤ 9223372036854775807 := by simpa [Lit.wf, IntKind.min, IntKind.max, IntKind.signed, IntKind.bits] using h
theorem wf_bd_u32 {y : Int} (h : (Lit.int .u32 y).wf = true) : 0 ≤ y ∧ y ≤ 4294967295 := by simpa [Lit.wf, IntKind.min, IntKind.max, IntKind.signed, IntKind.bits] using h
theorem wf_bd_u64 {y : Int} (h : (Lit.int .u64 y).wf = true) : 0 ≤ y ∧ y ≤ 18446744073709551615 := by simpa [Lit.wf, IntKind.min, IntKind.max, IntKind.signed, IntKind.bits] using h

end Go.Proofs.YtogpicfofifbkaaDoor
