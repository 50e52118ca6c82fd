/- Slices of bytes that came in, as lists; bytes to a string. -/
import Derived.Test.YtljkkbfokjhfpaaFrame
import Derived.Test.YtljkkbfokjhfpaaChecked
namespace Go.Proofs.Ytljkkbfokjhfpaa
open Go.RowKit Go.ChangeShapes Go.WideShapes Go.ChangeAt

/-- Bytes that came in. -/
theorem open_bytes {H : Type} {enc : TypeId × Value → H} {w : World} {spare : Nat → Bool} {held : Bool} {fuel n c : Nat} {A : Option Addr} {x : DataW H × List MemPlace}
    (h : DataW.trod enc Try.prog w 0 spare held fuel 56 [.slice A n c] = some x) :
    n ≤ c ∧ ((n = 0 ∧ x.1 = .nil) ∨ ∃ el sp, x.1 = .slice el sp ∧ n ≤ el.length + sp.length) ∧ ∃ l : List UInt8, Lies w w.heap.size 1 A n (bytesV l) := by
  obtain ⟨hnc, hr, L, hL, hl, hel⟩ := open_slice_lies Try.underlying56 (C := 1) (by kernel_rfl) (by omega) h
  refine ⟨hnc, hr, ?_⟩
  obtain ⟨M, hM, _⟩ := list_of (f := fun b : UInt8 => [byteV b]) (p := fun _ => True) L (fun cs hcs => by
    obtain ⟨m, y, hy⟩ := hel cs hcs
    obtain ⟨k, rfl, _, hw⟩ := DataW.trod_int Try.underlying5 hy
    have hk : 0 ≤ k ∧ k ≤ 255 := by simpa [Lit.wf, IntKind.min, IntKind.max, IntKind.signed, IntKind.bits] using hw
    refine ⟨UInt8.ofNat k.toNat, ?_, trivial⟩
    unfold byteV
    rw [UInt8.toNat_ofNat']
    congr 2
    omega)
  refine ⟨M, ?_⟩
  have e : L.flatten = bytesV M := by
    rw [hM]
    clear hM
    induction M with
    | nil => rfl
    | cons b M ih => simp [bytesV] at ih ⊢; exact ih
  rw [← e]
  exact hl


theorem str_conv {A : Option Addr} {n c : Nat} {l : List UInt8} {B : Nat} {w : World} (h : Lies w B 1 A n (bytesV l)) :
    (convert 56 9 (.slice A n c)).run Try.prog w = .ok (.string (strOf l)) w :=
  run_string_lies _ _ 5 Try.underlying56 Try.underlying5 Try.underlying9 h

end Go.Proofs.Ytljkkbfokjhfpaa
