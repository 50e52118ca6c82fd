/-
  No cell of these rows narrows 'for every input' (looked for: loops, veiled, ifaces, maps, wideKeys, modest, calm, conditions, laid).
  DERIVED. THE GIVEN ROWS OF THIS SEAT. 5 by the template 'for every input the law returns true; each argument reads behind the call as it read before'; 0 by the template 'total and deterministic' (their statements: YtlghhnfpmekdnaaTotals.lean).
  GIVEN WITH THE SEED: the statements are not yours to turn. If you find one false, say at which input.
  Laid BY PROGRAM, IN A SANDBOX (cutbox-rows.mjs): the forced cells as the released guide's own fill.sh prints them over the translation 7da47a65c5205dd4… (all of the seat's roots in one cut). By AI agents, Wed Nov 11 2026. No macro, syntax, notation, axiom, sorry.
-/
import Derived.Test.YtlghhnfpmekdnaaChecked
import GoSem.Claim
import GoSem.ClaimJoined
import GoSem.ClaimMapViews
import Derived.JoinedTies
import Derived.KernelRfl
namespace Go.Proofs.Ytlghhnfpmekdnaa
/- THE CELL 'sum', in the pinned program and in every row, IS THE sha256 OF THE DUMP (.gsa) THAT YtlghhnfpmekdnaaProg.lean LOADS. Nothing in Lean hashes anything: it is a label: what it is worth is what the hold of that sum in a sandbox is worth. -/
noncomputable def Try.pinned : Pinned := { name := "ytlghhnfpmekdnaa", sum := "7da47a65c5205dd419e427acfb8a5a81e9591772f0d24675520cb93f21a76072", checked := Try.checked }
namespace Rows
def none {H : Type} : Left H := { results := [], args := [] }

/-- 'tipstafflaw4.CheckerTells': WHATEVER THE INPUT: true; the input reads as it did. -/
def checkerTellsSpec : ChangeSpec := { name := "checkerTells", fn := fun _ => fun
  | [d] => { results := [.lit (.bool true)], args := [d] }
  | _ => none }
def checkerTellsRow : OpenClaim := { program := "ytlghhnfpmekdnaa", sum := "7da47a65c5205dd419e427acfb8a5a81e9591772f0d24675520cb93f21a76072", func := "tipstaff/tipstafflaw4.CheckerTells", spec := "checkerTells", apart := false }
def CheckerTellsSaid : Prop := checkerTellsRow.holds Try.pinned (OpenSpec.ofChange checkerTellsSpec)

/-- ITS FALSE NEIGHBOUR: 'it returns false'. Refute it at one input. -/
def checkerTellsWrong : ChangeSpec := { name := "checkerTells", fn := fun _ => fun
  | [d] => { results := [.lit (.bool false)], args := [d] }
  | _ => none }
def CheckerTellsWrongFalsely : Prop := checkerTellsRow.holds Try.pinned (OpenSpec.ofChange checkerTellsWrong)

/-- 'tipstafflaw4.CheckerSafe': WHATEVER THE INPUT: true; the input reads as it did. -/
def checkerSafeSpec : ChangeSpec := { name := "checkerSafe", fn := fun _ => fun
  | [d1, d2] => { results := [.lit (.bool true)], args := [d1, d2] }
  | _ => none }
def checkerSafeRow : OpenClaim := { program := "ytlghhnfpmekdnaa", sum := "7da47a65c5205dd419e427acfb8a5a81e9591772f0d24675520cb93f21a76072", func := "tipstaff/tipstafflaw4.CheckerSafe", spec := "checkerSafe", apart := false }
def CheckerSafeSaid : Prop := checkerSafeRow.holds Try.pinned (OpenSpec.ofChange checkerSafeSpec)

/-- ITS FALSE NEIGHBOUR: 'it returns false'. Refute it at one input. -/
def checkerSafeWrong : ChangeSpec := { name := "checkerSafe", fn := fun _ => fun
  | [d1, d2] => { results := [.lit (.bool false)], args := [d1, d2] }
  | _ => none }
def CheckerSafeWrongFalsely : Prop := checkerSafeRow.holds Try.pinned (OpenSpec.ofChange checkerSafeWrong)

/-- 'tipstafflaw4.CheckerWrong': WHATEVER THE INPUT: true; the input reads as it did. -/
def checkerWrongSpec : ChangeSpec := { name := "checkerWrong", fn := fun _ => fun
  | [d] => { results := [.lit (.bool true)], args := [d] }
  | _ => none }
def checkerWrongRow : OpenClaim := { program := "ytlghhnfpmekdnaa", sum := "7da47a65c5205dd419e427acfb8a5a81e9591772f0d24675520cb93f21a76072", func := "tipstaff/tipstafflaw4.CheckerWrong", spec := "checkerWrong", apart := false }
def CheckerWrongSaid : Prop := checkerWrongRow.holds Try.pinned (OpenSpec.ofChange checkerWrongSpec)

/-- ITS FALSE NEIGHBOUR: 'it returns false'. Refute it at one input. -/
def checkerWrongWrong : ChangeSpec := { name := "checkerWrong", fn := fun _ => fun
  | [d] => { results := [.lit (.bool false)], args := [d] }
  | _ => none }
def CheckerWrongWrongFalsely : Prop := checkerWrongRow.holds Try.pinned (OpenSpec.ofChange checkerWrongWrong)

/-- 'tipstafflaw4.CheckerLong': WHATEVER THE INPUT: true; the input reads as it did. -/
def checkerLongSpec : ChangeSpec := { name := "checkerLong", fn := fun _ => fun
  | [d] => { results := [.lit (.bool true)], args := [d] }
  | _ => none }
def checkerLongRow : OpenClaim := { program := "ytlghhnfpmekdnaa", sum := "7da47a65c5205dd419e427acfb8a5a81e9591772f0d24675520cb93f21a76072", func := "tipstaff/tipstafflaw4.CheckerLong", spec := "checkerLong", apart := false }
def CheckerLongSaid : Prop := checkerLongRow.holds Try.pinned (OpenSpec.ofChange checkerLongSpec)

/-- ITS FALSE NEIGHBOUR: 'it returns false'. Refute it at one input. -/
def checkerLongWrong : ChangeSpec := { name := "checkerLong", fn := fun _ => fun
  | [d] => { results := [.lit (.bool false)], args := [d] }
  | _ => none }
def CheckerLongWrongFalsely : Prop := checkerLongRow.holds Try.pinned (OpenSpec.ofChange checkerLongWrong)

/-- 'tipstafflaw4.CheckerMore': WHATEVER THE INPUT: true; the input reads as it did. -/
def checkerMoreSpec : ChangeSpec := { name := "checkerMore", fn := fun _ => fun
  | [d1, d2, d3] => { results := [.lit (.bool true)], args := [d1, d2, d3] }
  | _ => none }
def checkerMoreRow : OpenClaim := { program := "ytlghhnfpmekdnaa", sum := "7da47a65c5205dd419e427acfb8a5a81e9591772f0d24675520cb93f21a76072", func := "tipstaff/tipstafflaw4.CheckerMore", spec := "checkerMore", apart := false }
def CheckerMoreSaid : Prop := checkerMoreRow.holds Try.pinned (OpenSpec.ofChange checkerMoreSpec)

/-- ITS FALSE NEIGHBOUR: 'it returns false'. Refute it at one input. -/
def checkerMoreWrong : ChangeSpec := { name := "checkerMore", fn := fun _ => fun
  | [d1, d2, d3] => { results := [.lit (.bool false)], args := [d1, d2, d3] }
  | _ => none }
def CheckerMoreWrongFalsely : Prop := checkerMoreRow.holds Try.pinned (OpenSpec.ofChange checkerMoreWrong)

/- THE SECOND FORM. 'bulk': how many values and letters a reading holds, each counted each time it is reached (what is shared counts as often as it is met; a slice's spare places count too). A statement '..UptoSaid' is the law's where the arguments, and the package variables that the reading takes, are together of bulk at most 1048576: NARROWER than '..Said'. Prove '..Said' where nothing that the law and all that it calls make is longer than what came in: it says more and counts as full. Else prove '..UptoSaid'. A law counts once. -/
mutual
def uptoBulk {H : Type} : DataW H → Nat
  | .lit (.string bytes) => bytes.length + 1
  | .lit _ => 1
  | .nil => 1
  | .ptr d => uptoBulk d + 1
  | .slice elems spare => uptoBulkAll elems + uptoBulkAll spare + 1
  | .agg parts => uptoBulkAll parts + 1
  | .iface _ d => uptoBulk d + 1
  | .map entries => uptoBulkEntries entries + 1
  | .held _ => 1
def uptoBulkAll {H : Type} : List (DataW H) → Nat
  | [] => 0
  | d :: r => uptoBulk d + uptoBulkAll r
def uptoBulkEntries {H : Type} : List (Lit × DataW H) → Nat
  | [] => 0
  | x :: r => uptoBulkEntry x + uptoBulkEntries r
def uptoBulkEntry {H : Type} : Lit × DataW H → Nat
  | (.string bytes, d) => bytes.length + uptoBulk d + 1
  | (_, d) => uptoBulk d + 1
 end
def uptoSmall : (H : Type) → List (DataW H) → Bool := fun _ ds => decide (uptoBulkAll ds ≤ 1048576)
def OpenSpec.upto (s : _root_.Go.ChangeSpec) : _root_.Go.OpenSpec := { _root_.Go.OpenSpec.ofChange s with cond := some uptoSmall }

/-- 'tipstafflaw4.CheckerTells', WHERE WHAT IT READS IS OF BULK AT MOST 1048576: true; the input reads as it did. -/
def checkerTellsUptoRow : OpenClaim := { program := "ytlghhnfpmekdnaa", sum := "7da47a65c5205dd419e427acfb8a5a81e9591772f0d24675520cb93f21a76072", func := "tipstaff/tipstafflaw4.CheckerTells", spec := "checkerTells", apart := false, narrowed := true }
def CheckerTellsUptoSaid : Prop := checkerTellsUptoRow.holds Try.pinned (OpenSpec.upto checkerTellsSpec)

/-- 'tipstafflaw4.CheckerSafe', WHERE WHAT IT READS IS OF BULK AT MOST 1048576: true; the input reads as it did. -/
def checkerSafeUptoRow : OpenClaim := { program := "ytlghhnfpmekdnaa", sum := "7da47a65c5205dd419e427acfb8a5a81e9591772f0d24675520cb93f21a76072", func := "tipstaff/tipstafflaw4.CheckerSafe", spec := "checkerSafe", apart := false, narrowed := true }
def CheckerSafeUptoSaid : Prop := checkerSafeUptoRow.holds Try.pinned (OpenSpec.upto checkerSafeSpec)

/-- 'tipstafflaw4.CheckerWrong', WHERE WHAT IT READS IS OF BULK AT MOST 1048576: true; the input reads as it did. -/
def checkerWrongUptoRow : OpenClaim := { program := "ytlghhnfpmekdnaa", sum := "7da47a65c5205dd419e427acfb8a5a81e9591772f0d24675520cb93f21a76072", func := "tipstaff/tipstafflaw4.CheckerWrong", spec := "checkerWrong", apart := false, narrowed := true }
def CheckerWrongUptoSaid : Prop := checkerWrongUptoRow.holds Try.pinned (OpenSpec.upto checkerWrongSpec)

/-- 'tipstafflaw4.CheckerLong', WHERE WHAT IT READS IS OF BULK AT MOST 1048576: true; the input reads as it did. -/
def checkerLongUptoRow : OpenClaim := { program := "ytlghhnfpmekdnaa", sum := "7da47a65c5205dd419e427acfb8a5a81e9591772f0d24675520cb93f21a76072", func := "tipstaff/tipstafflaw4.CheckerLong", spec := "checkerLong", apart := false, narrowed := true }
def CheckerLongUptoSaid : Prop := checkerLongUptoRow.holds Try.pinned (OpenSpec.upto checkerLongSpec)

/-- 'tipstafflaw4.CheckerMore', WHERE WHAT IT READS IS OF BULK AT MOST 1048576: true; the input reads as it did. -/
def checkerMoreUptoRow : OpenClaim := { program := "ytlghhnfpmekdnaa", sum := "7da47a65c5205dd419e427acfb8a5a81e9591772f0d24675520cb93f21a76072", func := "tipstaff/tipstafflaw4.CheckerMore", spec := "checkerMore", apart := false, narrowed := true }
def CheckerMoreUptoSaid : Prop := checkerMoreUptoRow.holds Try.pinned (OpenSpec.upto checkerMoreSpec)

end Rows
end Go.Proofs.Ytlghhnfpmekdnaa
