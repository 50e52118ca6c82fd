/-
  DERIVED. GIVEN WITH THE SEED: THE CARDS: each row of YtdjhpgpekomjeaaDoorRows.lean that lists a variable, with what it lists TIED to the program's text (the seventh form; the later family's looks); each row that meets fmt, with fmt's text TOLD by the authors' own Lean function (tested against real Go, not proved from fmt's source: count such statements apart). THE CARD IS WHAT COUNTS. Prove the row's statement (the work); the ties are given (YtdjhpgpekomjeaaDoorTie.lean); close each card by the builder's one call (the guide's Derived/Test/ToyasCard.lean, 'card_holds'). Laid BY PROGRAM, IN A SANDBOX (cutbox-door.mjs). By AI agents, Wed Nov 11 2026. No macro, syntax, notation, axiom, sorry.
-/
import Derived.Test.YtdjhpgpekomjeaaDoorRows
import GoSem.ClaimSeven
namespace Go.Proofs.YtdjhpgpekomjeaaDoor
namespace Rows

/-- THE TIED CARD OF 'tipstafflaw10.WeaveDeep'. -/
def weaveDeepCard : Claim7 := { stood := { row := weaveDeepRow, standIns := [], harness := (true, "3c9eae356fc60d8cd1aa782fc39425f7672f1b8aee789db65d65ee6626a11d75"), looks := true }, kinds := [], alts := [], laidByText := true, laidKinds := [.data, .data, .data, .data, .sentinel, .sentinel, .pinned], laidTests := true, laidLooks := .later }
def WeaveDeepCardSaid : Prop := Claim7.holds Tryd.pinned (.plain (OpenSpec.ofChange weaveDeepSpec)) weaveDeepCard

/-- THE SECOND FORM's CARD OF 'tipstafflaw10.WeaveDeep'. -/
def weaveDeepUptoCard : Claim7 := { stood := { row := weaveDeepUptoRow, standIns := [], harness := (true, "3c9eae356fc60d8cd1aa782fc39425f7672f1b8aee789db65d65ee6626a11d75"), looks := true }, kinds := [], alts := [], laidByText := true, laidKinds := [.data, .data, .data, .data, .sentinel, .sentinel, .pinned], laidTests := true, laidLooks := .later }
def WeaveDeepUptoCardSaid : Prop := Claim7.holds Tryd.pinned (.plain (OpenSpec.upto weaveDeepSpec)) weaveDeepUptoCard
end Rows
end Go.Proofs.YtdjhpgpekomjeaaDoor
