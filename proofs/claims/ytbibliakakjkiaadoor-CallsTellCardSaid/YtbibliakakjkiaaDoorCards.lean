/-
  DERIVED. GIVEN WITH THE SEED: THE CARDS: each row of YtbibliakakjkiaaDoorRows.lean that lists a variable, with what it lists TIED to the program's text (the seventh form; the later family's looks); each row that meets fmt, with fmt's text TOLD by the authors' own Lean function (tested against real Go, not proved from fmt's source: count such statements apart). THE CARD IS WHAT COUNTS. Prove the row's statement (the work); the ties are given (YtbibliakakjkiaaDoorTie.lean); close each card by the builder's one call (the guide's Derived/Test/ToyasCard.lean, 'card_holds'). Laid BY PROGRAM, IN A SANDBOX (cutbox-door.mjs). By AI agents, Wed Nov 11 2026. No macro, syntax, notation, axiom, sorry.
-/
import Derived.Test.YtbibliakakjkiaaDoorRows
import GoSem.ClaimSeven
namespace Go.Proofs.YtbibliakakjkiaaDoor
namespace Rows

/-- THE TIED CARD OF 'tipstafflaw7.CallsTell'. -/
def callsTellCard : Claim7 := { stood := { row := callsTellRow, standIns := [], harness := (true, "d06c5ddcba981dd6b6eae5da9034e76360ef01b998b322dff06774e053573e35"), looks := false }, kinds := [], alts := [], laidByText := true, laidKinds := [.listed, .data], laidTests := true, laidLooks := .later }
def CallsTellCardSaid : Prop := Claim7.holds Tryd.pinned (.plain (OpenSpec.ofChange callsTellSpec)) callsTellCard

/-- THE TIED CARD OF 'tipstafflaw7.CallsAll'. -/
def callsAllCard : Claim7 := { stood := { row := callsAllRow, standIns := [], harness := (true, "d06c5ddcba981dd6b6eae5da9034e76360ef01b998b322dff06774e053573e35"), looks := false }, kinds := [], alts := [], laidByText := true, laidKinds := [.listed, .data], laidTests := true, laidLooks := .later }
def CallsAllCardSaid : Prop := Claim7.holds Tryd.pinned (.plain (OpenSpec.ofChange callsAllSpec)) callsAllCard

/-- THE TIED CARD OF 'tipstafflaw7.CallsValues'. -/
def callsValuesCard : Claim7 := { stood := { row := callsValuesRow, standIns := [], harness := (true, "d06c5ddcba981dd6b6eae5da9034e76360ef01b998b322dff06774e053573e35"), looks := false }, kinds := [], alts := [], laidByText := true, laidKinds := [.listed, .data], laidTests := true, laidLooks := .later }
def CallsValuesCardSaid : Prop := Claim7.holds Tryd.pinned (.plain (OpenSpec.ofChange callsValuesSpec)) callsValuesCard

/-- THE SECOND FORM's CARD OF 'tipstafflaw7.CallsTell'. -/
def callsTellUptoCard : Claim7 := { stood := { row := callsTellUptoRow, standIns := [], harness := (true, "d06c5ddcba981dd6b6eae5da9034e76360ef01b998b322dff06774e053573e35"), looks := false }, kinds := [], alts := [], laidByText := true, laidKinds := [.listed, .data], laidTests := true, laidLooks := .later }
def CallsTellUptoCardSaid : Prop := Claim7.holds Tryd.pinned (.plain (OpenSpec.upto callsTellSpec)) callsTellUptoCard

/-- THE SECOND FORM's CARD OF 'tipstafflaw7.CallsAll'. -/
def callsAllUptoCard : Claim7 := { stood := { row := callsAllUptoRow, standIns := [], harness := (true, "d06c5ddcba981dd6b6eae5da9034e76360ef01b998b322dff06774e053573e35"), looks := false }, kinds := [], alts := [], laidByText := true, laidKinds := [.listed, .data], laidTests := true, laidLooks := .later }
def CallsAllUptoCardSaid : Prop := Claim7.holds Tryd.pinned (.plain (OpenSpec.upto callsAllSpec)) callsAllUptoCard

/-- THE SECOND FORM's CARD OF 'tipstafflaw7.CallsValues'. -/
def callsValuesUptoCard : Claim7 := { stood := { row := callsValuesUptoRow, standIns := [], harness := (true, "d06c5ddcba981dd6b6eae5da9034e76360ef01b998b322dff06774e053573e35"), looks := false }, kinds := [], alts := [], laidByText := true, laidKinds := [.listed, .data], laidTests := true, laidLooks := .later }
def CallsValuesUptoCardSaid : Prop := Claim7.holds Tryd.pinned (.plain (OpenSpec.upto callsValuesSpec)) callsValuesUptoCard
end Rows
end Go.Proofs.YtbibliakakjkiaaDoor
