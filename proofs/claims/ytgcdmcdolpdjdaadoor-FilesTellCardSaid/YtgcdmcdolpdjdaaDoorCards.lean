/-
  DERIVED. GIVEN WITH THE SEED: THE CARDS: each row of YtgcdmcdolpdjdaaDoorRows.lean that lists a variable, with what it lists TIED to the program's text (the seventh form; the later family's looks); each row that meets fmt, with fmt's text TOLD by the authors' own Lean function (tested against real Go, not proved from fmt's source: count such statements apart). THE CARD IS WHAT COUNTS. Prove the row's statement (the work); the ties are given (YtgcdmcdolpdjdaaDoorTie.lean); close each card by the builder's one call (the guide's Derived/Test/ToyasCard.lean, 'card_holds'). Laid BY PROGRAM, IN A SANDBOX (cutbox-door.mjs). By AI agents, Wed Nov 11 2026. No macro, syntax, notation, axiom, sorry.
-/
import Derived.Test.YtgcdmcdolpdjdaaDoorRows
import GoSem.ClaimSeven
namespace Go.Proofs.YtgcdmcdolpdjdaaDoor
namespace Rows

/-- THE TIED CARD OF 'tipstafflaw8.FilesTell'. -/
def filesTellCard : Claim7 := { stood := { row := filesTellRow, standIns := [], harness := (true, "8e50cc8c807dced2beba540b351cbb71f6276b47dfefda67633460785dfd7bb6"), looks := false }, kinds := [], alts := [], laidByText := true, laidKinds := [.data, .pinned], laidTests := true, laidLooks := .later }
def FilesTellCardSaid : Prop := Claim7.holds Tryd.pinned (.plain (OpenSpec.ofChange filesTellSpec)) filesTellCard

/-- THE TIED CARD OF 'tipstafflaw8.FilesClean'. -/
def filesCleanCard : Claim7 := { stood := { row := filesCleanRow, standIns := [], harness := (true, "8e50cc8c807dced2beba540b351cbb71f6276b47dfefda67633460785dfd7bb6"), looks := false }, kinds := [], alts := [], laidByText := true, laidKinds := [.data, .pinned], laidTests := true, laidLooks := .later }
def FilesCleanCardSaid : Prop := Claim7.holds Tryd.pinned (.plain (OpenSpec.ofChange filesCleanSpec)) filesCleanCard

/-- THE SECOND FORM's CARD OF 'tipstafflaw8.FilesTell'. -/
def filesTellUptoCard : Claim7 := { stood := { row := filesTellUptoRow, standIns := [], harness := (true, "8e50cc8c807dced2beba540b351cbb71f6276b47dfefda67633460785dfd7bb6"), looks := false }, kinds := [], alts := [], laidByText := true, laidKinds := [.data, .pinned], laidTests := true, laidLooks := .later }
def FilesTellUptoCardSaid : Prop := Claim7.holds Tryd.pinned (.plain (OpenSpec.upto filesTellSpec)) filesTellUptoCard

/-- THE SECOND FORM's CARD OF 'tipstafflaw8.FilesClean'. -/
def filesCleanUptoCard : Claim7 := { stood := { row := filesCleanUptoRow, standIns := [], harness := (true, "8e50cc8c807dced2beba540b351cbb71f6276b47dfefda67633460785dfd7bb6"), looks := false }, kinds := [], alts := [], laidByText := true, laidKinds := [.data, .pinned], laidTests := true, laidLooks := .later }
def FilesCleanUptoCardSaid : Prop := Claim7.holds Tryd.pinned (.plain (OpenSpec.upto filesCleanSpec)) filesCleanUptoCard
end Rows
end Go.Proofs.YtgcdmcdolpdjdaaDoor
