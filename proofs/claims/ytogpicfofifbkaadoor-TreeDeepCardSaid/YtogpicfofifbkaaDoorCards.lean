/-
  DERIVED. GIVEN WITH THE SEED: THE CARDS: each row of YtogpicfofifbkaaDoorRows.lean that lists a variable, with what it lists TIED to the program's text (the seventh form; the later family's looks); each row that meets fmt, with fmt's text TOLD by the authors' own Lean function (tested against real Go, not proved from fmt's source: count such statements apart). THE CARD IS WHAT COUNTS. Prove the row's statement (the work); the ties are given (YtogpicfofifbkaaDoorTie.lean); close each card by the builder's one call (the guide's Derived/Test/ToyasCard.lean, 'card_holds'). Laid BY PROGRAM, IN A SANDBOX (cutbox-door.mjs). By AI agents, Wed Nov 11 2026. No macro, syntax, notation, axiom, sorry.
-/
import Derived.Test.YtogpicfofifbkaaDoorRows
import GoSem.ClaimSeven
namespace Go.Proofs.YtogpicfofifbkaaDoor
namespace Rows

/-- THE TIED CARD OF 'tipstafflaw11.TreeDeep'. -/
def treeDeepCard : Claim7 := { stood := { row := treeDeepRow, standIns := [], harness := (true, "c1493ba2ba5a8e04e948258c04dd0d68aa0bd64724c59b4e9d796371f216557c"), looks := true }, kinds := [], alts := [], laidByText := true, laidKinds := [.data, .pinned], laidTests := true, laidLooks := .later }
def TreeDeepCardSaid : Prop := Claim7.holds Tryd.pinned (.plain (OpenSpec.ofChange treeDeepSpec)) treeDeepCard

/-- THE TIED CARD OF 'tipstafflaw11.TreeKinds'. -/
def treeKindsCard : Claim7 := { stood := { row := treeKindsRow, standIns := [], harness := (true, "c1493ba2ba5a8e04e948258c04dd0d68aa0bd64724c59b4e9d796371f216557c"), looks := true }, kinds := [], alts := [], laidByText := true, laidKinds := [.data, .pinned], laidTests := true, laidLooks := .later }
def TreeKindsCardSaid : Prop := Claim7.holds Tryd.pinned (.plain (OpenSpec.ofChange treeKindsSpec)) treeKindsCard

/-- THE SECOND FORM's CARD OF 'tipstafflaw11.TreeDeep'. -/
def treeDeepUptoCard : Claim7 := { stood := { row := treeDeepUptoRow, standIns := [], harness := (true, "c1493ba2ba5a8e04e948258c04dd0d68aa0bd64724c59b4e9d796371f216557c"), looks := true }, kinds := [], alts := [], laidByText := true, laidKinds := [.data, .pinned], laidTests := true, laidLooks := .later }
def TreeDeepUptoCardSaid : Prop := Claim7.holds Tryd.pinned (.plain (OpenSpec.upto treeDeepSpec)) treeDeepUptoCard

/-- THE SECOND FORM's CARD OF 'tipstafflaw11.TreeKinds'. -/
def treeKindsUptoCard : Claim7 := { stood := { row := treeKindsUptoRow, standIns := [], harness := (true, "c1493ba2ba5a8e04e948258c04dd0d68aa0bd64724c59b4e9d796371f216557c"), looks := true }, kinds := [], alts := [], laidByText := true, laidKinds := [.data, .pinned], laidTests := true, laidLooks := .later }
def TreeKindsUptoCardSaid : Prop := Claim7.holds Tryd.pinned (.plain (OpenSpec.upto treeKindsSpec)) treeKindsUptoCard
end Rows
end Go.Proofs.YtogpicfofifbkaaDoor
