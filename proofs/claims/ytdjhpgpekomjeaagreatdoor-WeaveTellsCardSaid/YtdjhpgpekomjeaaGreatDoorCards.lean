/-
  DERIVED. GIVEN WITH THE SEED: THE CARDS: each row of YtdjhpgpekomjeaaGreatDoorRows.lean that lists a variable, with what it lists TIED to the program's text (the seventh form; the later family's looks); each row that meets fmt, with fmt's text TOLD by the authors' own Lean function (tested against real Go, not proved from fmt's source: count such statements apart). THE CARD IS WHAT COUNTS. Prove the row's statement (the work); the ties are given (YtdjhpgpekomjeaaGreatDoorTie.lean); close each card by the builder's one call (the guide's Derived/Test/ToyasCard.lean, 'card_holds'). Laid BY PROGRAM, IN A SANDBOX (cutbox-door.mjs). By AI agents, Wed Nov 11 2026. No macro, syntax, notation, axiom, sorry.
-/
import Derived.Test.YtdjhpgpekomjeaaGreatDoorRows
import GoSem.ClaimSeven
namespace Go.Proofs.YtdjhpgpekomjeaaGreatDoor
namespace Rows

/-- THE TIED CARD OF 'tipstafflaw10.WeaveTells'. -/
def weaveTellsCard : Claim7 := { stood := { row := weaveTellsRow, standIns := [], harness := (true, "89e4425b47d814473af18b4e228c8fd7b8bbe988e61d0b09109d1e0b1b4283a6"), looks := true }, kinds := [], alts := [], laidByText := true, laidKinds := [.data, .data, .data, .data, .sentinel, .sentinel, .pinned], laidTests := true, laidLooks := .later }
def WeaveTellsCardSaid : Prop := Claim7.holds Tryz.pinned (.plain (OpenSpec.ofChange weaveTellsSpec)) weaveTellsCard

/-- THE TIED CARD OF 'tipstafflaw10.WeaveInline'. -/
def weaveInlineCard : Claim7 := { stood := { row := weaveInlineRow, standIns := [], harness := (true, "89e4425b47d814473af18b4e228c8fd7b8bbe988e61d0b09109d1e0b1b4283a6"), looks := true }, kinds := [], alts := [], laidByText := true, laidKinds := [.data, .data, .data, .data, .sentinel, .sentinel, .pinned], laidTests := true, laidLooks := .later }
def WeaveInlineCardSaid : Prop := Claim7.holds Tryz.pinned (.plain (OpenSpec.ofChange weaveInlineSpec)) weaveInlineCard

/-- THE TIED CARD OF 'tipstafflaw10.WeaveTwice'. -/
def weaveTwiceCard : Claim7 := { stood := { row := weaveTwiceRow, standIns := [], harness := (true, "89e4425b47d814473af18b4e228c8fd7b8bbe988e61d0b09109d1e0b1b4283a6"), looks := true }, kinds := [], alts := [], laidByText := true, laidKinds := [.data, .data, .data, .data, .sentinel, .sentinel, .pinned], laidTests := true, laidLooks := .later }
def WeaveTwiceCardSaid : Prop := Claim7.holds Tryz.pinned (.plain (OpenSpec.ofChange weaveTwiceSpec)) weaveTwiceCard

/-- THE SECOND FORM's CARD OF 'tipstafflaw10.WeaveTells'. -/
def weaveTellsUptoCard : Claim7 := { stood := { row := weaveTellsUptoRow, standIns := [], harness := (true, "89e4425b47d814473af18b4e228c8fd7b8bbe988e61d0b09109d1e0b1b4283a6"), looks := true }, kinds := [], alts := [], laidByText := true, laidKinds := [.data, .data, .data, .data, .sentinel, .sentinel, .pinned], laidTests := true, laidLooks := .later }
def WeaveTellsUptoCardSaid : Prop := Claim7.holds Tryz.pinned (.plain (OpenSpec.upto weaveTellsSpec)) weaveTellsUptoCard

/-- THE SECOND FORM's CARD OF 'tipstafflaw10.WeaveInline'. -/
def weaveInlineUptoCard : Claim7 := { stood := { row := weaveInlineUptoRow, standIns := [], harness := (true, "89e4425b47d814473af18b4e228c8fd7b8bbe988e61d0b09109d1e0b1b4283a6"), looks := true }, kinds := [], alts := [], laidByText := true, laidKinds := [.data, .data, .data, .data, .sentinel, .sentinel, .pinned], laidTests := true, laidLooks := .later }
def WeaveInlineUptoCardSaid : Prop := Claim7.holds Tryz.pinned (.plain (OpenSpec.upto weaveInlineSpec)) weaveInlineUptoCard

/-- THE SECOND FORM's CARD OF 'tipstafflaw10.WeaveTwice'. -/
def weaveTwiceUptoCard : Claim7 := { stood := { row := weaveTwiceUptoRow, standIns := [], harness := (true, "89e4425b47d814473af18b4e228c8fd7b8bbe988e61d0b09109d1e0b1b4283a6"), looks := true }, kinds := [], alts := [], laidByText := true, laidKinds := [.data, .data, .data, .data, .sentinel, .sentinel, .pinned], laidTests := true, laidLooks := .later }
def WeaveTwiceUptoCardSaid : Prop := Claim7.holds Tryz.pinned (.plain (OpenSpec.upto weaveTwiceSpec)) weaveTwiceUptoCard
end Rows
end Go.Proofs.YtdjhpgpekomjeaaGreatDoor
