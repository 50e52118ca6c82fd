/-
  DERIVED. GIVEN WITH THE SEED: THE CARDS: each row of YtdcpdieejknliaaDoorRows.lean that lists a variable, with what it lists TIED to the program's text (the seventh form; the later family's looks); each row that meets fmt, with fmt's text TOLD by the authors' own Lean function (tested against real Go, not proved from fmt's source: count such statements apart). THE CARD IS WHAT COUNTS. Prove the row's statement (the work); the ties are given (YtdcpdieejknliaaDoorTie.lean); close each card by the builder's one call (the guide's Derived/Test/ToyasCard.lean, 'card_holds'). Laid BY PROGRAM, IN A SANDBOX (cutbox-door.mjs). By AI agents, Wed Nov 11 2026. No macro, syntax, notation, axiom, sorry.
-/
import Derived.Test.YtdcpdieejknliaaDoorRows
import GoSem.ClaimSeven
namespace Go.Proofs.YtdcpdieejknliaaDoor
namespace Rows

/-- THE TIED CARD OF 'tipstafflaw5.ListingTells'. -/
def listingTellsCard : Claim7 := { stood := { row := listingTellsRow, standIns := [], harness := (true, "ded35876db5e650763db5e665d6633ae9e324b573cf1f744d7c7c5de75b750db"), looks := true }, kinds := [], alts := [], laidByText := true, laidKinds := [.data, .data, .data, .sentinel, .sentinel, .data], laidTests := true, laidLooks := .later }
def ListingTellsCardSaid : Prop := Claim7.holds Tryd.pinned (.plain (OpenSpec.ofChange listingTellsSpec)) listingTellsCard

/-- THE TIED CARD OF 'tipstafflaw5.ListingWrong'. -/
def listingWrongCard : Claim7 := { stood := { row := listingWrongRow, standIns := [], harness := (true, "ded35876db5e650763db5e665d6633ae9e324b573cf1f744d7c7c5de75b750db"), looks := true }, kinds := [], alts := [], laidByText := true, laidKinds := [.data, .data, .data, .sentinel, .sentinel, .data], laidTests := true, laidLooks := .later }
def ListingWrongCardSaid : Prop := Claim7.holds Tryd.pinned (.plain (OpenSpec.ofChange listingWrongSpec)) listingWrongCard

/-- THE TIED CARD OF 'tipstafflaw5.ListingJoin'. -/
def listingJoinCard : Claim7 := { stood := { row := listingJoinRow, standIns := [], harness := (true, "ded35876db5e650763db5e665d6633ae9e324b573cf1f744d7c7c5de75b750db"), looks := true }, kinds := [], alts := [], laidByText := true, laidKinds := [.data, .data, .data, .sentinel, .sentinel, .data], laidTests := true, laidLooks := .later }
def ListingJoinCardSaid : Prop := Claim7.holds Tryd.pinned (.plain (OpenSpec.ofChange listingJoinSpec)) listingJoinCard

/-- THE SECOND FORM's CARD OF 'tipstafflaw5.ListingTells'. -/
def listingTellsUptoCard : Claim7 := { stood := { row := listingTellsUptoRow, standIns := [], harness := (true, "ded35876db5e650763db5e665d6633ae9e324b573cf1f744d7c7c5de75b750db"), looks := true }, kinds := [], alts := [], laidByText := true, laidKinds := [.data, .data, .data, .sentinel, .sentinel, .data], laidTests := true, laidLooks := .later }
def ListingTellsUptoCardSaid : Prop := Claim7.holds Tryd.pinned (.plain (OpenSpec.upto listingTellsSpec)) listingTellsUptoCard

/-- THE SECOND FORM's CARD OF 'tipstafflaw5.ListingWrong'. -/
def listingWrongUptoCard : Claim7 := { stood := { row := listingWrongUptoRow, standIns := [], harness := (true, "ded35876db5e650763db5e665d6633ae9e324b573cf1f744d7c7c5de75b750db"), looks := true }, kinds := [], alts := [], laidByText := true, laidKinds := [.data, .data, .data, .sentinel, .sentinel, .data], laidTests := true, laidLooks := .later }
def ListingWrongUptoCardSaid : Prop := Claim7.holds Tryd.pinned (.plain (OpenSpec.upto listingWrongSpec)) listingWrongUptoCard

/-- THE SECOND FORM's CARD OF 'tipstafflaw5.ListingJoin'. -/
def listingJoinUptoCard : Claim7 := { stood := { row := listingJoinUptoRow, standIns := [], harness := (true, "ded35876db5e650763db5e665d6633ae9e324b573cf1f744d7c7c5de75b750db"), looks := true }, kinds := [], alts := [], laidByText := true, laidKinds := [.data, .data, .data, .sentinel, .sentinel, .data], laidTests := true, laidLooks := .later }
def ListingJoinUptoCardSaid : Prop := Claim7.holds Tryd.pinned (.plain (OpenSpec.upto listingJoinSpec)) listingJoinUptoCard
end Rows
end Go.Proofs.YtdcpdieejknliaaDoor
