/-
  DERIVED. GIVEN WITH THE SEED: THE CARDS: each row of YtgabeacpgmomhaaDoorRows.lean that lists a variable, with what it lists TIED to the program's text (the seventh form; the later family's looks); each row that meets fmt, with fmt's text TOLD by the authors' own Lean function (tested against real Go, not proved from fmt's source: count such statements apart). THE CARD IS WHAT COUNTS. Prove the row's statement (the work); the ties are given (YtgabeacpgmomhaaDoorTie.lean); close each card by the builder's one call (the guide's Derived/Test/ToyasCard.lean, 'card_holds'). Laid BY PROGRAM, IN A SANDBOX (cutbox-door.mjs). By AI agents, Wed Nov 11 2026. No macro, syntax, notation, axiom, sorry.
-/
import Derived.Test.YtgabeacpgmomhaaDoorRows
import GoSem.ClaimSeven
namespace Go.Proofs.YtgabeacpgmomhaaDoor
namespace Rows

/-- THE TIED CARD OF 'tipstafflaw9.TokenTells'. -/
def tokenTellsCard : Claim7 := { stood := { row := tokenTellsRow, standIns := [], harness := (true, "a111a787213e06620ab31d5fad4cbbdf2b05f023a02524b80554d0dba2c4db9a"), looks := true }, kinds := [], alts := [], laidByText := true, laidKinds := [.data, .data, .data, .data, .sentinel, .sentinel, .pinned], laidTests := true, laidLooks := .later }
def TokenTellsCardSaid : Prop := Claim7.holds Tryd.pinned (.plain (OpenSpec.ofChange tokenTellsSpec)) tokenTellsCard

/-- THE TIED CARD OF 'tipstafflaw9.TokenBlank'. -/
def tokenBlankCard : Claim7 := { stood := { row := tokenBlankRow, standIns := [], harness := (true, "a111a787213e06620ab31d5fad4cbbdf2b05f023a02524b80554d0dba2c4db9a"), looks := true }, kinds := [], alts := [], laidByText := true, laidKinds := [.data, .data, .data, .data, .sentinel, .sentinel, .pinned], laidTests := true, laidLooks := .later }
def TokenBlankCardSaid : Prop := Claim7.holds Tryd.pinned (.plain (OpenSpec.ofChange tokenBlankSpec)) tokenBlankCard

/-- THE TIED CARD OF 'tipstafflaw9.TokenWrong'. -/
def tokenWrongCard : Claim7 := { stood := { row := tokenWrongRow, standIns := [], harness := (true, "a111a787213e06620ab31d5fad4cbbdf2b05f023a02524b80554d0dba2c4db9a"), looks := true }, kinds := [], alts := [], laidByText := true, laidKinds := [.data, .data, .data, .data, .sentinel, .sentinel, .pinned], laidTests := true, laidLooks := .later }
def TokenWrongCardSaid : Prop := Claim7.holds Tryd.pinned (.plain (OpenSpec.ofChange tokenWrongSpec)) tokenWrongCard

/-- THE TIED CARD OF 'tipstafflaw9.TokenJoin'. -/
def tokenJoinCard : Claim7 := { stood := { row := tokenJoinRow, standIns := [], harness := (true, "a111a787213e06620ab31d5fad4cbbdf2b05f023a02524b80554d0dba2c4db9a"), looks := true }, kinds := [], alts := [], laidByText := true, laidKinds := [.data, .data, .data, .data, .sentinel, .sentinel, .pinned], laidTests := true, laidLooks := .later }
def TokenJoinCardSaid : Prop := Claim7.holds Tryd.pinned (.plain (OpenSpec.ofChange tokenJoinSpec)) tokenJoinCard

/-- THE SECOND FORM's CARD OF 'tipstafflaw9.TokenTells'. -/
def tokenTellsUptoCard : Claim7 := { stood := { row := tokenTellsUptoRow, standIns := [], harness := (true, "a111a787213e06620ab31d5fad4cbbdf2b05f023a02524b80554d0dba2c4db9a"), looks := true }, kinds := [], alts := [], laidByText := true, laidKinds := [.data, .data, .data, .data, .sentinel, .sentinel, .pinned], laidTests := true, laidLooks := .later }
def TokenTellsUptoCardSaid : Prop := Claim7.holds Tryd.pinned (.plain (OpenSpec.upto tokenTellsSpec)) tokenTellsUptoCard

/-- THE SECOND FORM's CARD OF 'tipstafflaw9.TokenBlank'. -/
def tokenBlankUptoCard : Claim7 := { stood := { row := tokenBlankUptoRow, standIns := [], harness := (true, "a111a787213e06620ab31d5fad4cbbdf2b05f023a02524b80554d0dba2c4db9a"), looks := true }, kinds := [], alts := [], laidByText := true, laidKinds := [.data, .data, .data, .data, .sentinel, .sentinel, .pinned], laidTests := true, laidLooks := .later }
def TokenBlankUptoCardSaid : Prop := Claim7.holds Tryd.pinned (.plain (OpenSpec.upto tokenBlankSpec)) tokenBlankUptoCard

/-- THE SECOND FORM's CARD OF 'tipstafflaw9.TokenWrong'. -/
def tokenWrongUptoCard : Claim7 := { stood := { row := tokenWrongUptoRow, standIns := [], harness := (true, "a111a787213e06620ab31d5fad4cbbdf2b05f023a02524b80554d0dba2c4db9a"), looks := true }, kinds := [], alts := [], laidByText := true, laidKinds := [.data, .data, .data, .data, .sentinel, .sentinel, .pinned], laidTests := true, laidLooks := .later }
def TokenWrongUptoCardSaid : Prop := Claim7.holds Tryd.pinned (.plain (OpenSpec.upto tokenWrongSpec)) tokenWrongUptoCard

/-- THE SECOND FORM's CARD OF 'tipstafflaw9.TokenJoin'. -/
def tokenJoinUptoCard : Claim7 := { stood := { row := tokenJoinUptoRow, standIns := [], harness := (true, "a111a787213e06620ab31d5fad4cbbdf2b05f023a02524b80554d0dba2c4db9a"), looks := true }, kinds := [], alts := [], laidByText := true, laidKinds := [.data, .data, .data, .data, .sentinel, .sentinel, .pinned], laidTests := true, laidLooks := .later }
def TokenJoinUptoCardSaid : Prop := Claim7.holds Tryd.pinned (.plain (OpenSpec.upto tokenJoinSpec)) tokenJoinUptoCard
end Rows
end Go.Proofs.YtgabeacpgmomhaaDoor
