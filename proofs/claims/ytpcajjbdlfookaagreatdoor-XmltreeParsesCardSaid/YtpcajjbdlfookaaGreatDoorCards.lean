/-
  DERIVED. GIVEN WITH THE SEED: THE CARDS: each row of YtpcajjbdlfookaaGreatDoorRows.lean that lists a variable, with what it lists TIED to the program's text (the seventh form; the later family's looks); each row that meets fmt, with fmt's text TOLD by the authors' own Lean function (tested against real Go, not proved from fmt's source: count such statements apart). THE CARD IS WHAT COUNTS. Prove the row's statement (the work); the ties are given (YtpcajjbdlfookaaGreatDoorTie.lean); close each card by the builder's one call (the guide's Derived/Test/ToyasCard.lean, 'card_holds'). Laid BY PROGRAM, IN A SANDBOX (cutbox-door.mjs). By AI agents, Wed Nov 11 2026. No macro, syntax, notation, axiom, sorry.
-/
import Derived.Test.YtpcajjbdlfookaaGreatDoorRows
import GoSem.ClaimSeven
namespace Go.Proofs.YtpcajjbdlfookaaGreatDoor
namespace Rows

/-- THE TIED CARD OF 'dossierlaw06.XmltreeParses'. -/
def xmltreeParsesCard : Claim7 := { stood := { row := xmltreeParsesRow, standIns := [], harness := (true, "5d180b904fbba39e21ac5b3fe1b45ce5919a2cdd53cdc63a2c9f1b702c8c97ad"), looks := true }, kinds := [], alts := [], laidByText := true, laidKinds := [.data, .data, .data, .data, .sentinel, .sentinel, .pinned], laidTests := true, laidLooks := .later }
def XmltreeParsesCardSaid : Prop := Claim7.holds Tryz.pinned (.plain (OpenSpec.ofChange xmltreeParsesSpec)) xmltreeParsesCard

/-- THE TIED CARD OF 'dossierlaw06.XmltreeWrites'. -/
def xmltreeWritesCard : Claim7 := { stood := { row := xmltreeWritesRow, standIns := [], harness := (true, "5d180b904fbba39e21ac5b3fe1b45ce5919a2cdd53cdc63a2c9f1b702c8c97ad"), looks := true }, kinds := [], alts := [], laidByText := true, laidKinds := [.data, .data, .data, .data, .sentinel, .sentinel, .pinned], laidTests := true, laidLooks := .later }
def XmltreeWritesCardSaid : Prop := Claim7.holds Tryz.pinned (.plain (OpenSpec.ofChange xmltreeWritesSpec)) xmltreeWritesCard

/-- THE SECOND FORM's CARD OF 'dossierlaw06.XmltreeParses'. -/
def xmltreeParsesUptoCard : Claim7 := { stood := { row := xmltreeParsesUptoRow, standIns := [], harness := (true, "5d180b904fbba39e21ac5b3fe1b45ce5919a2cdd53cdc63a2c9f1b702c8c97ad"), looks := true }, kinds := [], alts := [], laidByText := true, laidKinds := [.data, .data, .data, .data, .sentinel, .sentinel, .pinned], laidTests := true, laidLooks := .later }
def XmltreeParsesUptoCardSaid : Prop := Claim7.holds Tryz.pinned (.plain (OpenSpec.upto xmltreeParsesSpec)) xmltreeParsesUptoCard

/-- THE SECOND FORM's CARD OF 'dossierlaw06.XmltreeWrites'. -/
def xmltreeWritesUptoCard : Claim7 := { stood := { row := xmltreeWritesUptoRow, standIns := [], harness := (true, "5d180b904fbba39e21ac5b3fe1b45ce5919a2cdd53cdc63a2c9f1b702c8c97ad"), looks := true }, kinds := [], alts := [], laidByText := true, laidKinds := [.data, .data, .data, .data, .sentinel, .sentinel, .pinned], laidTests := true, laidLooks := .later }
def XmltreeWritesUptoCardSaid : Prop := Claim7.holds Tryz.pinned (.plain (OpenSpec.upto xmltreeWritesSpec)) xmltreeWritesUptoCard
end Rows
end Go.Proofs.YtpcajjbdlfookaaGreatDoor
