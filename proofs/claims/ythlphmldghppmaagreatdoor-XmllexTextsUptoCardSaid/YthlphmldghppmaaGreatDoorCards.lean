/-
  DERIVED. GIVEN WITH THE SEED: THE CARDS: each row of YthlphmldghppmaaGreatDoorRows.lean that lists a variable, with what it lists TIED to the program's text (the seventh form; the later family's looks); each row that meets fmt, with fmt's text TOLD by the authors' own Lean function (tested against real Go, not proved from fmt's source: count such statements apart). THE CARD IS WHAT COUNTS. Prove the row's statement (the work); the ties are given (YthlphmldghppmaaGreatDoorTie.lean); close each card by the builder's one call (the guide's Derived/Test/ToyasCard.lean, 'card_holds'). Laid BY PROGRAM, IN A SANDBOX (cutbox-door.mjs). By AI agents, Wed Nov 11 2026. No macro, syntax, notation, axiom, sorry.
-/
import Derived.Test.YthlphmldghppmaaGreatDoorRows
import GoSem.ClaimSeven
namespace Go.Proofs.YthlphmldghppmaaGreatDoor
namespace Rows

/-- THE TIED CARD OF 'dossierlaw05.XmllexNext'. -/
def xmllexNextCard : Claim7 := { stood := { row := xmllexNextRow, standIns := [], harness := (true, "4382cfdbfcac04068ff60ef08c11b50f4ee24e13bc8dc9342da450d2b3741aa9"), looks := true }, kinds := [], alts := [], laidByText := true, laidKinds := [.data, .data, .data, .data, .sentinel, .sentinel, .pinned], laidTests := true, laidLooks := .later }
def XmllexNextCardSaid : Prop := Claim7.holds Tryz.pinned (.plain (OpenSpec.ofChange xmllexNextSpec)) xmllexNextCard

/-- THE TIED CARD OF 'dossierlaw05.XmllexAll'. -/
def xmllexAllCard : Claim7 := { stood := { row := xmllexAllRow, standIns := [], harness := (true, "4382cfdbfcac04068ff60ef08c11b50f4ee24e13bc8dc9342da450d2b3741aa9"), looks := true }, kinds := [], alts := [], laidByText := true, laidKinds := [.data, .data, .data, .data, .sentinel, .sentinel, .pinned], laidTests := true, laidLooks := .later }
def XmllexAllCardSaid : Prop := Claim7.holds Tryz.pinned (.plain (OpenSpec.ofChange xmllexAllSpec)) xmllexAllCard

/-- THE TIED CARD OF 'dossierlaw05.XmllexTexts'. -/
def xmllexTextsCard : Claim7 := { stood := { row := xmllexTextsRow, standIns := [], harness := (true, "4382cfdbfcac04068ff60ef08c11b50f4ee24e13bc8dc9342da450d2b3741aa9"), looks := true }, kinds := [], alts := [], laidByText := true, laidKinds := [.data, .data, .data, .data, .sentinel, .sentinel, .pinned], laidTests := true, laidLooks := .later }
def XmllexTextsCardSaid : Prop := Claim7.holds Tryz.pinned (.plain (OpenSpec.ofChange xmllexTextsSpec)) xmllexTextsCard

/-- THE SECOND FORM's CARD OF 'dossierlaw05.XmllexNext'. -/
def xmllexNextUptoCard : Claim7 := { stood := { row := xmllexNextUptoRow, standIns := [], harness := (true, "4382cfdbfcac04068ff60ef08c11b50f4ee24e13bc8dc9342da450d2b3741aa9"), looks := true }, kinds := [], alts := [], laidByText := true, laidKinds := [.data, .data, .data, .data, .sentinel, .sentinel, .pinned], laidTests := true, laidLooks := .later }
def XmllexNextUptoCardSaid : Prop := Claim7.holds Tryz.pinned (.plain (OpenSpec.upto xmllexNextSpec)) xmllexNextUptoCard

/-- THE SECOND FORM's CARD OF 'dossierlaw05.XmllexAll'. -/
def xmllexAllUptoCard : Claim7 := { stood := { row := xmllexAllUptoRow, standIns := [], harness := (true, "4382cfdbfcac04068ff60ef08c11b50f4ee24e13bc8dc9342da450d2b3741aa9"), looks := true }, kinds := [], alts := [], laidByText := true, laidKinds := [.data, .data, .data, .data, .sentinel, .sentinel, .pinned], laidTests := true, laidLooks := .later }
def XmllexAllUptoCardSaid : Prop := Claim7.holds Tryz.pinned (.plain (OpenSpec.upto xmllexAllSpec)) xmllexAllUptoCard

/-- THE SECOND FORM's CARD OF 'dossierlaw05.XmllexTexts'. -/
def xmllexTextsUptoCard : Claim7 := { stood := { row := xmllexTextsUptoRow, standIns := [], harness := (true, "4382cfdbfcac04068ff60ef08c11b50f4ee24e13bc8dc9342da450d2b3741aa9"), looks := true }, kinds := [], alts := [], laidByText := true, laidKinds := [.data, .data, .data, .data, .sentinel, .sentinel, .pinned], laidTests := true, laidLooks := .later }
def XmllexTextsUptoCardSaid : Prop := Claim7.holds Tryz.pinned (.plain (OpenSpec.upto xmllexTextsSpec)) xmllexTextsUptoCard
end Rows
end Go.Proofs.YthlphmldghppmaaGreatDoor
