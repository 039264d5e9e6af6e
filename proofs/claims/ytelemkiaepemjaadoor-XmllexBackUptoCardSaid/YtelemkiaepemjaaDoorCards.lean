/-
  DERIVED. GIVEN WITH THE SEED: THE CARDS: each row of YtelemkiaepemjaaDoorRows.lean that lists a variable, with what it lists TIED to the program's text (the seventh form; the later family's looks); each row that meets fmt, with fmt's text TOLD by the authors' own Lean function (tested against real Go, not proved from fmt's source: count such statements apart). THE CARD IS WHAT COUNTS. Prove the row's statement (the work); the ties are given (YtelemkiaepemjaaDoorTie.lean); close each card by the builder's one call (the guide's Derived/Test/ToyasCard.lean, 'card_holds'). Laid BY PROGRAM, IN A SANDBOX (cutbox-door.mjs). By AI agents, Wed Nov 11 2026. No macro, syntax, notation, axiom, sorry.
-/
import Derived.Test.YtelemkiaepemjaaDoorRows
import GoSem.ClaimSeven
namespace Go.Proofs.YtelemkiaepemjaaDoor
namespace Rows

/-- THE TIED CARD OF 'dossierlaw05.XmllexBack'. -/
def xmllexBackCard : Claim7 := { stood := { row := xmllexBackRow, standIns := [], harness := (true, "0c6ab32a1d0254d5206d8602105738b170d80c4ed128612110299b7da2317d89"), looks := true }, kinds := [], alts := [], laidByText := true, laidKinds := [.data, .data, .data, .data, .sentinel, .sentinel, .pinned], laidTests := true, laidLooks := .later }
def XmllexBackCardSaid : Prop := Claim7.holds Tryd.pinned (.plain (OpenSpec.ofChange xmllexBackSpec)) xmllexBackCard

/-- THE TIED CARD OF 'dossierlaw05.XmllexGoes'. -/
def xmllexGoesCard : Claim7 := { stood := { row := xmllexGoesRow, standIns := [], harness := (true, "0c6ab32a1d0254d5206d8602105738b170d80c4ed128612110299b7da2317d89"), looks := true }, kinds := [], alts := [], laidByText := true, laidKinds := [.data, .data, .data, .data, .sentinel, .sentinel, .pinned], laidTests := true, laidLooks := .later }
def XmllexGoesCardSaid : Prop := Claim7.holds Tryd.pinned (.plain (OpenSpec.ofChange xmllexGoesSpec)) xmllexGoesCard

/-- THE SECOND FORM's CARD OF 'dossierlaw05.XmllexBack'. -/
def xmllexBackUptoCard : Claim7 := { stood := { row := xmllexBackUptoRow, standIns := [], harness := (true, "0c6ab32a1d0254d5206d8602105738b170d80c4ed128612110299b7da2317d89"), looks := true }, kinds := [], alts := [], laidByText := true, laidKinds := [.data, .data, .data, .data, .sentinel, .sentinel, .pinned], laidTests := true, laidLooks := .later }
def XmllexBackUptoCardSaid : Prop := Claim7.holds Tryd.pinned (.plain (OpenSpec.upto xmllexBackSpec)) xmllexBackUptoCard

/-- THE SECOND FORM's CARD OF 'dossierlaw05.XmllexGoes'. -/
def xmllexGoesUptoCard : Claim7 := { stood := { row := xmllexGoesUptoRow, standIns := [], harness := (true, "0c6ab32a1d0254d5206d8602105738b170d80c4ed128612110299b7da2317d89"), looks := true }, kinds := [], alts := [], laidByText := true, laidKinds := [.data, .data, .data, .data, .sentinel, .sentinel, .pinned], laidTests := true, laidLooks := .later }
def XmllexGoesUptoCardSaid : Prop := Claim7.holds Tryd.pinned (.plain (OpenSpec.upto xmllexGoesSpec)) xmllexGoesUptoCard
end Rows
end Go.Proofs.YtelemkiaepemjaaDoor
