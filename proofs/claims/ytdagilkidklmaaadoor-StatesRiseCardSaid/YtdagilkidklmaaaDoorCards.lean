/-
  DERIVED. GIVEN WITH THE SEED: THE CARDS: each row of YtdagilkidklmaaaDoorRows.lean that lists a variable, with what it lists TIED to the program's text (the seventh form; the later family's looks); each row that meets fmt, with fmt's text TOLD by the authors' own Lean function (tested against real Go, not proved from fmt's source: count such statements apart). THE CARD IS WHAT COUNTS. Prove the row's statement (the work); the ties are given (YtdagilkidklmaaaDoorTie.lean); close each card by the builder's one call (the guide's Derived/Test/ToyasCard.lean, 'card_holds'). Laid BY PROGRAM, IN A SANDBOX (cutbox-door.mjs). By AI agents, Wed Nov 11 2026. No macro, syntax, notation, axiom, sorry.
-/
import Derived.Test.YtdagilkidklmaaaDoorRows
import GoSem.ClaimSeven
namespace Go.Proofs.YtdagilkidklmaaaDoor
namespace Rows

/-- THE TIED CARD OF 'dossierlaw17.StatesRise'. -/
def statesRiseCard : Claim7 := { stood := { row := statesRiseRow, standIns := [], harness := (true, "2615a64c48afacd495d4c08b0edc6cf8312f2a0a84ebc40c221e52ce0e487242"), looks := false }, kinds := [], alts := [], laidByText := true, laidKinds := [.data], laidTests := true, laidLooks := .later }
def StatesRiseCardSaid : Prop := Claim7.holds Tryd.pinned (.plain (OpenSpec.ofChange statesRiseSpec)) statesRiseCard

/-- THE SECOND FORM's CARD OF 'dossierlaw17.StatesRise'. -/
def statesRiseUptoCard : Claim7 := { stood := { row := statesRiseUptoRow, standIns := [], harness := (true, "2615a64c48afacd495d4c08b0edc6cf8312f2a0a84ebc40c221e52ce0e487242"), looks := false }, kinds := [], alts := [], laidByText := true, laidKinds := [.data], laidTests := true, laidLooks := .later }
def StatesRiseUptoCardSaid : Prop := Claim7.holds Tryd.pinned (.plain (OpenSpec.upto statesRiseSpec)) statesRiseUptoCard
end Rows
end Go.Proofs.YtdagilkidklmaaaDoor
