/-
  NARROWER THAN 'FOR EVERY INPUT', by the rows' own cells (each row's printed sentence says how): ModelEvents: laid.
  DERIVED. THE GIVEN ROWS OF THIS SEAT. 1 by the template 'for every input the law returns true; each argument reads behind the call as it read before'; 0 by the template 'total and deterministic' (their statements: YthkkoippagocpaaGreatDoorTotals.lean).
  GIVEN WITH THE SEED: the statements are not yours to turn. If you find one false, say at which input.
  Laid BY PROGRAM, IN A SANDBOX (cutbox-rows.mjs): the forced cells as the released guide's own fill.sh prints them over the translation 1dcbfcd269ce7f2d… (all of the seat's roots in one cut). By AI agents, Wed Nov 11 2026. No macro, syntax, notation, axiom, sorry.
-/
import Derived.Test.YthkkoippagocpaaGreatDoorChecked
import GoSem.PinnedTables
import GoSem.Claim
import GoSem.ClaimJoined
import GoSem.ClaimMapViews
import Derived.JoinedTies
import Derived.KernelRfl
namespace Go.Proofs.YthkkoippagocpaaGreatDoor
/- THE CELL 'sum', in the pinned program and in every row, IS THE sha256 OF THE DUMP (.gsa) THAT YthkkoippagocpaaGreatDoorProg.lean LOADS. Nothing in Lean hashes anything: it is a label: what it is worth is what the hold of that sum in a sandbox is worth. -/
noncomputable def Tryz.pinned : Pinned := { name := "ythkkoippagocpaagreatdoor", sum := "1dcbfcd269ce7f2dde75d0cc327c8d03bdab8f0675a9b7738338486f0b634d71", checked := Tryz.checked }
namespace Rows
def none {H : Type} : Left H := { results := [], args := [] }

/- WHAT THE LISTED PACKAGE-LEVEL VARIABLES READ AS WHEN THE CALL BEGINS. Each datum BY PROGRAM (the guide's laid-datum.mjs) off the statement by which the dump's own 'gosem.cut.vars' lays the variable. In a bare row this is a premise. The card (YthkkoippagocpaaGreatDoorCards.lean) ties it to the program's text. -/
def laid_unicode_utf8_acceptRanges {H : Type} : DataW H := .agg [.agg [.lit (.int .u8 128), .lit (.int .u8 191)], .agg [.lit (.int .u8 160), .lit (.int .u8 191)], .agg [.lit (.int .u8 128), .lit (.int .u8 159)], .agg [.lit (.int .u8 144), .lit (.int .u8 191)], .agg [.lit (.int .u8 128), .lit (.int .u8 143)], .agg [.lit (.int .u8 0), .lit (.int .u8 0)], .agg [.lit (.int .u8 0), .lit (.int .u8 0)], .agg [.lit (.int .u8 0), .lit (.int .u8 0)], .agg [.lit (.int .u8 0), .lit (.int .u8 0)], .agg [.lit (.int .u8 0), .lit (.int .u8 0)], .agg [.lit (.int .u8 0), .lit (.int .u8 0)], .agg [.lit (.int .u8 0), .lit (.int .u8 0)], .agg [.lit (.int .u8 0), .lit (.int .u8 0)], .agg [.lit (.int .u8 0), .lit (.int .u8 0)], .agg [.lit (.int .u8 0), .lit (.int .u8 0)], .agg [.lit (.int .u8 0), .lit (.int .u8 0)]]
def laid_dossier_expr_operators {H : Type} : DataW H := .agg [.agg [.lit (.string [111, 114]), .lit (.int .i64 19), .lit (.int .i64 0), .lit (.int .i64 2)], .agg [.lit (.string [97, 110, 100]), .lit (.int .i64 18), .lit (.int .i64 1), .lit (.int .i64 2)], .agg [.lit (.string [110, 111, 116]), .lit (.int .i64 5), .lit (.int .i64 2), .lit (.int .i64 1)], .agg [.lit (.string [60]), .lit (.int .i64 12), .lit (.int .i64 3), .lit (.int .i64 2)], .agg [.lit (.string [60, 61]), .lit (.int .i64 13), .lit (.int .i64 3), .lit (.int .i64 2)], .agg [.lit (.string [62]), .lit (.int .i64 14), .lit (.int .i64 3), .lit (.int .i64 2)], .agg [.lit (.string [62, 61]), .lit (.int .i64 15), .lit (.int .i64 3), .lit (.int .i64 2)], .agg [.lit (.string [61]), .lit (.int .i64 16), .lit (.int .i64 3), .lit (.int .i64 2)], .agg [.lit (.string [33, 61]), .lit (.int .i64 17), .lit (.int .i64 3), .lit (.int .i64 2)], .agg [.lit (.string [43]), .lit (.int .i64 10), .lit (.int .i64 4), .lit (.int .i64 2)], .agg [.lit (.string [45]), .lit (.int .i64 11), .lit (.int .i64 4), .lit (.int .i64 2)], .agg [.lit (.string [42]), .lit (.int .i64 7), .lit (.int .i64 5), .lit (.int .i64 2)], .agg [.lit (.string [47]), .lit (.int .i64 8), .lit (.int .i64 5), .lit (.int .i64 2)], .agg [.lit (.string [37]), .lit (.int .i64 9), .lit (.int .i64 5), .lit (.int .i64 2)], .agg [.lit (.string [45]), .lit (.int .i64 6), .lit (.int .i64 6), .lit (.int .i64 1)]]
def laid_dossier_expr_stateNames {H : Type} : DataW H := .agg [.lit (.string []), .lit (.string [97, 118, 97, 105, 108, 97, 98, 108, 101]), .lit (.string [101, 110, 97, 98, 108, 101, 100]), .lit (.string [100, 105, 115, 97, 98, 108, 101, 100]), .lit (.string [97, 99, 116, 105, 118, 101]), .lit (.string [102, 97, 105, 108, 101, 100]), .lit (.string [115, 117, 115, 112, 101, 110, 100, 101, 100]), .lit (.string [99, 111, 109, 112, 108, 101, 116, 101, 100]), .lit (.string [116, 101, 114, 109, 105, 110, 97, 116, 101, 100])]
def laid_dossier_model_eventNames {H : Type} : DataW H := .agg [.lit (.string []), .lit (.string [99, 114, 101, 97, 116, 101]), .lit (.string [101, 110, 97, 98, 108, 101]), .lit (.string [100, 105, 115, 97, 98, 108, 101]), .lit (.string [114, 101, 101, 110, 97, 98, 108, 101]), .lit (.string [115, 116, 97, 114, 116]), .lit (.string [109, 97, 110, 117, 97, 108, 83, 116, 97, 114, 116]), .lit (.string [99, 111, 109, 112, 108, 101, 116, 101]), .lit (.string [102, 97, 117, 108, 116]), .lit (.string [114, 101, 97, 99, 116, 105, 118, 97, 116, 101]), .lit (.string [115, 117, 115, 112, 101, 110, 100]), .lit (.string [114, 101, 115, 117, 109, 101]), .lit (.string [116, 101, 114, 109, 105, 110, 97, 116, 101]), .lit (.string [101, 120, 105, 116]), .lit (.string [112, 97, 114, 101, 110, 116, 84, 101, 114, 109, 105, 110, 97, 116, 101]), .lit (.string [112, 97, 114, 101, 110, 116, 83, 117, 115, 112, 101, 110, 100]), .lit (.string [112, 97, 114, 101, 110, 116, 82, 101, 115, 117, 109, 101]), .lit (.string [111, 99, 99, 117, 114]), .lit (.string [99, 108, 111, 115, 101]), .lit (.string []), .lit (.string []), .lit (.string [114, 101, 112, 108, 97, 99, 101]), .lit (.string [117, 112, 100, 97, 116, 101]), .lit (.string [100, 101, 108, 101, 116, 101]), .lit (.string [97, 100, 100, 67, 104, 105, 108, 100]), .lit (.string [114, 101, 109, 111, 118, 101, 67, 104, 105, 108, 100]), .lit (.string [97, 100, 100, 82, 101, 102, 101, 114, 101, 110, 99, 101]), .lit (.string [114, 101, 109, 111, 118, 101, 82, 101, 102, 101, 114, 101, 110, 99, 101])]
/-- One of Go's own tables, pinned by name: the form's constant. -/
def laid_unicode_utf8_first : DataW Unit := Go.Pinned.utf8First

/-- 'dossierlaw13.ModelEvents': WHATEVER THE INPUT: true; the input reads as it did. -/
def modelEventsSpec : ChangeSpec := { name := "modelEvents", fn := fun _ => fun
  | [d1, d2, d3] => { results := [.lit (.bool true)], args := [d1, d2, d3] }
  | _ => none }
def modelEventsRow : OpenClaim := { program := "ythkkoippagocpaagreatdoor", sum := "1dcbfcd269ce7f2dde75d0cc327c8d03bdab8f0675a9b7738338486f0b634d71", func := "dossier/dossierlaw13.ModelEvents", spec := "modelEvents", inPlace := ["internal/bytealg.IndexByteString", "internal/bytealg.IndexString"], unfollowed := true, recurses := true, named := ["dossier/model.eventNames", "unicode/utf8.first", "unicode/utf8.acceptRanges", "internal/bytealg.MaxLen", "dossier/expr.stateNames", "dossier/expr.operators"], apart := false, laid := [("unicode/utf8.acceptRanges", laid_unicode_utf8_acceptRanges), ("dossier/expr.operators", laid_dossier_expr_operators), ("dossier/expr.stateNames", laid_dossier_expr_stateNames), ("dossier/model.eventNames", laid_dossier_model_eventNames), ("unicode/utf8.first", laid_unicode_utf8_first)] }
def ModelEventsSaid : Prop := modelEventsRow.holds Tryz.pinned (OpenSpec.ofChange modelEventsSpec)

/-- ITS FALSE NEIGHBOUR: 'it returns false'. Refute it at one input. -/
def modelEventsWrong : ChangeSpec := { name := "modelEvents", fn := fun _ => fun
  | [d1, d2, d3] => { results := [.lit (.bool false)], args := [d1, d2, d3] }
  | _ => none }
def ModelEventsWrongFalsely : Prop := modelEventsRow.holds Tryz.pinned (OpenSpec.ofChange modelEventsWrong)

/- THE SECOND FORM. 'bulk': how many values and letters a reading holds, each counted each time it is reached (what is shared counts as often as it is met; a slice's spare places count too). A statement '..UptoSaid' is the law's where the arguments, and the package variables that the reading takes, are together of bulk at most 1048576: NARROWER than '..Said'. Prove '..Said' where nothing that the law and all that it calls make is longer than what came in: it says more and counts as full. Else prove '..UptoSaid'. A law counts once. -/
mutual
def uptoBulk {H : Type} : DataW H → Nat
  | .lit (.string bytes) => bytes.length + 1
  | .lit _ => 1
  | .nil => 1
  | .ptr d => uptoBulk d + 1
  | .slice elems spare => uptoBulkAll elems + uptoBulkAll spare + 1
  | .agg parts => uptoBulkAll parts + 1
  | .iface _ d => uptoBulk d + 1
  | .map entries => uptoBulkEntries entries + 1
  | .held _ => 1
def uptoBulkAll {H : Type} : List (DataW H) → Nat
  | [] => 0
  | d :: r => uptoBulk d + uptoBulkAll r
def uptoBulkEntries {H : Type} : List (Lit × DataW H) → Nat
  | [] => 0
  | x :: r => uptoBulkEntry x + uptoBulkEntries r
def uptoBulkEntry {H : Type} : Lit × DataW H → Nat
  | (.string bytes, d) => bytes.length + uptoBulk d + 1
  | (_, d) => uptoBulk d + 1
 end
def uptoSmall : (H : Type) → List (DataW H) → Bool := fun _ ds => decide (uptoBulkAll ds ≤ 1048576)
def OpenSpec.upto (s : _root_.Go.ChangeSpec) : _root_.Go.OpenSpec := { _root_.Go.OpenSpec.ofChange s with cond := some uptoSmall }

/-- 'dossierlaw13.ModelEvents', WHERE WHAT IT READS IS OF BULK AT MOST 1048576: true; the input reads as it did. -/
def modelEventsUptoRow : OpenClaim := { program := "ythkkoippagocpaagreatdoor", sum := "1dcbfcd269ce7f2dde75d0cc327c8d03bdab8f0675a9b7738338486f0b634d71", func := "dossier/dossierlaw13.ModelEvents", spec := "modelEvents", inPlace := ["internal/bytealg.IndexByteString", "internal/bytealg.IndexString"], unfollowed := true, recurses := true, named := ["dossier/model.eventNames", "unicode/utf8.first", "unicode/utf8.acceptRanges", "internal/bytealg.MaxLen", "dossier/expr.stateNames", "dossier/expr.operators"], apart := false, laid := [("unicode/utf8.acceptRanges", laid_unicode_utf8_acceptRanges), ("dossier/expr.operators", laid_dossier_expr_operators), ("dossier/expr.stateNames", laid_dossier_expr_stateNames), ("dossier/model.eventNames", laid_dossier_model_eventNames), ("unicode/utf8.first", laid_unicode_utf8_first)], narrowed := true }
def ModelEventsUptoSaid : Prop := modelEventsUptoRow.holds Tryz.pinned (OpenSpec.upto modelEventsSpec)

end Rows
end Go.Proofs.YthkkoippagocpaaGreatDoor
