/-
  NARROWER THAN 'FOR EVERY INPUT', by the rows' own cells (each row's printed sentence says how): ExprParses: laid · ExprNames: laid.
  DERIVED. THE GIVEN ROWS OF THIS SEAT. 2 by the template 'for every input the law returns true; each argument reads behind the call as it read before'; 0 by the template 'total and deterministic' (their statements: YtikofngogkchfaaDoorTotals.lean).
  GIVEN WITH THE SEED: the statements are not yours to turn. If you find one false, say at which input.
  Laid BY PROGRAM, IN A SANDBOX (cutbox-rows.mjs): the forced cells as the released guide's own fill.sh prints them over the translation 1b4d483f3bbad13e… (all of the seat's roots in one cut). By AI agents, Wed Nov 11 2026. No macro, syntax, notation, axiom, sorry.
-/
import Derived.Test.YtikofngogkchfaaDoorChecked
import GoSem.PinnedTables
import GoSem.Claim
import GoSem.ClaimJoined
import GoSem.ClaimMapViews
import Derived.JoinedTies
import Derived.KernelRfl
namespace Go.Proofs.YtikofngogkchfaaDoor
/- THE CELL 'sum', in the pinned program and in every row, IS THE sha256 OF THE DUMP (.gsa) THAT YtikofngogkchfaaDoorProg.lean LOADS. Nothing in Lean hashes anything: it is a label: what it is worth is what the hold of that sum in a sandbox is worth. -/
noncomputable def Tryd.pinned : Pinned := { name := "ytikofngogkchfaadoor", sum := "1b4d483f3bbad13e993cf50d1b758fe9acbabbe7d415c651084ab0a09852162b", checked := Tryd.checked }
namespace Rows
def none {H : Type} : Left H := { results := [], args := [] }

/- WHAT THE LISTED PACKAGE-LEVEL VARIABLES READ AS WHEN THE CALL BEGINS. Each datum BY PROGRAM (the guide's laid-datum.mjs) off the statement by which the dump's own 'gosem.cut.vars' lays the variable. In a bare row this is a premise. The card (YtikofngogkchfaaDoorCards.lean) ties it to the program's text. -/
def laid_unicode_utf8_acceptRanges {H : Type} : DataW H := .agg [.agg [.lit (.int .u8 128), .lit (.int .u8 191)], .agg [.lit (.int .u8 160), .lit (.int .u8 191)], .agg [.lit (.int .u8 128), .lit (.int .u8 159)], .agg [.lit (.int .u8 144), .lit (.int .u8 191)], .agg [.lit (.int .u8 128), .lit (.int .u8 143)], .agg [.lit (.int .u8 0), .lit (.int .u8 0)], .agg [.lit (.int .u8 0), .lit (.int .u8 0)], .agg [.lit (.int .u8 0), .lit (.int .u8 0)], .agg [.lit (.int .u8 0), .lit (.int .u8 0)], .agg [.lit (.int .u8 0), .lit (.int .u8 0)], .agg [.lit (.int .u8 0), .lit (.int .u8 0)], .agg [.lit (.int .u8 0), .lit (.int .u8 0)], .agg [.lit (.int .u8 0), .lit (.int .u8 0)], .agg [.lit (.int .u8 0), .lit (.int .u8 0)], .agg [.lit (.int .u8 0), .lit (.int .u8 0)], .agg [.lit (.int .u8 0), .lit (.int .u8 0)]]
def laid_dossier_expr_operators {H : Type} : DataW H := .agg [.agg [.lit (.string [111, 114]), .lit (.int .i64 19), .lit (.int .i64 0), .lit (.int .i64 2)], .agg [.lit (.string [97, 110, 100]), .lit (.int .i64 18), .lit (.int .i64 1), .lit (.int .i64 2)], .agg [.lit (.string [110, 111, 116]), .lit (.int .i64 5), .lit (.int .i64 2), .lit (.int .i64 1)], .agg [.lit (.string [60]), .lit (.int .i64 12), .lit (.int .i64 3), .lit (.int .i64 2)], .agg [.lit (.string [60, 61]), .lit (.int .i64 13), .lit (.int .i64 3), .lit (.int .i64 2)], .agg [.lit (.string [62]), .lit (.int .i64 14), .lit (.int .i64 3), .lit (.int .i64 2)], .agg [.lit (.string [62, 61]), .lit (.int .i64 15), .lit (.int .i64 3), .lit (.int .i64 2)], .agg [.lit (.string [61]), .lit (.int .i64 16), .lit (.int .i64 3), .lit (.int .i64 2)], .agg [.lit (.string [33, 61]), .lit (.int .i64 17), .lit (.int .i64 3), .lit (.int .i64 2)], .agg [.lit (.string [43]), .lit (.int .i64 10), .lit (.int .i64 4), .lit (.int .i64 2)], .agg [.lit (.string [45]), .lit (.int .i64 11), .lit (.int .i64 4), .lit (.int .i64 2)], .agg [.lit (.string [42]), .lit (.int .i64 7), .lit (.int .i64 5), .lit (.int .i64 2)], .agg [.lit (.string [47]), .lit (.int .i64 8), .lit (.int .i64 5), .lit (.int .i64 2)], .agg [.lit (.string [37]), .lit (.int .i64 9), .lit (.int .i64 5), .lit (.int .i64 2)], .agg [.lit (.string [45]), .lit (.int .i64 6), .lit (.int .i64 6), .lit (.int .i64 1)]]
def laid_dossier_expr_stateNames {H : Type} : DataW H := .agg [.lit (.string []), .lit (.string [97, 118, 97, 105, 108, 97, 98, 108, 101]), .lit (.string [101, 110, 97, 98, 108, 101, 100]), .lit (.string [100, 105, 115, 97, 98, 108, 101, 100]), .lit (.string [97, 99, 116, 105, 118, 101]), .lit (.string [102, 97, 105, 108, 101, 100]), .lit (.string [115, 117, 115, 112, 101, 110, 100, 101, 100]), .lit (.string [99, 111, 109, 112, 108, 101, 116, 101, 100]), .lit (.string [116, 101, 114, 109, 105, 110, 97, 116, 101, 100])]
/-- One of Go's own tables, pinned by name: the form's constant. -/
def laid_unicode_utf8_first : DataW Unit := Go.Pinned.utf8First

/-- 'dossierlaw09.ExprParses': WHATEVER THE INPUT: true; the input reads as it did. -/
def exprParsesSpec : ChangeSpec := { name := "exprParses", fn := fun _ => fun
  | [d] => { results := [.lit (.bool true)], args := [d] }
  | _ => none }
def exprParsesRow : OpenClaim := { program := "ytikofngogkchfaadoor", sum := "1b4d483f3bbad13e993cf50d1b758fe9acbabbe7d415c651084ab0a09852162b", func := "dossier/dossierlaw09.ExprParses", spec := "exprParses", unfollowed := true, recurses := true, named := ["unicode/utf8.first", "unicode/utf8.acceptRanges", "dossier/expr.stateNames", "dossier/expr.operators"], apart := false, laid := [("unicode/utf8.acceptRanges", laid_unicode_utf8_acceptRanges), ("dossier/expr.operators", laid_dossier_expr_operators), ("dossier/expr.stateNames", laid_dossier_expr_stateNames), ("unicode/utf8.first", laid_unicode_utf8_first)] }
def ExprParsesSaid : Prop := exprParsesRow.holds Tryd.pinned (OpenSpec.ofChange exprParsesSpec)

/-- ITS FALSE NEIGHBOUR: 'it returns false'. Refute it at one input. -/
def exprParsesWrong : ChangeSpec := { name := "exprParses", fn := fun _ => fun
  | [d] => { results := [.lit (.bool false)], args := [d] }
  | _ => none }
def ExprParsesWrongFalsely : Prop := exprParsesRow.holds Tryd.pinned (OpenSpec.ofChange exprParsesWrong)

/-- 'dossierlaw09.ExprNames': WHATEVER THE INPUT: true; the input reads as it did. -/
def exprNamesSpec : ChangeSpec := { name := "exprNames", fn := fun _ => fun
  | [d1, d2] => { results := [.lit (.bool true)], args := [d1, d2] }
  | _ => none }
def exprNamesRow : OpenClaim := { program := "ytikofngogkchfaadoor", sum := "1b4d483f3bbad13e993cf50d1b758fe9acbabbe7d415c651084ab0a09852162b", func := "dossier/dossierlaw09.ExprNames", spec := "exprNames", unfollowed := true, recurses := true, named := ["dossier/expr.stateNames", "unicode/utf8.first", "unicode/utf8.acceptRanges", "dossier/expr.operators"], apart := false, laid := [("unicode/utf8.acceptRanges", laid_unicode_utf8_acceptRanges), ("dossier/expr.operators", laid_dossier_expr_operators), ("dossier/expr.stateNames", laid_dossier_expr_stateNames), ("unicode/utf8.first", laid_unicode_utf8_first)] }
def ExprNamesSaid : Prop := exprNamesRow.holds Tryd.pinned (OpenSpec.ofChange exprNamesSpec)

/-- ITS FALSE NEIGHBOUR: 'it returns false'. Refute it at one input. -/
def exprNamesWrong : ChangeSpec := { name := "exprNames", fn := fun _ => fun
  | [d1, d2] => { results := [.lit (.bool false)], args := [d1, d2] }
  | _ => none }
def ExprNamesWrongFalsely : Prop := exprNamesRow.holds Tryd.pinned (OpenSpec.ofChange exprNamesWrong)

/- THE SECOND FORM. 'bulk': how many values and letters a reading holds, each counted each time it is reached (what is shared counts as often as it is met; a slice's spare places count too). A statement '..UptoSaid' is the law's where the arguments, and the package variables that the reading takes, are together of bulk at most 1048576: NARROWER than '..Said'. Prove '..Said' where nothing that the law and all that it calls make is longer than what came in: it says more and counts as full. Else prove '..UptoSaid'. A law counts once. -/
mutual
def uptoBulk {H : Type} : DataW H → Nat
  | .lit (.string bytes) => bytes.length + 1
  | .lit _ => 1
  | .nil => 1
  | .ptr d => uptoBulk d + 1
  | .slice elems spare => uptoBulkAll elems + uptoBulkAll spare + 1
  | .agg parts => uptoBulkAll parts + 1
  | .iface _ d => uptoBulk d + 1
  | .map entries => uptoBulkEntries entries + 1
  | .held _ => 1
def uptoBulkAll {H : Type} : List (DataW H) → Nat
  | [] => 0
  | d :: r => uptoBulk d + uptoBulkAll r
def uptoBulkEntries {H : Type} : List (Lit × DataW H) → Nat
  | [] => 0
  | x :: r => uptoBulkEntry x + uptoBulkEntries r
def uptoBulkEntry {H : Type} : Lit × DataW H → Nat
  | (.string bytes, d) => bytes.length + uptoBulk d + 1
  | (_, d) => uptoBulk d + 1
 end
def uptoSmall : (H : Type) → List (DataW H) → Bool := fun _ ds => decide (uptoBulkAll ds ≤ 1048576)
def OpenSpec.upto (s : _root_.Go.ChangeSpec) : _root_.Go.OpenSpec := { _root_.Go.OpenSpec.ofChange s with cond := some uptoSmall }

/-- 'dossierlaw09.ExprParses', WHERE WHAT IT READS IS OF BULK AT MOST 1048576: true; the input reads as it did. -/
def exprParsesUptoRow : OpenClaim := { program := "ytikofngogkchfaadoor", sum := "1b4d483f3bbad13e993cf50d1b758fe9acbabbe7d415c651084ab0a09852162b", func := "dossier/dossierlaw09.ExprParses", spec := "exprParses", unfollowed := true, recurses := true, named := ["unicode/utf8.first", "unicode/utf8.acceptRanges", "dossier/expr.stateNames", "dossier/expr.operators"], apart := false, laid := [("unicode/utf8.acceptRanges", laid_unicode_utf8_acceptRanges), ("dossier/expr.operators", laid_dossier_expr_operators), ("dossier/expr.stateNames", laid_dossier_expr_stateNames), ("unicode/utf8.first", laid_unicode_utf8_first)], narrowed := true }
def ExprParsesUptoSaid : Prop := exprParsesUptoRow.holds Tryd.pinned (OpenSpec.upto exprParsesSpec)

/-- 'dossierlaw09.ExprNames', WHERE WHAT IT READS IS OF BULK AT MOST 1048576: true; the input reads as it did. -/
def exprNamesUptoRow : OpenClaim := { program := "ytikofngogkchfaadoor", sum := "1b4d483f3bbad13e993cf50d1b758fe9acbabbe7d415c651084ab0a09852162b", func := "dossier/dossierlaw09.ExprNames", spec := "exprNames", unfollowed := true, recurses := true, named := ["dossier/expr.stateNames", "unicode/utf8.first", "unicode/utf8.acceptRanges", "dossier/expr.operators"], apart := false, laid := [("unicode/utf8.acceptRanges", laid_unicode_utf8_acceptRanges), ("dossier/expr.operators", laid_dossier_expr_operators), ("dossier/expr.stateNames", laid_dossier_expr_stateNames), ("unicode/utf8.first", laid_unicode_utf8_first)], narrowed := true }
def ExprNamesUptoSaid : Prop := exprNamesUptoRow.holds Tryd.pinned (OpenSpec.upto exprNamesSpec)

end Rows
end Go.Proofs.YtikofngogkchfaaDoor
