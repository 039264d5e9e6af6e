/-
  NARROWER THAN 'FOR EVERY INPUT', by the rows' own cells (each row's printed sentence says how): RolesCheck: loops · RolesNone: loops · RolesKnown: loops.
  DERIVED. THE GIVEN ROWS OF THIS SEAT. 3 by the template 'for every input the law returns true; each argument reads behind the call as it read before'; 0 by the template 'total and deterministic' (their statements: YtkapelpbepejfaaTotals.lean).
  GIVEN WITH THE SEED: the statements are not yours to turn. If you find one false, say at which input.
  Laid BY PROGRAM, IN A SANDBOX (cutbox-rows.mjs): the forced cells as the released guide's own fill.sh prints them over the translation 3930dc7f39fc2b19… (all of the seat's roots in one cut). By AI agents, Wed Nov 11 2026. No macro, syntax, notation, axiom, sorry.
-/
import Derived.Test.YtkapelpbepejfaaChecked
import GoSem.Claim
import GoSem.ClaimJoined
import GoSem.ClaimMapViews
import Derived.JoinedTies
import Derived.KernelRfl
namespace Go.Proofs.Ytkapelpbepejfaa
/- THE CELL 'sum', in the pinned program and in every row, IS THE sha256 OF THE DUMP (.gsa) THAT YtkapelpbepejfaaProg.lean LOADS. Nothing in Lean hashes anything: it is a label: what it is worth is what the hold of that sum in a sandbox is worth. -/
noncomputable def Try.pinned : Pinned := { name := "ytkapelpbepejfaa", sum := "3930dc7f39fc2b19a35640b725a0b0aafe811a45523e4014ded114ff29f2827f", checked := Try.checked }
namespace Rows
def none {H : Type} : Left H := { results := [], args := [] }

/-- 'dossierlaw27.RolesCheck': WHATEVER THE INPUT: true; the input reads as it did. -/
def rolesCheckSpec : ChangeSpec := { name := "rolesCheck", fn := fun _ => fun
  | [d1, d2, d3] => { results := [.lit (.bool true)], args := [d1, d2, d3] }
  | _ => none }
def rolesCheckRow : OpenClaim := { program := "ytkapelpbepejfaa", sum := "3930dc7f39fc2b19a35640b725a0b0aafe811a45523e4014ded114ff29f2827f", func := "dossier/dossierlaw27.RolesCheck", spec := "rolesCheck", unfollowed := true, recurses := true, loops := true, apart := false }
def RolesCheckSaid : Prop := rolesCheckRow.holds Try.pinned (OpenSpec.ofChange rolesCheckSpec)

/-- ITS FALSE NEIGHBOUR: 'it returns false'. Refute it at one input. -/
def rolesCheckWrong : ChangeSpec := { name := "rolesCheck", fn := fun _ => fun
  | [d1, d2, d3] => { results := [.lit (.bool false)], args := [d1, d2, d3] }
  | _ => none }
def RolesCheckWrongFalsely : Prop := rolesCheckRow.holds Try.pinned (OpenSpec.ofChange rolesCheckWrong)

/-- 'dossierlaw27.RolesNone': WHATEVER THE INPUT: true; the input reads as it did. -/
def rolesNoneSpec : ChangeSpec := { name := "rolesNone", fn := fun _ => fun
  | [d1, d2, d3] => { results := [.lit (.bool true)], args := [d1, d2, d3] }
  | _ => none }
def rolesNoneRow : OpenClaim := { program := "ytkapelpbepejfaa", sum := "3930dc7f39fc2b19a35640b725a0b0aafe811a45523e4014ded114ff29f2827f", func := "dossier/dossierlaw27.RolesNone", spec := "rolesNone", unfollowed := true, recurses := true, loops := true, apart := false }
def RolesNoneSaid : Prop := rolesNoneRow.holds Try.pinned (OpenSpec.ofChange rolesNoneSpec)

/-- ITS FALSE NEIGHBOUR: 'it returns false'. Refute it at one input. -/
def rolesNoneWrong : ChangeSpec := { name := "rolesNone", fn := fun _ => fun
  | [d1, d2, d3] => { results := [.lit (.bool false)], args := [d1, d2, d3] }
  | _ => none }
def RolesNoneWrongFalsely : Prop := rolesNoneRow.holds Try.pinned (OpenSpec.ofChange rolesNoneWrong)

/-- 'dossierlaw27.RolesKnown': WHATEVER THE INPUT: true; the input reads as it did. -/
def rolesKnownSpec : ChangeSpec := { name := "rolesKnown", fn := fun _ => fun
  | [d1, d2, d3] => { results := [.lit (.bool true)], args := [d1, d2, d3] }
  | _ => none }
def rolesKnownRow : OpenClaim := { program := "ytkapelpbepejfaa", sum := "3930dc7f39fc2b19a35640b725a0b0aafe811a45523e4014ded114ff29f2827f", func := "dossier/dossierlaw27.RolesKnown", spec := "rolesKnown", unfollowed := true, recurses := true, loops := true, apart := false }
def RolesKnownSaid : Prop := rolesKnownRow.holds Try.pinned (OpenSpec.ofChange rolesKnownSpec)

/-- ITS FALSE NEIGHBOUR: 'it returns false'. Refute it at one input. -/
def rolesKnownWrong : ChangeSpec := { name := "rolesKnown", fn := fun _ => fun
  | [d1, d2, d3] => { results := [.lit (.bool false)], args := [d1, d2, d3] }
  | _ => none }
def RolesKnownWrongFalsely : Prop := rolesKnownRow.holds Try.pinned (OpenSpec.ofChange rolesKnownWrong)

/- THE SECOND FORM. 'bulk': how many values and letters a reading holds, each counted each time it is reached (what is shared counts as often as it is met; a slice's spare places count too). A statement '..UptoSaid' is the law's where the arguments, and the package variables that the reading takes, are together of bulk at most 1048576: NARROWER than '..Said'. Prove '..Said' where nothing that the law and all that it calls make is longer than what came in: it says more and counts as full. Else prove '..UptoSaid'. A law counts once. -/
mutual
def uptoBulk {H : Type} : DataW H → Nat
  | .lit (.string bytes) => bytes.length + 1
  | .lit _ => 1
  | .nil => 1
  | .ptr d => uptoBulk d + 1
  | .slice elems spare => uptoBulkAll elems + uptoBulkAll spare + 1
  | .agg parts => uptoBulkAll parts + 1
  | .iface _ d => uptoBulk d + 1
  | .map entries => uptoBulkEntries entries + 1
  | .held _ => 1
def uptoBulkAll {H : Type} : List (DataW H) → Nat
  | [] => 0
  | d :: r => uptoBulk d + uptoBulkAll r
def uptoBulkEntries {H : Type} : List (Lit × DataW H) → Nat
  | [] => 0
  | x :: r => uptoBulkEntry x + uptoBulkEntries r
def uptoBulkEntry {H : Type} : Lit × DataW H → Nat
  | (.string bytes, d) => bytes.length + uptoBulk d + 1
  | (_, d) => uptoBulk d + 1
 end
def uptoSmall : (H : Type) → List (DataW H) → Bool := fun _ ds => decide (uptoBulkAll ds ≤ 1048576)
def OpenSpec.upto (s : _root_.Go.ChangeSpec) : _root_.Go.OpenSpec := { _root_.Go.OpenSpec.ofChange s with cond := some uptoSmall }

/-- 'dossierlaw27.RolesCheck', WHERE WHAT IT READS IS OF BULK AT MOST 1048576: true; the input reads as it did. -/
def rolesCheckUptoRow : OpenClaim := { program := "ytkapelpbepejfaa", sum := "3930dc7f39fc2b19a35640b725a0b0aafe811a45523e4014ded114ff29f2827f", func := "dossier/dossierlaw27.RolesCheck", spec := "rolesCheck", unfollowed := true, recurses := true, loops := true, apart := false, narrowed := true }
def RolesCheckUptoSaid : Prop := rolesCheckUptoRow.holds Try.pinned (OpenSpec.upto rolesCheckSpec)

/-- 'dossierlaw27.RolesNone', WHERE WHAT IT READS IS OF BULK AT MOST 1048576: true; the input reads as it did. -/
def rolesNoneUptoRow : OpenClaim := { program := "ytkapelpbepejfaa", sum := "3930dc7f39fc2b19a35640b725a0b0aafe811a45523e4014ded114ff29f2827f", func := "dossier/dossierlaw27.RolesNone", spec := "rolesNone", unfollowed := true, recurses := true, loops := true, apart := false, narrowed := true }
def RolesNoneUptoSaid : Prop := rolesNoneUptoRow.holds Try.pinned (OpenSpec.upto rolesNoneSpec)

/-- 'dossierlaw27.RolesKnown', WHERE WHAT IT READS IS OF BULK AT MOST 1048576: true; the input reads as it did. -/
def rolesKnownUptoRow : OpenClaim := { program := "ytkapelpbepejfaa", sum := "3930dc7f39fc2b19a35640b725a0b0aafe811a45523e4014ded114ff29f2827f", func := "dossier/dossierlaw27.RolesKnown", spec := "rolesKnown", unfollowed := true, recurses := true, loops := true, apart := false, narrowed := true }
def RolesKnownUptoSaid : Prop := rolesKnownUptoRow.holds Try.pinned (OpenSpec.upto rolesKnownSpec)

end Rows
end Go.Proofs.Ytkapelpbepejfaa
