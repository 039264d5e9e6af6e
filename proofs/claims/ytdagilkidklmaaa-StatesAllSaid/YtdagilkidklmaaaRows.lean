/-
  No cell of these rows narrows 'for every input' (looked for: loops, veiled, ifaces, maps, wideKeys, modest, calm, conditions, laid).
  DERIVED. THE GIVEN ROWS OF THIS SEAT. 3 by the template 'for every input the law returns true; each argument reads behind the call as it read before'; 0 by the template 'total and deterministic' (their statements: YtdagilkidklmaaaTotals.lean).
  GIVEN WITH THE SEED: the statements are not yours to turn. If you find one false, say at which input.
  Laid BY PROGRAM, IN A SANDBOX (cutbox-rows.mjs): the forced cells as the released guide's own fill.sh prints them over the translation ba5836809fa713a4… (all of the seat's roots in one cut). By AI agents, Wed Nov 11 2026. No macro, syntax, notation, axiom, sorry.
-/
import Derived.Test.YtdagilkidklmaaaChecked
import GoSem.Claim
import GoSem.ClaimJoined
import GoSem.ClaimMapViews
import Derived.JoinedTies
import Derived.KernelRfl
namespace Go.Proofs.Ytdagilkidklmaaa
/- THE CELL 'sum', in the pinned program and in every row, IS THE sha256 OF THE DUMP (.gsa) THAT YtdagilkidklmaaaProg.lean LOADS. Nothing in Lean hashes anything: it is a label: what it is worth is what the hold of that sum in a sandbox is worth. -/
noncomputable def Try.pinned : Pinned := { name := "ytdagilkidklmaaa", sum := "ba5836809fa713a47c83103a362d438739b08c40248d912e2a78e30e4acc69cd", checked := Try.checked }
namespace Rows
def none {H : Type} : Left H := { results := [], args := [] }

/-- 'dossierlaw17.StatesNext': WHATEVER THE INPUT: true; the input reads as it did. -/
def statesNextSpec : ChangeSpec := { name := "statesNext", fn := fun _ => fun
  | [d1, d2, d3, d4, d5] => { results := [.lit (.bool true)], args := [d1, d2, d3, d4, d5] }
  | _ => none }
def statesNextRow : OpenClaim := { program := "ytdagilkidklmaaa", sum := "ba5836809fa713a47c83103a362d438739b08c40248d912e2a78e30e4acc69cd", func := "dossier/dossierlaw17.StatesNext", spec := "statesNext", recurses := true, apart := false }
def StatesNextSaid : Prop := statesNextRow.holds Try.pinned (OpenSpec.ofChange statesNextSpec)

/-- ITS FALSE NEIGHBOUR: 'it returns false'. Refute it at one input. -/
def statesNextWrong : ChangeSpec := { name := "statesNext", fn := fun _ => fun
  | [d1, d2, d3, d4, d5] => { results := [.lit (.bool false)], args := [d1, d2, d3, d4, d5] }
  | _ => none }
def StatesNextWrongFalsely : Prop := statesNextRow.holds Try.pinned (OpenSpec.ofChange statesNextWrong)

/-- 'dossierlaw17.StatesAll': WHATEVER THE INPUT: true; the input reads as it did. -/
def statesAllSpec : ChangeSpec := { name := "statesAll", fn := fun _ => fun
  | [d] => { results := [.lit (.bool true)], args := [d] }
  | _ => none }
def statesAllRow : OpenClaim := { program := "ytdagilkidklmaaa", sum := "ba5836809fa713a47c83103a362d438739b08c40248d912e2a78e30e4acc69cd", func := "dossier/dossierlaw17.StatesAll", spec := "statesAll", recurses := true, apart := false }
def StatesAllSaid : Prop := statesAllRow.holds Try.pinned (OpenSpec.ofChange statesAllSpec)

/-- ITS FALSE NEIGHBOUR: 'it returns false'. Refute it at one input. -/
def statesAllWrong : ChangeSpec := { name := "statesAll", fn := fun _ => fun
  | [d] => { results := [.lit (.bool false)], args := [d] }
  | _ => none }
def StatesAllWrongFalsely : Prop := statesAllRow.holds Try.pinned (OpenSpec.ofChange statesAllWrong)

/-- 'dossierlaw17.StatesGo': WHATEVER THE INPUT: true; the input reads as it did. -/
def statesGoSpec : ChangeSpec := { name := "statesGo", fn := fun _ => fun
  | [d1, d2] => { results := [.lit (.bool true)], args := [d1, d2] }
  | _ => none }
def statesGoRow : OpenClaim := { program := "ytdagilkidklmaaa", sum := "ba5836809fa713a47c83103a362d438739b08c40248d912e2a78e30e4acc69cd", func := "dossier/dossierlaw17.StatesGo", spec := "statesGo", recurses := true, apart := false }
def StatesGoSaid : Prop := statesGoRow.holds Try.pinned (OpenSpec.ofChange statesGoSpec)

/-- ITS FALSE NEIGHBOUR: 'it returns false'. Refute it at one input. -/
def statesGoWrong : ChangeSpec := { name := "statesGo", fn := fun _ => fun
  | [d1, d2] => { results := [.lit (.bool false)], args := [d1, d2] }
  | _ => none }
def StatesGoWrongFalsely : Prop := statesGoRow.holds Try.pinned (OpenSpec.ofChange statesGoWrong)

/- THE SECOND FORM. 'bulk': how many values and letters a reading holds, each counted each time it is reached (what is shared counts as often as it is met; a slice's spare places count too). A statement '..UptoSaid' is the law's where the arguments, and the package variables that the reading takes, are together of bulk at most 1048576: NARROWER than '..Said'. Prove '..Said' where nothing that the law and all that it calls make is longer than what came in: it says more and counts as full. Else prove '..UptoSaid'. A law counts once. -/
mutual
def uptoBulk {H : Type} : DataW H → Nat
  | .lit (.string bytes) => bytes.length + 1
  | .lit _ => 1
  | .nil => 1
  | .ptr d => uptoBulk d + 1
  | .slice elems spare => uptoBulkAll elems + uptoBulkAll spare + 1
  | .agg parts => uptoBulkAll parts + 1
  | .iface _ d => uptoBulk d + 1
  | .map entries => uptoBulkEntries entries + 1
  | .held _ => 1
def uptoBulkAll {H : Type} : List (DataW H) → Nat
  | [] => 0
  | d :: r => uptoBulk d + uptoBulkAll r
def uptoBulkEntries {H : Type} : List (Lit × DataW H) → Nat
  | [] => 0
  | x :: r => uptoBulkEntry x + uptoBulkEntries r
def uptoBulkEntry {H : Type} : Lit × DataW H → Nat
  | (.string bytes, d) => bytes.length + uptoBulk d + 1
  | (_, d) => uptoBulk d + 1
 end
def uptoSmall : (H : Type) → List (DataW H) → Bool := fun _ ds => decide (uptoBulkAll ds ≤ 1048576)
def OpenSpec.upto (s : _root_.Go.ChangeSpec) : _root_.Go.OpenSpec := { _root_.Go.OpenSpec.ofChange s with cond := some uptoSmall }

/-- 'dossierlaw17.StatesNext', WHERE WHAT IT READS IS OF BULK AT MOST 1048576: true; the input reads as it did. -/
def statesNextUptoRow : OpenClaim := { program := "ytdagilkidklmaaa", sum := "ba5836809fa713a47c83103a362d438739b08c40248d912e2a78e30e4acc69cd", func := "dossier/dossierlaw17.StatesNext", spec := "statesNext", recurses := true, apart := false, narrowed := true }
def StatesNextUptoSaid : Prop := statesNextUptoRow.holds Try.pinned (OpenSpec.upto statesNextSpec)

/-- 'dossierlaw17.StatesAll', WHERE WHAT IT READS IS OF BULK AT MOST 1048576: true; the input reads as it did. -/
def statesAllUptoRow : OpenClaim := { program := "ytdagilkidklmaaa", sum := "ba5836809fa713a47c83103a362d438739b08c40248d912e2a78e30e4acc69cd", func := "dossier/dossierlaw17.StatesAll", spec := "statesAll", recurses := true, apart := false, narrowed := true }
def StatesAllUptoSaid : Prop := statesAllUptoRow.holds Try.pinned (OpenSpec.upto statesAllSpec)

/-- 'dossierlaw17.StatesGo', WHERE WHAT IT READS IS OF BULK AT MOST 1048576: true; the input reads as it did. -/
def statesGoUptoRow : OpenClaim := { program := "ytdagilkidklmaaa", sum := "ba5836809fa713a47c83103a362d438739b08c40248d912e2a78e30e4acc69cd", func := "dossier/dossierlaw17.StatesGo", spec := "statesGo", recurses := true, apart := false, narrowed := true }
def StatesGoUptoSaid : Prop := statesGoUptoRow.holds Try.pinned (OpenSpec.upto statesGoSpec)

end Rows
end Go.Proofs.Ytdagilkidklmaaa
