/-
  No cell of these rows narrows 'for every input' (looked for: loops, veiled, ifaces, maps, wideKeys, modest, calm, conditions, laid).
  DERIVED. THE GIVEN ROWS OF THIS SEAT. 3 by the template 'for every input the law returns true; each argument reads behind the call as it read before'; 0 by the template 'total and deterministic' (their statements: YtiklfbbefchhlaaTotals.lean).
  GIVEN WITH THE SEED: the statements are not yours to turn. If you find one false, say at which input.
  Laid BY PROGRAM, IN A SANDBOX (cutbox-rows.mjs): the forced cells as the released guide's own fill.sh prints them over the translation 7f9634537a262543… (all of the seat's roots in one cut). By AI agents, Wed Nov 11 2026. No macro, syntax, notation, axiom, sorry.
-/
import Derived.Test.YtiklfbbefchhlaaChecked
import GoSem.Claim
import GoSem.ClaimJoined
import GoSem.ClaimMapViews
import Derived.JoinedTies
import Derived.KernelRfl
namespace Go.Proofs.Ytiklfbbefchhlaa
/- THE CELL 'sum', in the pinned program and in every row, IS THE sha256 OF THE DUMP (.gsa) THAT YtiklfbbefchhlaaProg.lean LOADS. Nothing in Lean hashes anything: it is a label: what it is worth is what the hold of that sum in a sandbox is worth. -/
noncomputable def Try.pinned : Pinned := { name := "ytiklfbbefchhlaa", sum := "7f9634537a2625433b8141306b382b8e76af417bf3babbed942071e13f879bc7", checked := Try.checked }
namespace Rows
def none {H : Type} : Left H := { results := [], args := [] }

/-- 'waymarklaw9.TablesTell': WHATEVER THE INPUT: true; the input reads as it did. -/
def tablesTellSpec : ChangeSpec := { name := "tablesTell", fn := fun _ => fun
  | [d1, d2, d3] => { results := [.lit (.bool true)], args := [d1, d2, d3] }
  | _ => none }
def tablesTellRow : OpenClaim := { program := "ytiklfbbefchhlaa", sum := "7f9634537a2625433b8141306b382b8e76af417bf3babbed942071e13f879bc7", func := "waymark/waymarklaw9.TablesTell", spec := "tablesTell", recurses := true, apart := false }
def TablesTellSaid : Prop := tablesTellRow.holds Try.pinned (OpenSpec.ofChange tablesTellSpec)

/-- ITS FALSE NEIGHBOUR: 'it returns false'. Refute it at one input. -/
def tablesTellWrong : ChangeSpec := { name := "tablesTell", fn := fun _ => fun
  | [d1, d2, d3] => { results := [.lit (.bool false)], args := [d1, d2, d3] }
  | _ => none }
def TablesTellWrongFalsely : Prop := tablesTellRow.holds Try.pinned (OpenSpec.ofChange tablesTellWrong)

/-- 'waymarklaw9.TablesMeet': WHATEVER THE INPUT: true; the input reads as it did. -/
def tablesMeetSpec : ChangeSpec := { name := "tablesMeet", fn := fun _ => fun
  | [d1, d2, d3, d4] => { results := [.lit (.bool true)], args := [d1, d2, d3, d4] }
  | _ => none }
def tablesMeetRow : OpenClaim := { program := "ytiklfbbefchhlaa", sum := "7f9634537a2625433b8141306b382b8e76af417bf3babbed942071e13f879bc7", func := "waymark/waymarklaw9.TablesMeet", spec := "tablesMeet", recurses := true, apart := false }
def TablesMeetSaid : Prop := tablesMeetRow.holds Try.pinned (OpenSpec.ofChange tablesMeetSpec)

/-- ITS FALSE NEIGHBOUR: 'it returns false'. Refute it at one input. -/
def tablesMeetWrong : ChangeSpec := { name := "tablesMeet", fn := fun _ => fun
  | [d1, d2, d3, d4] => { results := [.lit (.bool false)], args := [d1, d2, d3, d4] }
  | _ => none }
def TablesMeetWrongFalsely : Prop := tablesMeetRow.holds Try.pinned (OpenSpec.ofChange tablesMeetWrong)

/-- 'waymarklaw9.TablesNext': WHATEVER THE INPUT: true; the input reads as it did. -/
def tablesNextSpec : ChangeSpec := { name := "tablesNext", fn := fun _ => fun
  | [d1, d2, d3] => { results := [.lit (.bool true)], args := [d1, d2, d3] }
  | _ => none }
def tablesNextRow : OpenClaim := { program := "ytiklfbbefchhlaa", sum := "7f9634537a2625433b8141306b382b8e76af417bf3babbed942071e13f879bc7", func := "waymark/waymarklaw9.TablesNext", spec := "tablesNext", recurses := true, apart := false }
def TablesNextSaid : Prop := tablesNextRow.holds Try.pinned (OpenSpec.ofChange tablesNextSpec)

/-- ITS FALSE NEIGHBOUR: 'it returns false'. Refute it at one input. -/
def tablesNextWrong : ChangeSpec := { name := "tablesNext", fn := fun _ => fun
  | [d1, d2, d3] => { results := [.lit (.bool false)], args := [d1, d2, d3] }
  | _ => none }
def TablesNextWrongFalsely : Prop := tablesNextRow.holds Try.pinned (OpenSpec.ofChange tablesNextWrong)

/- THE SECOND FORM. 'bulk': how many values and letters a reading holds, each counted each time it is reached (what is shared counts as often as it is met; a slice's spare places count too). A statement '..UptoSaid' is the law's where the arguments, and the package variables that the reading takes, are together of bulk at most 1048576: NARROWER than '..Said'. Prove '..Said' where nothing that the law and all that it calls make is longer than what came in: it says more and counts as full. Else prove '..UptoSaid'. A law counts once. -/
mutual
def uptoBulk {H : Type} : DataW H → Nat
  | .lit (.string bytes) => bytes.length + 1
  | .lit _ => 1
  | .nil => 1
  | .ptr d => uptoBulk d + 1
  | .slice elems spare => uptoBulkAll elems + uptoBulkAll spare + 1
  | .agg parts => uptoBulkAll parts + 1
  | .iface _ d => uptoBulk d + 1
  | .map entries => uptoBulkEntries entries + 1
  | .held _ => 1
def uptoBulkAll {H : Type} : List (DataW H) → Nat
  | [] => 0
  | d :: r => uptoBulk d + uptoBulkAll r
def uptoBulkEntries {H : Type} : List (Lit × DataW H) → Nat
  | [] => 0
  | x :: r => uptoBulkEntry x + uptoBulkEntries r
def uptoBulkEntry {H : Type} : Lit × DataW H → Nat
  | (.string bytes, d) => bytes.length + uptoBulk d + 1
  | (_, d) => uptoBulk d + 1
 end
def uptoSmall : (H : Type) → List (DataW H) → Bool := fun _ ds => decide (uptoBulkAll ds ≤ 1048576)
def OpenSpec.upto (s : _root_.Go.ChangeSpec) : _root_.Go.OpenSpec := { _root_.Go.OpenSpec.ofChange s with cond := some uptoSmall }

/-- 'waymarklaw9.TablesTell', WHERE WHAT IT READS IS OF BULK AT MOST 1048576: true; the input reads as it did. -/
def tablesTellUptoRow : OpenClaim := { program := "ytiklfbbefchhlaa", sum := "7f9634537a2625433b8141306b382b8e76af417bf3babbed942071e13f879bc7", func := "waymark/waymarklaw9.TablesTell", spec := "tablesTell", recurses := true, apart := false, narrowed := true }
def TablesTellUptoSaid : Prop := tablesTellUptoRow.holds Try.pinned (OpenSpec.upto tablesTellSpec)

/-- 'waymarklaw9.TablesMeet', WHERE WHAT IT READS IS OF BULK AT MOST 1048576: true; the input reads as it did. -/
def tablesMeetUptoRow : OpenClaim := { program := "ytiklfbbefchhlaa", sum := "7f9634537a2625433b8141306b382b8e76af417bf3babbed942071e13f879bc7", func := "waymark/waymarklaw9.TablesMeet", spec := "tablesMeet", recurses := true, apart := false, narrowed := true }
def TablesMeetUptoSaid : Prop := tablesMeetUptoRow.holds Try.pinned (OpenSpec.upto tablesMeetSpec)

/-- 'waymarklaw9.TablesNext', WHERE WHAT IT READS IS OF BULK AT MOST 1048576: true; the input reads as it did. -/
def tablesNextUptoRow : OpenClaim := { program := "ytiklfbbefchhlaa", sum := "7f9634537a2625433b8141306b382b8e76af417bf3babbed942071e13f879bc7", func := "waymark/waymarklaw9.TablesNext", spec := "tablesNext", recurses := true, apart := false, narrowed := true }
def TablesNextUptoSaid : Prop := tablesNextUptoRow.holds Try.pinned (OpenSpec.upto tablesNextSpec)

end Rows
end Go.Proofs.Ytiklfbbefchhlaa
