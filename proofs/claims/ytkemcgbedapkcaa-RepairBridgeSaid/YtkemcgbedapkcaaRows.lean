/-
  No cell of these rows narrows 'for every input' (looked for: loops, veiled, ifaces, maps, wideKeys, modest, calm, conditions, laid).
  DERIVED. THE GIVEN ROWS OF THIS SEAT. 3 by the template 'for every input the law returns true; each argument reads behind the call as it read before'; 0 by the template 'total and deterministic' (their statements: YtkemcgbedapkcaaTotals.lean).
  GIVEN WITH THE SEED: the statements are not yours to turn. If you find one false, say at which input.
  Laid BY PROGRAM, IN A SANDBOX (cutbox-rows.mjs): the forced cells as the released guide's own fill.sh prints them over the translation 175a6fbaab96ae6b… (all of the seat's roots in one cut). By AI agents, Wed Nov 11 2026. No macro, syntax, notation, axiom, sorry.
-/
import Derived.Test.YtkemcgbedapkcaaChecked
import GoSem.Claim
import GoSem.ClaimJoined
import GoSem.ClaimMapViews
import Derived.JoinedTies
import Derived.KernelRfl
namespace Go.Proofs.Ytkemcgbedapkcaa
/- THE CELL 'sum', in the pinned program and in every row, IS THE sha256 OF THE DUMP (.gsa) THAT YtkemcgbedapkcaaProg.lean LOADS. Nothing in Lean hashes anything: it is a label: what it is worth is what the hold of that sum in a sandbox is worth. -/
noncomputable def Try.pinned : Pinned := { name := "ytkemcgbedapkcaa", sum := "175a6fbaab96ae6b195289e5d6564ef3467c4ca4e4b5f0f0a5765f5ec2c15094", checked := Try.checked }
namespace Rows
def none {H : Type} : Left H := { results := [], args := [] }

/-- 'waymarklaw18.RepairTells': WHATEVER THE INPUT: true; the input reads as it did. -/
def repairTellsSpec : ChangeSpec := { name := "repairTells", fn := fun _ => fun
  | [d1, d2, d3, d4] => { results := [.lit (.bool true)], args := [d1, d2, d3, d4] }
  | _ => none }
def repairTellsRow : OpenClaim := { program := "ytkemcgbedapkcaa", sum := "175a6fbaab96ae6b195289e5d6564ef3467c4ca4e4b5f0f0a5765f5ec2c15094", func := "waymark/waymarklaw18.RepairTells", spec := "repairTells", recurses := true, plainKeys := false, apart := false }
def RepairTellsSaid : Prop := repairTellsRow.holds Try.pinned (OpenSpec.ofChange repairTellsSpec)

/-- ITS FALSE NEIGHBOUR: 'it returns false'. Refute it at one input. -/
def repairTellsWrong : ChangeSpec := { name := "repairTells", fn := fun _ => fun
  | [d1, d2, d3, d4] => { results := [.lit (.bool false)], args := [d1, d2, d3, d4] }
  | _ => none }
def RepairTellsWrongFalsely : Prop := repairTellsRow.holds Try.pinned (OpenSpec.ofChange repairTellsWrong)

/-- 'waymarklaw18.RepairAvoids': WHATEVER THE INPUT: true; the input reads as it did. -/
def repairAvoidsSpec : ChangeSpec := { name := "repairAvoids", fn := fun _ => fun
  | [d1, d2, d3, d4] => { results := [.lit (.bool true)], args := [d1, d2, d3, d4] }
  | _ => none }
def repairAvoidsRow : OpenClaim := { program := "ytkemcgbedapkcaa", sum := "175a6fbaab96ae6b195289e5d6564ef3467c4ca4e4b5f0f0a5765f5ec2c15094", func := "waymark/waymarklaw18.RepairAvoids", spec := "repairAvoids", recurses := true, plainKeys := false, apart := false }
def RepairAvoidsSaid : Prop := repairAvoidsRow.holds Try.pinned (OpenSpec.ofChange repairAvoidsSpec)

/-- ITS FALSE NEIGHBOUR: 'it returns false'. Refute it at one input. -/
def repairAvoidsWrong : ChangeSpec := { name := "repairAvoids", fn := fun _ => fun
  | [d1, d2, d3, d4] => { results := [.lit (.bool false)], args := [d1, d2, d3, d4] }
  | _ => none }
def RepairAvoidsWrongFalsely : Prop := repairAvoidsRow.holds Try.pinned (OpenSpec.ofChange repairAvoidsWrong)

/-- 'waymarklaw18.RepairBridge': WHATEVER THE INPUT: true; the input reads as it did. -/
def repairBridgeSpec : ChangeSpec := { name := "repairBridge", fn := fun _ => fun
  | [d1, d2, d3] => { results := [.lit (.bool true)], args := [d1, d2, d3] }
  | _ => none }
def repairBridgeRow : OpenClaim := { program := "ytkemcgbedapkcaa", sum := "175a6fbaab96ae6b195289e5d6564ef3467c4ca4e4b5f0f0a5765f5ec2c15094", func := "waymark/waymarklaw18.RepairBridge", spec := "repairBridge", recurses := true, plainKeys := false, apart := false }
def RepairBridgeSaid : Prop := repairBridgeRow.holds Try.pinned (OpenSpec.ofChange repairBridgeSpec)

/-- ITS FALSE NEIGHBOUR: 'it returns false'. Refute it at one input. -/
def repairBridgeWrong : ChangeSpec := { name := "repairBridge", fn := fun _ => fun
  | [d1, d2, d3] => { results := [.lit (.bool false)], args := [d1, d2, d3] }
  | _ => none }
def RepairBridgeWrongFalsely : Prop := repairBridgeRow.holds Try.pinned (OpenSpec.ofChange repairBridgeWrong)

/- THE SECOND FORM. 'bulk': how many values and letters a reading holds, each counted each time it is reached (what is shared counts as often as it is met; a slice's spare places count too). A statement '..UptoSaid' is the law's where the arguments, and the package variables that the reading takes, are together of bulk at most 1048576: NARROWER than '..Said'. Prove '..Said' where nothing that the law and all that it calls make is longer than what came in: it says more and counts as full. Else prove '..UptoSaid'. A law counts once. -/
mutual
def uptoBulk {H : Type} : DataW H → Nat
  | .lit (.string bytes) => bytes.length + 1
  | .lit _ => 1
  | .nil => 1
  | .ptr d => uptoBulk d + 1
  | .slice elems spare => uptoBulkAll elems + uptoBulkAll spare + 1
  | .agg parts => uptoBulkAll parts + 1
  | .iface _ d => uptoBulk d + 1
  | .map entries => uptoBulkEntries entries + 1
  | .held _ => 1
def uptoBulkAll {H : Type} : List (DataW H) → Nat
  | [] => 0
  | d :: r => uptoBulk d + uptoBulkAll r
def uptoBulkEntries {H : Type} : List (Lit × DataW H) → Nat
  | [] => 0
  | x :: r => uptoBulkEntry x + uptoBulkEntries r
def uptoBulkEntry {H : Type} : Lit × DataW H → Nat
  | (.string bytes, d) => bytes.length + uptoBulk d + 1
  | (_, d) => uptoBulk d + 1
 end
def uptoSmall : (H : Type) → List (DataW H) → Bool := fun _ ds => decide (uptoBulkAll ds ≤ 1048576)
def OpenSpec.upto (s : _root_.Go.ChangeSpec) : _root_.Go.OpenSpec := { _root_.Go.OpenSpec.ofChange s with cond := some uptoSmall }

/-- 'waymarklaw18.RepairTells', WHERE WHAT IT READS IS OF BULK AT MOST 1048576: true; the input reads as it did. -/
def repairTellsUptoRow : OpenClaim := { program := "ytkemcgbedapkcaa", sum := "175a6fbaab96ae6b195289e5d6564ef3467c4ca4e4b5f0f0a5765f5ec2c15094", func := "waymark/waymarklaw18.RepairTells", spec := "repairTells", recurses := true, plainKeys := false, apart := false, narrowed := true }
def RepairTellsUptoSaid : Prop := repairTellsUptoRow.holds Try.pinned (OpenSpec.upto repairTellsSpec)

/-- 'waymarklaw18.RepairAvoids', WHERE WHAT IT READS IS OF BULK AT MOST 1048576: true; the input reads as it did. -/
def repairAvoidsUptoRow : OpenClaim := { program := "ytkemcgbedapkcaa", sum := "175a6fbaab96ae6b195289e5d6564ef3467c4ca4e4b5f0f0a5765f5ec2c15094", func := "waymark/waymarklaw18.RepairAvoids", spec := "repairAvoids", recurses := true, plainKeys := false, apart := false, narrowed := true }
def RepairAvoidsUptoSaid : Prop := repairAvoidsUptoRow.holds Try.pinned (OpenSpec.upto repairAvoidsSpec)

/-- 'waymarklaw18.RepairBridge', WHERE WHAT IT READS IS OF BULK AT MOST 1048576: true; the input reads as it did. -/
def repairBridgeUptoRow : OpenClaim := { program := "ytkemcgbedapkcaa", sum := "175a6fbaab96ae6b195289e5d6564ef3467c4ca4e4b5f0f0a5765f5ec2c15094", func := "waymark/waymarklaw18.RepairBridge", spec := "repairBridge", recurses := true, plainKeys := false, apart := false, narrowed := true }
def RepairBridgeUptoSaid : Prop := repairBridgeUptoRow.holds Try.pinned (OpenSpec.upto repairBridgeSpec)

end Rows
end Go.Proofs.Ytkemcgbedapkcaa
