/-
  No cell of these rows narrows 'for every input' (looked for: loops, veiled, ifaces, maps, wideKeys, modest, calm, conditions, laid).
  DERIVED. THE GIVEN ROWS OF THIS SEAT. 4 by the template 'for every input the law returns true; each argument reads behind the call as it read before'; 0 by the template 'total and deterministic' (their statements: YtabgbhkpeeibaaaTotals.lean).
  GIVEN WITH THE SEED: the statements are not yours to turn. If you find one false, say at which input.
  Laid BY PROGRAM, IN A SANDBOX (cutbox-rows.mjs): the forced cells as the released guide's own fill.sh prints them over the translation 0e9daab07275237c… (all of the seat's roots in one cut). By AI agents, Wed Nov 11 2026. No macro, syntax, notation, axiom, sorry.
-/
import Derived.Test.YtabgbhkpeeibaaaChecked
import GoSem.Claim
import GoSem.ClaimJoined
import GoSem.ClaimMapViews
import Derived.JoinedTies
import Derived.KernelRfl
namespace Go.Proofs.Ytabgbhkpeeibaaa
/- THE CELL 'sum', in the pinned program and in every row, IS THE sha256 OF THE DUMP (.gsa) THAT YtabgbhkpeeibaaaProg.lean LOADS. Nothing in Lean hashes anything: it is a label: what it is worth is what the hold of that sum in a sandbox is worth. -/
noncomputable def Try.pinned : Pinned := { name := "ytabgbhkpeeibaaa", sum := "0e9daab07275237c24d6b49e5d53c52d96d1fc94884f425d3a695b78c876875a", checked := Try.checked }
namespace Rows
def none {H : Type} : Left H := { results := [], args := [] }

/-- 'waymarklaw15.OptTells': WHATEVER THE INPUT: true; the input reads as it did. -/
def optTellsSpec : ChangeSpec := { name := "optTells", fn := fun _ => fun
  | [d1, d2, d3, d4, d5] => { results := [.lit (.bool true)], args := [d1, d2, d3, d4, d5] }
  | _ => none }
def optTellsRow : OpenClaim := { program := "ytabgbhkpeeibaaa", sum := "0e9daab07275237c24d6b49e5d53c52d96d1fc94884f425d3a695b78c876875a", func := "waymark/waymarklaw15.OptTells", spec := "optTells", recurses := true, apart := false }
def OptTellsSaid : Prop := optTellsRow.holds Try.pinned (OpenSpec.ofChange optTellsSpec)

/-- ITS FALSE NEIGHBOUR: 'it returns false'. Refute it at one input. -/
def optTellsWrong : ChangeSpec := { name := "optTells", fn := fun _ => fun
  | [d1, d2, d3, d4, d5] => { results := [.lit (.bool false)], args := [d1, d2, d3, d4, d5] }
  | _ => none }
def OptTellsWrongFalsely : Prop := optTellsRow.holds Try.pinned (OpenSpec.ofChange optTellsWrong)

/-- 'waymarklaw15.OptBest': WHATEVER THE INPUT: true; the input reads as it did. -/
def optBestSpec : ChangeSpec := { name := "optBest", fn := fun _ => fun
  | [d1, d2, d3, d4] => { results := [.lit (.bool true)], args := [d1, d2, d3, d4] }
  | _ => none }
def optBestRow : OpenClaim := { program := "ytabgbhkpeeibaaa", sum := "0e9daab07275237c24d6b49e5d53c52d96d1fc94884f425d3a695b78c876875a", func := "waymark/waymarklaw15.OptBest", spec := "optBest", recurses := true, apart := false }
def OptBestSaid : Prop := optBestRow.holds Try.pinned (OpenSpec.ofChange optBestSpec)

/-- ITS FALSE NEIGHBOUR: 'it returns false'. Refute it at one input. -/
def optBestWrong : ChangeSpec := { name := "optBest", fn := fun _ => fun
  | [d1, d2, d3, d4] => { results := [.lit (.bool false)], args := [d1, d2, d3, d4] }
  | _ => none }
def OptBestWrongFalsely : Prop := optBestRow.holds Try.pinned (OpenSpec.ofChange optBestWrong)

/-- 'waymarklaw15.OptLeast': WHATEVER THE INPUT: true; the input reads as it did. -/
def optLeastSpec : ChangeSpec := { name := "optLeast", fn := fun _ => fun
  | [d1, d2, d3, d4] => { results := [.lit (.bool true)], args := [d1, d2, d3, d4] }
  | _ => none }
def optLeastRow : OpenClaim := { program := "ytabgbhkpeeibaaa", sum := "0e9daab07275237c24d6b49e5d53c52d96d1fc94884f425d3a695b78c876875a", func := "waymark/waymarklaw15.OptLeast", spec := "optLeast", recurses := true, apart := false }
def OptLeastSaid : Prop := optLeastRow.holds Try.pinned (OpenSpec.ofChange optLeastSpec)

/-- ITS FALSE NEIGHBOUR: 'it returns false'. Refute it at one input. -/
def optLeastWrong : ChangeSpec := { name := "optLeast", fn := fun _ => fun
  | [d1, d2, d3, d4] => { results := [.lit (.bool false)], args := [d1, d2, d3, d4] }
  | _ => none }
def OptLeastWrongFalsely : Prop := optLeastRow.holds Try.pinned (OpenSpec.ofChange optLeastWrong)

/-- 'waymarklaw15.OptVia': WHATEVER THE INPUT: true; the input reads as it did. -/
def optViaSpec : ChangeSpec := { name := "optVia", fn := fun _ => fun
  | [d1, d2, d3] => { results := [.lit (.bool true)], args := [d1, d2, d3] }
  | _ => none }
def optViaRow : OpenClaim := { program := "ytabgbhkpeeibaaa", sum := "0e9daab07275237c24d6b49e5d53c52d96d1fc94884f425d3a695b78c876875a", func := "waymark/waymarklaw15.OptVia", spec := "optVia", recurses := true, apart := false }
def OptViaSaid : Prop := optViaRow.holds Try.pinned (OpenSpec.ofChange optViaSpec)

/-- ITS FALSE NEIGHBOUR: 'it returns false'. Refute it at one input. -/
def optViaWrong : ChangeSpec := { name := "optVia", fn := fun _ => fun
  | [d1, d2, d3] => { results := [.lit (.bool false)], args := [d1, d2, d3] }
  | _ => none }
def OptViaWrongFalsely : Prop := optViaRow.holds Try.pinned (OpenSpec.ofChange optViaWrong)

/- THE SECOND FORM. 'bulk': how many values and letters a reading holds, each counted each time it is reached (what is shared counts as often as it is met; a slice's spare places count too). A statement '..UptoSaid' is the law's where the arguments, and the package variables that the reading takes, are together of bulk at most 1048576: NARROWER than '..Said'. Prove '..Said' where nothing that the law and all that it calls make is longer than what came in: it says more and counts as full. Else prove '..UptoSaid'. A law counts once. -/
mutual
def uptoBulk {H : Type} : DataW H → Nat
  | .lit (.string bytes) => bytes.length + 1
  | .lit _ => 1
  | .nil => 1
  | .ptr d => uptoBulk d + 1
  | .slice elems spare => uptoBulkAll elems + uptoBulkAll spare + 1
  | .agg parts => uptoBulkAll parts + 1
  | .iface _ d => uptoBulk d + 1
  | .map entries => uptoBulkEntries entries + 1
  | .held _ => 1
def uptoBulkAll {H : Type} : List (DataW H) → Nat
  | [] => 0
  | d :: r => uptoBulk d + uptoBulkAll r
def uptoBulkEntries {H : Type} : List (Lit × DataW H) → Nat
  | [] => 0
  | x :: r => uptoBulkEntry x + uptoBulkEntries r
def uptoBulkEntry {H : Type} : Lit × DataW H → Nat
  | (.string bytes, d) => bytes.length + uptoBulk d + 1
  | (_, d) => uptoBulk d + 1
 end
def uptoSmall : (H : Type) → List (DataW H) → Bool := fun _ ds => decide (uptoBulkAll ds ≤ 1048576)
def OpenSpec.upto (s : _root_.Go.ChangeSpec) : _root_.Go.OpenSpec := { _root_.Go.OpenSpec.ofChange s with cond := some uptoSmall }

/-- 'waymarklaw15.OptTells', WHERE WHAT IT READS IS OF BULK AT MOST 1048576: true; the input reads as it did. -/
def optTellsUptoRow : OpenClaim := { program := "ytabgbhkpeeibaaa", sum := "0e9daab07275237c24d6b49e5d53c52d96d1fc94884f425d3a695b78c876875a", func := "waymark/waymarklaw15.OptTells", spec := "optTells", recurses := true, apart := false, narrowed := true }
def OptTellsUptoSaid : Prop := optTellsUptoRow.holds Try.pinned (OpenSpec.upto optTellsSpec)

/-- 'waymarklaw15.OptBest', WHERE WHAT IT READS IS OF BULK AT MOST 1048576: true; the input reads as it did. -/
def optBestUptoRow : OpenClaim := { program := "ytabgbhkpeeibaaa", sum := "0e9daab07275237c24d6b49e5d53c52d96d1fc94884f425d3a695b78c876875a", func := "waymark/waymarklaw15.OptBest", spec := "optBest", recurses := true, apart := false, narrowed := true }
def OptBestUptoSaid : Prop := optBestUptoRow.holds Try.pinned (OpenSpec.upto optBestSpec)

/-- 'waymarklaw15.OptLeast', WHERE WHAT IT READS IS OF BULK AT MOST 1048576: true; the input reads as it did. -/
def optLeastUptoRow : OpenClaim := { program := "ytabgbhkpeeibaaa", sum := "0e9daab07275237c24d6b49e5d53c52d96d1fc94884f425d3a695b78c876875a", func := "waymark/waymarklaw15.OptLeast", spec := "optLeast", recurses := true, apart := false, narrowed := true }
def OptLeastUptoSaid : Prop := optLeastUptoRow.holds Try.pinned (OpenSpec.upto optLeastSpec)

/-- 'waymarklaw15.OptVia', WHERE WHAT IT READS IS OF BULK AT MOST 1048576: true; the input reads as it did. -/
def optViaUptoRow : OpenClaim := { program := "ytabgbhkpeeibaaa", sum := "0e9daab07275237c24d6b49e5d53c52d96d1fc94884f425d3a695b78c876875a", func := "waymark/waymarklaw15.OptVia", spec := "optVia", recurses := true, apart := false, narrowed := true }
def OptViaUptoSaid : Prop := optViaUptoRow.holds Try.pinned (OpenSpec.upto optViaSpec)

end Rows
end Go.Proofs.Ytabgbhkpeeibaaa
