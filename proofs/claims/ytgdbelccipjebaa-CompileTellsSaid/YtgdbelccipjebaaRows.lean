/-
  No cell of these rows narrows 'for every input' (looked for: loops, veiled, ifaces, maps, wideKeys, modest, calm, conditions, laid).
  DERIVED. THE GIVEN ROWS OF THIS SEAT. 4 by the template 'for every input the law returns true; each argument reads behind the call as it read before'; 0 by the template 'total and deterministic' (their statements: YtgdbelccipjebaaTotals.lean).
  GIVEN WITH THE SEED: the statements are not yours to turn. If you find one false, say at which input.
  Laid BY PROGRAM, IN A SANDBOX (cutbox-rows.mjs): the forced cells as the released guide's own fill.sh prints them over the translation 5c9be822628ced2c… (all of the seat's roots in one cut). By AI agents, Wed Nov 11 2026. No macro, syntax, notation, axiom, sorry.
-/
import Derived.Test.YtgdbelccipjebaaChecked
import GoSem.Claim
import GoSem.ClaimJoined
import GoSem.ClaimMapViews
import Derived.JoinedTies
import Derived.KernelRfl
namespace Go.Proofs.Ytgdbelccipjebaa
/- THE CELL 'sum', in the pinned program and in every row, IS THE sha256 OF THE DUMP (.gsa) THAT YtgdbelccipjebaaProg.lean LOADS. Nothing in Lean hashes anything: it is a label: what it is worth is what the hold of that sum in a sandbox is worth. -/
noncomputable def Try.pinned : Pinned := { name := "ytgdbelccipjebaa", sum := "5c9be822628ced2c1e2d4bfe7982650e47bb7b7d4b1ec7088dd5cd9aa14ef557", checked := Try.checked }
namespace Rows
def none {H : Type} : Left H := { results := [], args := [] }

/-- 'waymarklaw17.CompileTells': WHATEVER THE INPUT: true; the input reads as it did. -/
def compileTellsSpec : ChangeSpec := { name := "compileTells", fn := fun _ => fun
  | [d1, d2, d3, d4] => { results := [.lit (.bool true)], args := [d1, d2, d3, d4] }
  | _ => none }
def compileTellsRow : OpenClaim := { program := "ytgdbelccipjebaa", sum := "5c9be822628ced2c1e2d4bfe7982650e47bb7b7d4b1ec7088dd5cd9aa14ef557", func := "waymark/waymarklaw17.CompileTells", spec := "compileTells", recurses := true, plainKeys := false, apart := false }
def CompileTellsSaid : Prop := compileTellsRow.holds Try.pinned (OpenSpec.ofChange compileTellsSpec)

/-- ITS FALSE NEIGHBOUR: 'it returns false'. Refute it at one input. -/
def compileTellsWrong : ChangeSpec := { name := "compileTells", fn := fun _ => fun
  | [d1, d2, d3, d4] => { results := [.lit (.bool false)], args := [d1, d2, d3, d4] }
  | _ => none }
def CompileTellsWrongFalsely : Prop := compileTellsRow.holds Try.pinned (OpenSpec.ofChange compileTellsWrong)

/-- 'waymarklaw17.CompileNone': WHATEVER THE INPUT: true; the input reads as it did. -/
def compileNoneSpec : ChangeSpec := { name := "compileNone", fn := fun _ => fun
  | [d1, d2, d3, d4] => { results := [.lit (.bool true)], args := [d1, d2, d3, d4] }
  | _ => none }
def compileNoneRow : OpenClaim := { program := "ytgdbelccipjebaa", sum := "5c9be822628ced2c1e2d4bfe7982650e47bb7b7d4b1ec7088dd5cd9aa14ef557", func := "waymark/waymarklaw17.CompileNone", spec := "compileNone", recurses := true, plainKeys := false, apart := false }
def CompileNoneSaid : Prop := compileNoneRow.holds Try.pinned (OpenSpec.ofChange compileNoneSpec)

/-- ITS FALSE NEIGHBOUR: 'it returns false'. Refute it at one input. -/
def compileNoneWrong : ChangeSpec := { name := "compileNone", fn := fun _ => fun
  | [d1, d2, d3, d4] => { results := [.lit (.bool false)], args := [d1, d2, d3, d4] }
  | _ => none }
def CompileNoneWrongFalsely : Prop := compileNoneRow.holds Try.pinned (OpenSpec.ofChange compileNoneWrong)

/-- 'waymarklaw17.CompileEdges': WHATEVER THE INPUT: true; the input reads as it did. -/
def compileEdgesSpec : ChangeSpec := { name := "compileEdges", fn := fun _ => fun
  | [d1, d2] => { results := [.lit (.bool true)], args := [d1, d2] }
  | _ => none }
def compileEdgesRow : OpenClaim := { program := "ytgdbelccipjebaa", sum := "5c9be822628ced2c1e2d4bfe7982650e47bb7b7d4b1ec7088dd5cd9aa14ef557", func := "waymark/waymarklaw17.CompileEdges", spec := "compileEdges", recurses := true, plainKeys := false, apart := false }
def CompileEdgesSaid : Prop := compileEdgesRow.holds Try.pinned (OpenSpec.ofChange compileEdgesSpec)

/-- ITS FALSE NEIGHBOUR: 'it returns false'. Refute it at one input. -/
def compileEdgesWrong : ChangeSpec := { name := "compileEdges", fn := fun _ => fun
  | [d1, d2] => { results := [.lit (.bool false)], args := [d1, d2] }
  | _ => none }
def CompileEdgesWrongFalsely : Prop := compileEdgesRow.holds Try.pinned (OpenSpec.ofChange compileEdgesWrong)

/-- 'waymarklaw17.CompileDeeper': WHATEVER THE INPUT: true; the input reads as it did. -/
def compileDeeperSpec : ChangeSpec := { name := "compileDeeper", fn := fun _ => fun
  | [d1, d2, d3] => { results := [.lit (.bool true)], args := [d1, d2, d3] }
  | _ => none }
def compileDeeperRow : OpenClaim := { program := "ytgdbelccipjebaa", sum := "5c9be822628ced2c1e2d4bfe7982650e47bb7b7d4b1ec7088dd5cd9aa14ef557", func := "waymark/waymarklaw17.CompileDeeper", spec := "compileDeeper", recurses := true, plainKeys := false, apart := false }
def CompileDeeperSaid : Prop := compileDeeperRow.holds Try.pinned (OpenSpec.ofChange compileDeeperSpec)

/-- ITS FALSE NEIGHBOUR: 'it returns false'. Refute it at one input. -/
def compileDeeperWrong : ChangeSpec := { name := "compileDeeper", fn := fun _ => fun
  | [d1, d2, d3] => { results := [.lit (.bool false)], args := [d1, d2, d3] }
  | _ => none }
def CompileDeeperWrongFalsely : Prop := compileDeeperRow.holds Try.pinned (OpenSpec.ofChange compileDeeperWrong)

/- THE SECOND FORM. 'bulk': how many values and letters a reading holds, each counted each time it is reached (what is shared counts as often as it is met; a slice's spare places count too). A statement '..UptoSaid' is the law's where the arguments, and the package variables that the reading takes, are together of bulk at most 1048576: NARROWER than '..Said'. Prove '..Said' where nothing that the law and all that it calls make is longer than what came in: it says more and counts as full. Else prove '..UptoSaid'. A law counts once. -/
mutual
def uptoBulk {H : Type} : DataW H → Nat
  | .lit (.string bytes) => bytes.length + 1
  | .lit _ => 1
  | .nil => 1
  | .ptr d => uptoBulk d + 1
  | .slice elems spare => uptoBulkAll elems + uptoBulkAll spare + 1
  | .agg parts => uptoBulkAll parts + 1
  | .iface _ d => uptoBulk d + 1
  | .map entries => uptoBulkEntries entries + 1
  | .held _ => 1
def uptoBulkAll {H : Type} : List (DataW H) → Nat
  | [] => 0
  | d :: r => uptoBulk d + uptoBulkAll r
def uptoBulkEntries {H : Type} : List (Lit × DataW H) → Nat
  | [] => 0
  | x :: r => uptoBulkEntry x + uptoBulkEntries r
def uptoBulkEntry {H : Type} : Lit × DataW H → Nat
  | (.string bytes, d) => bytes.length + uptoBulk d + 1
  | (_, d) => uptoBulk d + 1
 end
def uptoSmall : (H : Type) → List (DataW H) → Bool := fun _ ds => decide (uptoBulkAll ds ≤ 1048576)
def OpenSpec.upto (s : _root_.Go.ChangeSpec) : _root_.Go.OpenSpec := { _root_.Go.OpenSpec.ofChange s with cond := some uptoSmall }

/-- 'waymarklaw17.CompileTells', WHERE WHAT IT READS IS OF BULK AT MOST 1048576: true; the input reads as it did. -/
def compileTellsUptoRow : OpenClaim := { program := "ytgdbelccipjebaa", sum := "5c9be822628ced2c1e2d4bfe7982650e47bb7b7d4b1ec7088dd5cd9aa14ef557", func := "waymark/waymarklaw17.CompileTells", spec := "compileTells", recurses := true, plainKeys := false, apart := false, narrowed := true }
def CompileTellsUptoSaid : Prop := compileTellsUptoRow.holds Try.pinned (OpenSpec.upto compileTellsSpec)

/-- 'waymarklaw17.CompileNone', WHERE WHAT IT READS IS OF BULK AT MOST 1048576: true; the input reads as it did. -/
def compileNoneUptoRow : OpenClaim := { program := "ytgdbelccipjebaa", sum := "5c9be822628ced2c1e2d4bfe7982650e47bb7b7d4b1ec7088dd5cd9aa14ef557", func := "waymark/waymarklaw17.CompileNone", spec := "compileNone", recurses := true, plainKeys := false, apart := false, narrowed := true }
def CompileNoneUptoSaid : Prop := compileNoneUptoRow.holds Try.pinned (OpenSpec.upto compileNoneSpec)

/-- 'waymarklaw17.CompileEdges', WHERE WHAT IT READS IS OF BULK AT MOST 1048576: true; the input reads as it did. -/
def compileEdgesUptoRow : OpenClaim := { program := "ytgdbelccipjebaa", sum := "5c9be822628ced2c1e2d4bfe7982650e47bb7b7d4b1ec7088dd5cd9aa14ef557", func := "waymark/waymarklaw17.CompileEdges", spec := "compileEdges", recurses := true, plainKeys := false, apart := false, narrowed := true }
def CompileEdgesUptoSaid : Prop := compileEdgesUptoRow.holds Try.pinned (OpenSpec.upto compileEdgesSpec)

/-- 'waymarklaw17.CompileDeeper', WHERE WHAT IT READS IS OF BULK AT MOST 1048576: true; the input reads as it did. -/
def compileDeeperUptoRow : OpenClaim := { program := "ytgdbelccipjebaa", sum := "5c9be822628ced2c1e2d4bfe7982650e47bb7b7d4b1ec7088dd5cd9aa14ef557", func := "waymark/waymarklaw17.CompileDeeper", spec := "compileDeeper", recurses := true, plainKeys := false, apart := false, narrowed := true }
def CompileDeeperUptoSaid : Prop := compileDeeperUptoRow.holds Try.pinned (OpenSpec.upto compileDeeperSpec)

end Rows
end Go.Proofs.Ytgdbelccipjebaa
