/-
  No cell of these rows narrows 'for every input' (looked for: loops, veiled, ifaces, maps, wideKeys, modest, calm, conditions, laid).
  DERIVED. THE GIVEN ROWS OF THIS SEAT. 2 by the template 'for every input the law returns true; each argument reads behind the call as it read before'; 0 by the template 'total and deterministic' (their statements: YtpnabmndnaiioaaTotals.lean).
  GIVEN WITH THE SEED: the statements are not yours to turn. If you find one false, say at which input.
  Laid BY PROGRAM, IN A SANDBOX (cutbox-rows.mjs): the forced cells as the released guide's own fill.sh prints them over the translation ecf5b08d9088385a… (all of the seat's roots in one cut). By AI agents, Wed Nov 11 2026. No macro, syntax, notation, axiom, sorry.
-/
import Derived.Test.YtpnabmndnaiioaaChecked
import GoSem.Claim
import GoSem.ClaimJoined
import GoSem.ClaimMapViews
import Derived.JoinedTies
import Derived.KernelRfl
namespace Go.Proofs.Ytpnabmndnaiioaa
/- THE CELL 'sum', in the pinned program and in every row, IS THE sha256 OF THE DUMP (.gsa) THAT YtpnabmndnaiioaaProg.lean LOADS. Nothing in Lean hashes anything: it is a label: what it is worth is what the hold of that sum in a sandbox is worth. -/
noncomputable def Try.pinned : Pinned := { name := "ytpnabmndnaiioaa", sum := "ecf5b08d9088385a5275db8f2d401c73528d23815cc2f3c698b223495dc05884", checked := Try.checked }
namespace Rows
def none {H : Type} : Left H := { results := [], args := [] }

/-- 'waymarklaw12.WordsBlank': WHATEVER THE INPUT: true; the input reads as it did. -/
def wordsBlankSpec : ChangeSpec := { name := "wordsBlank", fn := fun _ => fun
  | [d1, d2] => { results := [.lit (.bool true)], args := [d1, d2] }
  | _ => none }
def wordsBlankRow : OpenClaim := { program := "ytpnabmndnaiioaa", sum := "ecf5b08d9088385a5275db8f2d401c73528d23815cc2f3c698b223495dc05884", func := "waymark/waymarklaw12.WordsBlank", spec := "wordsBlank", apart := false }
def WordsBlankSaid : Prop := wordsBlankRow.holds Try.pinned (OpenSpec.ofChange wordsBlankSpec)

/-- ITS FALSE NEIGHBOUR: 'it returns false'. Refute it at one input. -/
def wordsBlankWrong : ChangeSpec := { name := "wordsBlank", fn := fun _ => fun
  | [d1, d2] => { results := [.lit (.bool false)], args := [d1, d2] }
  | _ => none }
def WordsBlankWrongFalsely : Prop := wordsBlankRow.holds Try.pinned (OpenSpec.ofChange wordsBlankWrong)

/-- 'waymarklaw12.WordsWrong': WHATEVER THE INPUT: true; the input reads as it did. -/
def wordsWrongSpec : ChangeSpec := { name := "wordsWrong", fn := fun _ => fun
  | [d1, d2, d3] => { results := [.lit (.bool true)], args := [d1, d2, d3] }
  | _ => none }
def wordsWrongRow : OpenClaim := { program := "ytpnabmndnaiioaa", sum := "ecf5b08d9088385a5275db8f2d401c73528d23815cc2f3c698b223495dc05884", func := "waymark/waymarklaw12.WordsWrong", spec := "wordsWrong", apart := false }
def WordsWrongSaid : Prop := wordsWrongRow.holds Try.pinned (OpenSpec.ofChange wordsWrongSpec)

/-- ITS FALSE NEIGHBOUR: 'it returns false'. Refute it at one input. -/
def wordsWrongWrong : ChangeSpec := { name := "wordsWrong", fn := fun _ => fun
  | [d1, d2, d3] => { results := [.lit (.bool false)], args := [d1, d2, d3] }
  | _ => none }
def WordsWrongWrongFalsely : Prop := wordsWrongRow.holds Try.pinned (OpenSpec.ofChange wordsWrongWrong)

/- THE SECOND FORM. 'bulk': how many values and letters a reading holds, each counted each time it is reached (what is shared counts as often as it is met; a slice's spare places count too). A statement '..UptoSaid' is the law's where the arguments, and the package variables that the reading takes, are together of bulk at most 1048576: NARROWER than '..Said'. Prove '..Said' where nothing that the law and all that it calls make is longer than what came in: it says more and counts as full. Else prove '..UptoSaid'. A law counts once. -/
mutual
def uptoBulk {H : Type} : DataW H → Nat
  | .lit (.string bytes) => bytes.length + 1
  | .lit _ => 1
  | .nil => 1
  | .ptr d => uptoBulk d + 1
  | .slice elems spare => uptoBulkAll elems + uptoBulkAll spare + 1
  | .agg parts => uptoBulkAll parts + 1
  | .iface _ d => uptoBulk d + 1
  | .map entries => uptoBulkEntries entries + 1
  | .held _ => 1
def uptoBulkAll {H : Type} : List (DataW H) → Nat
  | [] => 0
  | d :: r => uptoBulk d + uptoBulkAll r
def uptoBulkEntries {H : Type} : List (Lit × DataW H) → Nat
  | [] => 0
  | x :: r => uptoBulkEntry x + uptoBulkEntries r
def uptoBulkEntry {H : Type} : Lit × DataW H → Nat
  | (.string bytes, d) => bytes.length + uptoBulk d + 1
  | (_, d) => uptoBulk d + 1
 end
def uptoSmall : (H : Type) → List (DataW H) → Bool := fun _ ds => decide (uptoBulkAll ds ≤ 1048576)
def OpenSpec.upto (s : _root_.Go.ChangeSpec) : _root_.Go.OpenSpec := { _root_.Go.OpenSpec.ofChange s with cond := some uptoSmall }

/-- 'waymarklaw12.WordsBlank', WHERE WHAT IT READS IS OF BULK AT MOST 1048576: true; the input reads as it did. -/
def wordsBlankUptoRow : OpenClaim := { program := "ytpnabmndnaiioaa", sum := "ecf5b08d9088385a5275db8f2d401c73528d23815cc2f3c698b223495dc05884", func := "waymark/waymarklaw12.WordsBlank", spec := "wordsBlank", apart := false, narrowed := true }
def WordsBlankUptoSaid : Prop := wordsBlankUptoRow.holds Try.pinned (OpenSpec.upto wordsBlankSpec)

/-- 'waymarklaw12.WordsWrong', WHERE WHAT IT READS IS OF BULK AT MOST 1048576: true; the input reads as it did. -/
def wordsWrongUptoRow : OpenClaim := { program := "ytpnabmndnaiioaa", sum := "ecf5b08d9088385a5275db8f2d401c73528d23815cc2f3c698b223495dc05884", func := "waymark/waymarklaw12.WordsWrong", spec := "wordsWrong", apart := false, narrowed := true }
def WordsWrongUptoSaid : Prop := wordsWrongUptoRow.holds Try.pinned (OpenSpec.upto wordsWrongSpec)

end Rows
end Go.Proofs.Ytpnabmndnaiioaa
