/-
  No cell of these rows narrows 'for every input' (looked for: loops, veiled, ifaces, maps, wideKeys, modest, calm, conditions, laid).
  DERIVED. THE GIVEN ROWS OF THIS SEAT. 2 by the template 'for every input the law returns true; each argument reads behind the call as it read before'; 0 by the template 'total and deterministic' (their statements: YtjblhajmnlcfaaaTotals.lean).
  GIVEN WITH THE SEED: the statements are not yours to turn. If you find one false, say at which input.
  Laid BY PROGRAM, IN A SANDBOX (cutbox-rows.mjs): the forced cells as the released guide's own fill.sh prints them over the translation 9324e468ccd396d5… (all of the seat's roots in one cut). By AI agents, Wed Nov 11 2026. No macro, syntax, notation, axiom, sorry.
-/
import Derived.Test.YtjblhajmnlcfaaaChecked
import GoSem.Claim
import GoSem.ClaimJoined
import GoSem.ClaimMapViews
import Derived.JoinedTies
import Derived.KernelRfl
namespace Go.Proofs.Ytjblhajmnlcfaaa
/- THE CELL 'sum', in the pinned program and in every row, IS THE sha256 OF THE DUMP (.gsa) THAT YtjblhajmnlcfaaaProg.lean LOADS. Nothing in Lean hashes anything: it is a label: what it is worth is what the hold of that sum in a sandbox is worth. -/
noncomputable def Try.pinned : Pinned := { name := "ytjblhajmnlcfaaa", sum := "9324e468ccd396d5337d43996df09fcdf64a18e4135e8c8b6862fb3222b5d9fe", checked := Try.checked }
namespace Rows
def none {H : Type} : Left H := { results := [], args := [] }

/-- 'waymarklaw19.FibTells': WHATEVER THE INPUT: true; the input reads as it did. -/
def fibTellsSpec : ChangeSpec := { name := "fibTells", fn := fun _ => fun
  | [d1, d2, d3, d4, d5, d6] => { results := [.lit (.bool true)], args := [d1, d2, d3, d4, d5, d6] }
  | _ => none }
def fibTellsRow : OpenClaim := { program := "ytjblhajmnlcfaaa", sum := "9324e468ccd396d5337d43996df09fcdf64a18e4135e8c8b6862fb3222b5d9fe", func := "waymark/waymarklaw19.FibTells", spec := "fibTells", apart := false }
def FibTellsSaid : Prop := fibTellsRow.holds Try.pinned (OpenSpec.ofChange fibTellsSpec)

/-- ITS FALSE NEIGHBOUR: 'it returns false'. Refute it at one input. -/
def fibTellsWrong : ChangeSpec := { name := "fibTells", fn := fun _ => fun
  | [d1, d2, d3, d4, d5, d6] => { results := [.lit (.bool false)], args := [d1, d2, d3, d4, d5, d6] }
  | _ => none }
def FibTellsWrongFalsely : Prop := fibTellsRow.holds Try.pinned (OpenSpec.ofChange fibTellsWrong)

/-- 'waymarklaw19.FibBack': WHATEVER THE INPUT: true; the input reads as it did. -/
def fibBackSpec : ChangeSpec := { name := "fibBack", fn := fun _ => fun
  | [d1, d2, d3, d4] => { results := [.lit (.bool true)], args := [d1, d2, d3, d4] }
  | _ => none }
def fibBackRow : OpenClaim := { program := "ytjblhajmnlcfaaa", sum := "9324e468ccd396d5337d43996df09fcdf64a18e4135e8c8b6862fb3222b5d9fe", func := "waymark/waymarklaw19.FibBack", spec := "fibBack", apart := false }
def FibBackSaid : Prop := fibBackRow.holds Try.pinned (OpenSpec.ofChange fibBackSpec)

/-- ITS FALSE NEIGHBOUR: 'it returns false'. Refute it at one input. -/
def fibBackWrong : ChangeSpec := { name := "fibBack", fn := fun _ => fun
  | [d1, d2, d3, d4] => { results := [.lit (.bool false)], args := [d1, d2, d3, d4] }
  | _ => none }
def FibBackWrongFalsely : Prop := fibBackRow.holds Try.pinned (OpenSpec.ofChange fibBackWrong)

/- THE SECOND FORM. 'bulk': how many values and letters a reading holds, each counted each time it is reached (what is shared counts as often as it is met; a slice's spare places count too). A statement '..UptoSaid' is the law's where the arguments, and the package variables that the reading takes, are together of bulk at most 1048576: NARROWER than '..Said'. Prove '..Said' where nothing that the law and all that it calls make is longer than what came in: it says more and counts as full. Else prove '..UptoSaid'. A law counts once. -/
mutual
def uptoBulk {H : Type} : DataW H → Nat
  | .lit (.string bytes) => bytes.length + 1
  | .lit _ => 1
  | .nil => 1
  | .ptr d => uptoBulk d + 1
  | .slice elems spare => uptoBulkAll elems + uptoBulkAll spare + 1
  | .agg parts => uptoBulkAll parts + 1
  | .iface _ d => uptoBulk d + 1
  | .map entries => uptoBulkEntries entries + 1
  | .held _ => 1
def uptoBulkAll {H : Type} : List (DataW H) → Nat
  | [] => 0
  | d :: r => uptoBulk d + uptoBulkAll r
def uptoBulkEntries {H : Type} : List (Lit × DataW H) → Nat
  | [] => 0
  | x :: r => uptoBulkEntry x + uptoBulkEntries r
def uptoBulkEntry {H : Type} : Lit × DataW H → Nat
  | (.string bytes, d) => bytes.length + uptoBulk d + 1
  | (_, d) => uptoBulk d + 1
 end
def uptoSmall : (H : Type) → List (DataW H) → Bool := fun _ ds => decide (uptoBulkAll ds ≤ 1048576)
def OpenSpec.upto (s : _root_.Go.ChangeSpec) : _root_.Go.OpenSpec := { _root_.Go.OpenSpec.ofChange s with cond := some uptoSmall }

/-- 'waymarklaw19.FibTells', WHERE WHAT IT READS IS OF BULK AT MOST 1048576: true; the input reads as it did. -/
def fibTellsUptoRow : OpenClaim := { program := "ytjblhajmnlcfaaa", sum := "9324e468ccd396d5337d43996df09fcdf64a18e4135e8c8b6862fb3222b5d9fe", func := "waymark/waymarklaw19.FibTells", spec := "fibTells", apart := false, narrowed := true }
def FibTellsUptoSaid : Prop := fibTellsUptoRow.holds Try.pinned (OpenSpec.upto fibTellsSpec)

/-- 'waymarklaw19.FibBack', WHERE WHAT IT READS IS OF BULK AT MOST 1048576: true; the input reads as it did. -/
def fibBackUptoRow : OpenClaim := { program := "ytjblhajmnlcfaaa", sum := "9324e468ccd396d5337d43996df09fcdf64a18e4135e8c8b6862fb3222b5d9fe", func := "waymark/waymarklaw19.FibBack", spec := "fibBack", apart := false, narrowed := true }
def FibBackUptoSaid : Prop := fibBackUptoRow.holds Try.pinned (OpenSpec.upto fibBackSpec)

end Rows
end Go.Proofs.Ytjblhajmnlcfaaa
