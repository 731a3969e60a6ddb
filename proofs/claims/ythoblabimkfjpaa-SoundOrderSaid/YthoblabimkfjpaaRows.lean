/-
  No cell of these rows narrows 'for every input' (looked for: loops, veiled, ifaces, maps, wideKeys, modest, calm, conditions, laid).
  DERIVED. THE GIVEN ROWS OF THIS SEAT. 4 by the template 'for every input the law returns true; each argument reads behind the call as it read before'; 0 by the template 'total and deterministic' (their statements: YthoblabimkfjpaaTotals.lean).
  GIVEN WITH THE SEED: the statements are not yours to turn. If you find one false, say at which input.
  Laid BY PROGRAM, IN A SANDBOX (cutbox-rows.mjs): the forced cells as the released guide's own fill.sh prints them over the translation 5f6a9e3b74a99745… (all of the seat's roots in one cut). By AI agents, Wed Nov 11 2026. No macro, syntax, notation, axiom, sorry.
-/
import Derived.Test.YthoblabimkfjpaaChecked
import GoSem.Claim
import GoSem.ClaimJoined
import GoSem.ClaimMapViews
import Derived.JoinedTies
import Derived.KernelRfl
namespace Go.Proofs.Ythoblabimkfjpaa
/- THE CELL 'sum', in the pinned program and in every row, IS THE sha256 OF THE DUMP (.gsa) THAT YthoblabimkfjpaaProg.lean LOADS. Nothing in Lean hashes anything: it is a label: what it is worth is what the hold of that sum in a sandbox is worth. -/
noncomputable def Try.pinned : Pinned := { name := "ythoblabimkfjpaa", sum := "5f6a9e3b74a9974587f53033a19326405d52cca90235911419edb55d20429c13", checked := Try.checked }
namespace Rows
def none {H : Type} : Left H := { results := [], args := [] }

/-- 'waymarklaw1.EntryTells': WHATEVER THE INPUT: true; the input reads as it did. -/
def entryTellsSpec : ChangeSpec := { name := "entryTells", fn := fun _ => fun
  | [d1, d2] => { results := [.lit (.bool true)], args := [d1, d2] }
  | _ => none }
def entryTellsRow : OpenClaim := { program := "ythoblabimkfjpaa", sum := "5f6a9e3b74a9974587f53033a19326405d52cca90235911419edb55d20429c13", func := "waymark/waymarklaw1.EntryTells", spec := "entryTells", apart := false }
def EntryTellsSaid : Prop := entryTellsRow.holds Try.pinned (OpenSpec.ofChange entryTellsSpec)

/-- ITS FALSE NEIGHBOUR: 'it returns false'. Refute it at one input. -/
def entryTellsWrong : ChangeSpec := { name := "entryTells", fn := fun _ => fun
  | [d1, d2] => { results := [.lit (.bool false)], args := [d1, d2] }
  | _ => none }
def EntryTellsWrongFalsely : Prop := entryTellsRow.holds Try.pinned (OpenSpec.ofChange entryTellsWrong)

/-- 'waymarklaw14.SoundTells': WHATEVER THE INPUT: true; the input reads as it did. -/
def soundTellsSpec : ChangeSpec := { name := "soundTells", fn := fun _ => fun
  | [d1, d2, d3] => { results := [.lit (.bool true)], args := [d1, d2, d3] }
  | _ => none }
def soundTellsRow : OpenClaim := { program := "ythoblabimkfjpaa", sum := "5f6a9e3b74a9974587f53033a19326405d52cca90235911419edb55d20429c13", func := "waymark/waymarklaw14.SoundTells", spec := "soundTells", unfollowed := true, recurses := true, apart := false }
def SoundTellsSaid : Prop := soundTellsRow.holds Try.pinned (OpenSpec.ofChange soundTellsSpec)

/-- ITS FALSE NEIGHBOUR: 'it returns false'. Refute it at one input. -/
def soundTellsWrong : ChangeSpec := { name := "soundTells", fn := fun _ => fun
  | [d1, d2, d3] => { results := [.lit (.bool false)], args := [d1, d2, d3] }
  | _ => none }
def SoundTellsWrongFalsely : Prop := soundTellsRow.holds Try.pinned (OpenSpec.ofChange soundTellsWrong)

/-- 'waymarklaw14.SoundOrder': WHATEVER THE INPUT: true; the input reads as it did. -/
def soundOrderSpec : ChangeSpec := { name := "soundOrder", fn := fun _ => fun
  | [d1, d2, d3] => { results := [.lit (.bool true)], args := [d1, d2, d3] }
  | _ => none }
def soundOrderRow : OpenClaim := { program := "ythoblabimkfjpaa", sum := "5f6a9e3b74a9974587f53033a19326405d52cca90235911419edb55d20429c13", func := "waymark/waymarklaw14.SoundOrder", spec := "soundOrder", unfollowed := true, recurses := true, apart := false }
def SoundOrderSaid : Prop := soundOrderRow.holds Try.pinned (OpenSpec.ofChange soundOrderSpec)

/-- ITS FALSE NEIGHBOUR: 'it returns false'. Refute it at one input. -/
def soundOrderWrong : ChangeSpec := { name := "soundOrder", fn := fun _ => fun
  | [d1, d2, d3] => { results := [.lit (.bool false)], args := [d1, d2, d3] }
  | _ => none }
def SoundOrderWrongFalsely : Prop := soundOrderRow.holds Try.pinned (OpenSpec.ofChange soundOrderWrong)

/-- 'waymarklaw14.SoundWrong': WHATEVER THE INPUT: true; the input reads as it did. -/
def soundWrongSpec : ChangeSpec := { name := "soundWrong", fn := fun _ => fun
  | [d1, d2] => { results := [.lit (.bool true)], args := [d1, d2] }
  | _ => none }
def soundWrongRow : OpenClaim := { program := "ythoblabimkfjpaa", sum := "5f6a9e3b74a9974587f53033a19326405d52cca90235911419edb55d20429c13", func := "waymark/waymarklaw14.SoundWrong", spec := "soundWrong", unfollowed := true, recurses := true, apart := false }
def SoundWrongSaid : Prop := soundWrongRow.holds Try.pinned (OpenSpec.ofChange soundWrongSpec)

/-- ITS FALSE NEIGHBOUR: 'it returns false'. Refute it at one input. -/
def soundWrongWrong : ChangeSpec := { name := "soundWrong", fn := fun _ => fun
  | [d1, d2] => { results := [.lit (.bool false)], args := [d1, d2] }
  | _ => none }
def SoundWrongWrongFalsely : Prop := soundWrongRow.holds Try.pinned (OpenSpec.ofChange soundWrongWrong)

/- THE SECOND FORM. 'bulk': how many values and letters a reading holds, each counted each time it is reached (what is shared counts as often as it is met; a slice's spare places count too). A statement '..UptoSaid' is the law's where the arguments, and the package variables that the reading takes, are together of bulk at most 1048576: NARROWER than '..Said'. Prove '..Said' where nothing that the law and all that it calls make is longer than what came in: it says more and counts as full. Else prove '..UptoSaid'. A law counts once. -/
mutual
def uptoBulk {H : Type} : DataW H → Nat
  | .lit (.string bytes) => bytes.length + 1
  | .lit _ => 1
  | .nil => 1
  | .ptr d => uptoBulk d + 1
  | .slice elems spare => uptoBulkAll elems + uptoBulkAll spare + 1
  | .agg parts => uptoBulkAll parts + 1
  | .iface _ d => uptoBulk d + 1
  | .map entries => uptoBulkEntries entries + 1
  | .held _ => 1
def uptoBulkAll {H : Type} : List (DataW H) → Nat
  | [] => 0
  | d :: r => uptoBulk d + uptoBulkAll r
def uptoBulkEntries {H : Type} : List (Lit × DataW H) → Nat
  | [] => 0
  | x :: r => uptoBulkEntry x + uptoBulkEntries r
def uptoBulkEntry {H : Type} : Lit × DataW H → Nat
  | (.string bytes, d) => bytes.length + uptoBulk d + 1
  | (_, d) => uptoBulk d + 1
 end
def uptoSmall : (H : Type) → List (DataW H) → Bool := fun _ ds => decide (uptoBulkAll ds ≤ 1048576)
def OpenSpec.upto (s : _root_.Go.ChangeSpec) : _root_.Go.OpenSpec := { _root_.Go.OpenSpec.ofChange s with cond := some uptoSmall }

/-- 'waymarklaw1.EntryTells', WHERE WHAT IT READS IS OF BULK AT MOST 1048576: true; the input reads as it did. -/
def entryTellsUptoRow : OpenClaim := { program := "ythoblabimkfjpaa", sum := "5f6a9e3b74a9974587f53033a19326405d52cca90235911419edb55d20429c13", func := "waymark/waymarklaw1.EntryTells", spec := "entryTells", apart := false, narrowed := true }
def EntryTellsUptoSaid : Prop := entryTellsUptoRow.holds Try.pinned (OpenSpec.upto entryTellsSpec)

/-- 'waymarklaw14.SoundTells', WHERE WHAT IT READS IS OF BULK AT MOST 1048576: true; the input reads as it did. -/
def soundTellsUptoRow : OpenClaim := { program := "ythoblabimkfjpaa", sum := "5f6a9e3b74a9974587f53033a19326405d52cca90235911419edb55d20429c13", func := "waymark/waymarklaw14.SoundTells", spec := "soundTells", unfollowed := true, recurses := true, apart := false, narrowed := true }
def SoundTellsUptoSaid : Prop := soundTellsUptoRow.holds Try.pinned (OpenSpec.upto soundTellsSpec)

/-- 'waymarklaw14.SoundOrder', WHERE WHAT IT READS IS OF BULK AT MOST 1048576: true; the input reads as it did. -/
def soundOrderUptoRow : OpenClaim := { program := "ythoblabimkfjpaa", sum := "5f6a9e3b74a9974587f53033a19326405d52cca90235911419edb55d20429c13", func := "waymark/waymarklaw14.SoundOrder", spec := "soundOrder", unfollowed := true, recurses := true, apart := false, narrowed := true }
def SoundOrderUptoSaid : Prop := soundOrderUptoRow.holds Try.pinned (OpenSpec.upto soundOrderSpec)

/-- 'waymarklaw14.SoundWrong', WHERE WHAT IT READS IS OF BULK AT MOST 1048576: true; the input reads as it did. -/
def soundWrongUptoRow : OpenClaim := { program := "ythoblabimkfjpaa", sum := "5f6a9e3b74a9974587f53033a19326405d52cca90235911419edb55d20429c13", func := "waymark/waymarklaw14.SoundWrong", spec := "soundWrong", unfollowed := true, recurses := true, apart := false, narrowed := true }
def SoundWrongUptoSaid : Prop := soundWrongUptoRow.holds Try.pinned (OpenSpec.upto soundWrongSpec)

end Rows
end Go.Proofs.Ythoblabimkfjpaa
