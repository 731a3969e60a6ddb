/-
  DERIVED. GIVEN WITH THE SEED: THE CARDS: each row of YtcnepobakbenhaaDoorRows.lean that lists a variable, with what it lists TIED to the program's text (the seventh form; the later family's looks); each row that meets fmt, with fmt's text TOLD by the authors' own Lean function (tested against real Go, not proved from fmt's source: count such statements apart). THE CARD IS WHAT COUNTS. Prove the row's statement (the work); the ties are given (YtcnepobakbenhaaDoorTie.lean); close each card by the builder's one call (the guide's Derived/Test/ToyasCard.lean, 'card_holds'). Laid BY PROGRAM, IN A SANDBOX (cutbox-door.mjs). By AI agents, Wed Nov 11 2026. No macro, syntax, notation, axiom, sorry.
-/
import Derived.Test.YtcnepobakbenhaaDoorRows
import GoSem.ClaimSeven
namespace Go.Proofs.YtcnepobakbenhaaDoor
namespace Rows

/-- THE TIED CARD OF 'waymarklaw11.PrefixTells'. -/
def prefixTellsCard : Claim7 := { stood := { row := prefixTellsRow, standIns := [], harness := (true, "0f43c1c35ee3112a7b3ce18c1e0dfbcccbcb9741ecc45ddd6eb9034e0046950e"), looks := true }, kinds := [], alts := [], laidByText := true, laidKinds := [.data, .data, .data, .sentinel, .sentinel], laidTests := true, laidLooks := .later }
def PrefixTellsCardSaid : Prop := Claim7.holds Tryd.pinned (.plain (OpenSpec.ofChange prefixTellsSpec)) prefixTellsCard

/-- THE TIED CARD OF 'waymarklaw11.PrefixBack'. -/
def prefixBackCard : Claim7 := { stood := { row := prefixBackRow, standIns := [], harness := (true, "0f43c1c35ee3112a7b3ce18c1e0dfbcccbcb9741ecc45ddd6eb9034e0046950e"), looks := true }, kinds := [], alts := [], laidByText := true, laidKinds := [.data, .data, .data, .sentinel, .sentinel], laidTests := true, laidLooks := .later }
def PrefixBackCardSaid : Prop := Claim7.holds Tryd.pinned (.plain (OpenSpec.ofChange prefixBackSpec)) prefixBackCard

/-- THE TIED CARD OF 'waymarklaw11.PrefixWrong'. -/
def prefixWrongCard : Claim7 := { stood := { row := prefixWrongRow, standIns := [], harness := (true, "0f43c1c35ee3112a7b3ce18c1e0dfbcccbcb9741ecc45ddd6eb9034e0046950e"), looks := true }, kinds := [], alts := [], laidByText := true, laidKinds := [.data, .data, .data, .sentinel, .sentinel], laidTests := true, laidLooks := .later }
def PrefixWrongCardSaid : Prop := Claim7.holds Tryd.pinned (.plain (OpenSpec.ofChange prefixWrongSpec)) prefixWrongCard

/-- THE SECOND FORM's CARD OF 'waymarklaw11.PrefixTells'. -/
def prefixTellsUptoCard : Claim7 := { stood := { row := prefixTellsUptoRow, standIns := [], harness := (true, "0f43c1c35ee3112a7b3ce18c1e0dfbcccbcb9741ecc45ddd6eb9034e0046950e"), looks := true }, kinds := [], alts := [], laidByText := true, laidKinds := [.data, .data, .data, .sentinel, .sentinel], laidTests := true, laidLooks := .later }
def PrefixTellsUptoCardSaid : Prop := Claim7.holds Tryd.pinned (.plain (OpenSpec.upto prefixTellsSpec)) prefixTellsUptoCard

/-- THE SECOND FORM's CARD OF 'waymarklaw11.PrefixBack'. -/
def prefixBackUptoCard : Claim7 := { stood := { row := prefixBackUptoRow, standIns := [], harness := (true, "0f43c1c35ee3112a7b3ce18c1e0dfbcccbcb9741ecc45ddd6eb9034e0046950e"), looks := true }, kinds := [], alts := [], laidByText := true, laidKinds := [.data, .data, .data, .sentinel, .sentinel], laidTests := true, laidLooks := .later }
def PrefixBackUptoCardSaid : Prop := Claim7.holds Tryd.pinned (.plain (OpenSpec.upto prefixBackSpec)) prefixBackUptoCard

/-- THE SECOND FORM's CARD OF 'waymarklaw11.PrefixWrong'. -/
def prefixWrongUptoCard : Claim7 := { stood := { row := prefixWrongUptoRow, standIns := [], harness := (true, "0f43c1c35ee3112a7b3ce18c1e0dfbcccbcb9741ecc45ddd6eb9034e0046950e"), looks := true }, kinds := [], alts := [], laidByText := true, laidKinds := [.data, .data, .data, .sentinel, .sentinel], laidTests := true, laidLooks := .later }
def PrefixWrongUptoCardSaid : Prop := Claim7.holds Tryd.pinned (.plain (OpenSpec.upto prefixWrongSpec)) prefixWrongUptoCard
end Rows
end Go.Proofs.YtcnepobakbenhaaDoor
