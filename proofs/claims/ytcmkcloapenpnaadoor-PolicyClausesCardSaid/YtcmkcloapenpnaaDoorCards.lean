/-
  DERIVED. GIVEN WITH THE SEED: THE CARDS: each row of YtcmkcloapenpnaaDoorRows.lean that lists a variable, with what it lists TIED to the program's text (the seventh form; the later family's looks); each row that meets fmt, with fmt's text TOLD by the authors' own Lean function (tested against real Go, not proved from fmt's source: count such statements apart). THE CARD IS WHAT COUNTS. Prove the row's statement (the work); the ties are given (YtcmkcloapenpnaaDoorTie.lean); close each card by the builder's one call (the guide's Derived/Test/ToyasCard.lean, 'card_holds'). Laid BY PROGRAM, IN A SANDBOX (cutbox-door.mjs). By AI agents, Wed Nov 11 2026. No macro, syntax, notation, axiom, sorry.
-/
import Derived.Test.YtcmkcloapenpnaaDoorRows
import GoSem.ClaimSeven
namespace Go.Proofs.YtcmkcloapenpnaaDoor
namespace Rows

/-- THE TIED CARD OF 'waymarklaw11.PrefixTells'. -/
def prefixTellsCard : Claim7 := { stood := { row := prefixTellsRow, standIns := [], harness := (true, "f5400493b4ab2e159408f44c0e275fd74466b1f74960d33a948f13cab04988ee"), looks := true }, kinds := [], alts := [], laidByText := true, laidKinds := [.data, .data, .data, .sentinel, .sentinel], laidTests := true, laidLooks := .later }
def PrefixTellsCardSaid : Prop := Claim7.holds Tryd.pinned (.plain (OpenSpec.ofChange prefixTellsSpec)) prefixTellsCard

/-- THE TIED CARD OF 'waymarklaw11.PrefixBack'. -/
def prefixBackCard : Claim7 := { stood := { row := prefixBackRow, standIns := [], harness := (true, "f5400493b4ab2e159408f44c0e275fd74466b1f74960d33a948f13cab04988ee"), looks := true }, kinds := [], alts := [], laidByText := true, laidKinds := [.data, .data, .data, .sentinel, .sentinel], laidTests := true, laidLooks := .later }
def PrefixBackCardSaid : Prop := Claim7.holds Tryd.pinned (.plain (OpenSpec.ofChange prefixBackSpec)) prefixBackCard

/-- THE TIED CARD OF 'waymarklaw11.PrefixWrong'. -/
def prefixWrongCard : Claim7 := { stood := { row := prefixWrongRow, standIns := [], harness := (true, "f5400493b4ab2e159408f44c0e275fd74466b1f74960d33a948f13cab04988ee"), looks := true }, kinds := [], alts := [], laidByText := true, laidKinds := [.data, .data, .data, .sentinel, .sentinel], laidTests := true, laidLooks := .later }
def PrefixWrongCardSaid : Prop := Claim7.holds Tryd.pinned (.plain (OpenSpec.ofChange prefixWrongSpec)) prefixWrongCard

/-- THE TIED CARD OF 'waymarklaw13.PolicyWrong'. -/
def policyWrongCard : Claim7 := { stood := { row := policyWrongRow, standIns := [], harness := (true, "f5400493b4ab2e159408f44c0e275fd74466b1f74960d33a948f13cab04988ee"), looks := true }, kinds := [], alts := [], laidByText := true, laidKinds := [.data, .data, .data, .sentinel, .sentinel], laidTests := true, laidLooks := .later }
def PolicyWrongCardSaid : Prop := Claim7.holds Tryd.pinned (.plain (OpenSpec.ofChange policyWrongSpec)) policyWrongCard

/-- THE TIED CARD OF 'waymarklaw13.PolicyMany'. -/
def policyManyCard : Claim7 := { stood := { row := policyManyRow, standIns := [], harness := (true, "f5400493b4ab2e159408f44c0e275fd74466b1f74960d33a948f13cab04988ee"), looks := true }, kinds := [], alts := [], laidByText := true, laidKinds := [.data, .data, .data, .sentinel, .sentinel], laidTests := true, laidLooks := .later }
def PolicyManyCardSaid : Prop := Claim7.holds Tryd.pinned (.plain (OpenSpec.ofChange policyManySpec)) policyManyCard

/-- THE TIED CARD OF 'waymarklaw13.PolicyClauses'. -/
def policyClausesCard : Claim7 := { stood := { row := policyClausesRow, standIns := [], harness := (true, "f5400493b4ab2e159408f44c0e275fd74466b1f74960d33a948f13cab04988ee"), looks := true }, kinds := [], alts := [], laidByText := true, laidKinds := [.data, .data, .data, .sentinel, .sentinel], laidTests := true, laidLooks := .later }
def PolicyClausesCardSaid : Prop := Claim7.holds Tryd.pinned (.plain (OpenSpec.ofChange policyClausesSpec)) policyClausesCard

/-- THE SECOND FORM's CARD OF 'waymarklaw11.PrefixTells'. -/
def prefixTellsUptoCard : Claim7 := { stood := { row := prefixTellsUptoRow, standIns := [], harness := (true, "f5400493b4ab2e159408f44c0e275fd74466b1f74960d33a948f13cab04988ee"), looks := true }, kinds := [], alts := [], laidByText := true, laidKinds := [.data, .data, .data, .sentinel, .sentinel], laidTests := true, laidLooks := .later }
def PrefixTellsUptoCardSaid : Prop := Claim7.holds Tryd.pinned (.plain (OpenSpec.upto prefixTellsSpec)) prefixTellsUptoCard

/-- THE SECOND FORM's CARD OF 'waymarklaw11.PrefixBack'. -/
def prefixBackUptoCard : Claim7 := { stood := { row := prefixBackUptoRow, standIns := [], harness := (true, "f5400493b4ab2e159408f44c0e275fd74466b1f74960d33a948f13cab04988ee"), looks := true }, kinds := [], alts := [], laidByText := true, laidKinds := [.data, .data, .data, .sentinel, .sentinel], laidTests := true, laidLooks := .later }
def PrefixBackUptoCardSaid : Prop := Claim7.holds Tryd.pinned (.plain (OpenSpec.upto prefixBackSpec)) prefixBackUptoCard

/-- THE SECOND FORM's CARD OF 'waymarklaw11.PrefixWrong'. -/
def prefixWrongUptoCard : Claim7 := { stood := { row := prefixWrongUptoRow, standIns := [], harness := (true, "f5400493b4ab2e159408f44c0e275fd74466b1f74960d33a948f13cab04988ee"), looks := true }, kinds := [], alts := [], laidByText := true, laidKinds := [.data, .data, .data, .sentinel, .sentinel], laidTests := true, laidLooks := .later }
def PrefixWrongUptoCardSaid : Prop := Claim7.holds Tryd.pinned (.plain (OpenSpec.upto prefixWrongSpec)) prefixWrongUptoCard

/-- THE SECOND FORM's CARD OF 'waymarklaw13.PolicyWrong'. -/
def policyWrongUptoCard : Claim7 := { stood := { row := policyWrongUptoRow, standIns := [], harness := (true, "f5400493b4ab2e159408f44c0e275fd74466b1f74960d33a948f13cab04988ee"), looks := true }, kinds := [], alts := [], laidByText := true, laidKinds := [.data, .data, .data, .sentinel, .sentinel], laidTests := true, laidLooks := .later }
def PolicyWrongUptoCardSaid : Prop := Claim7.holds Tryd.pinned (.plain (OpenSpec.upto policyWrongSpec)) policyWrongUptoCard

/-- THE SECOND FORM's CARD OF 'waymarklaw13.PolicyMany'. -/
def policyManyUptoCard : Claim7 := { stood := { row := policyManyUptoRow, standIns := [], harness := (true, "f5400493b4ab2e159408f44c0e275fd74466b1f74960d33a948f13cab04988ee"), looks := true }, kinds := [], alts := [], laidByText := true, laidKinds := [.data, .data, .data, .sentinel, .sentinel], laidTests := true, laidLooks := .later }
def PolicyManyUptoCardSaid : Prop := Claim7.holds Tryd.pinned (.plain (OpenSpec.upto policyManySpec)) policyManyUptoCard

/-- THE SECOND FORM's CARD OF 'waymarklaw13.PolicyClauses'. -/
def policyClausesUptoCard : Claim7 := { stood := { row := policyClausesUptoRow, standIns := [], harness := (true, "f5400493b4ab2e159408f44c0e275fd74466b1f74960d33a948f13cab04988ee"), looks := true }, kinds := [], alts := [], laidByText := true, laidKinds := [.data, .data, .data, .sentinel, .sentinel], laidTests := true, laidLooks := .later }
def PolicyClausesUptoCardSaid : Prop := Claim7.holds Tryd.pinned (.plain (OpenSpec.upto policyClausesSpec)) policyClausesUptoCard
end Rows
end Go.Proofs.YtcmkcloapenpnaaDoor
