/-
  DERIVED. GIVEN WITH THE SEED: THE CARDS: each row of YthogkhifgkgplaaDoorRows.lean that lists a variable, with what it lists TIED to the program's text (the seventh form; the later family's looks); each row that meets fmt, with fmt's text TOLD by the authors' own Lean function (tested against real Go, not proved from fmt's source: count such statements apart). THE CARD IS WHAT COUNTS. Prove the row's statement (the work); the ties are given (YthogkhifgkgplaaDoorTie.lean); close each card by the builder's one call (the guide's Derived/Test/ToyasCard.lean, 'card_holds'). Laid BY PROGRAM, IN A SANDBOX (cutbox-door.mjs). By AI agents, Wed Nov 11 2026. No macro, syntax, notation, axiom, sorry.
-/
import Derived.Test.YthogkhifgkgplaaDoorRows
import GoSem.ClaimSeven
namespace Go.Proofs.YthogkhifgkgplaaDoor
namespace Rows

/-- THE TIED CARD OF 'laws.FnExactUnpackFields'. -/
def fnExactUnpackFieldsCard : Claim7 := { stood := { row := fnExactUnpackFieldsRow, standIns := [], harness := (true, "707f8453d31c5b2489f56abe8f39d26e64435fd699bf44ed71605d27d8e3919b"), looks := true }, kinds := [], alts := [], laidByText := true, laidKinds := [.handle, .sentinel], laidTests := true, laidLooks := .later }
def FnExactUnpackFieldsCardSaid : Prop := Claim7.holds Tryd.pinned (.plain (OpenSpec.ofChange fnExactUnpackFieldsSpec)) fnExactUnpackFieldsCard

/-- THE TIED CARD OF 'laws.FnPackFields'. -/
def fnPackFieldsCard : Claim7 := { stood := { row := fnPackFieldsRow, standIns := [], harness := (true, "707f8453d31c5b2489f56abe8f39d26e64435fd699bf44ed71605d27d8e3919b"), looks := true }, kinds := [], alts := [], laidByText := true, laidKinds := [.handle, .sentinel], laidTests := true, laidLooks := .later }
def FnPackFieldsCardSaid : Prop := Claim7.holds Tryd.pinned (.plain (OpenSpec.ofChange fnPackFieldsSpec)) fnPackFieldsCard

/-- THE TIED CARD OF 'laws.FnUnpackFields'. -/
def fnUnpackFieldsCard : Claim7 := { stood := { row := fnUnpackFieldsRow, standIns := [], harness := (true, "707f8453d31c5b2489f56abe8f39d26e64435fd699bf44ed71605d27d8e3919b"), looks := true }, kinds := [], alts := [], laidByText := true, laidKinds := [.handle, .sentinel], laidTests := true, laidLooks := .later }
def FnUnpackFieldsCardSaid : Prop := Claim7.holds Tryd.pinned (.plain (OpenSpec.ofChange fnUnpackFieldsSpec)) fnUnpackFieldsCard

/-- THE SECOND FORM's CARD OF 'laws.FnExactUnpackFields'. -/
def fnExactUnpackFieldsUptoCard : Claim7 := { stood := { row := fnExactUnpackFieldsUptoRow, standIns := [], harness := (true, "707f8453d31c5b2489f56abe8f39d26e64435fd699bf44ed71605d27d8e3919b"), looks := true }, kinds := [], alts := [], laidByText := true, laidKinds := [.handle, .sentinel], laidTests := true, laidLooks := .later }
def FnExactUnpackFieldsUptoCardSaid : Prop := Claim7.holds Tryd.pinned (.plain (OpenSpec.upto fnExactUnpackFieldsSpec)) fnExactUnpackFieldsUptoCard

/-- THE SECOND FORM's CARD OF 'laws.FnPackFields'. -/
def fnPackFieldsUptoCard : Claim7 := { stood := { row := fnPackFieldsUptoRow, standIns := [], harness := (true, "707f8453d31c5b2489f56abe8f39d26e64435fd699bf44ed71605d27d8e3919b"), looks := true }, kinds := [], alts := [], laidByText := true, laidKinds := [.handle, .sentinel], laidTests := true, laidLooks := .later }
def FnPackFieldsUptoCardSaid : Prop := Claim7.holds Tryd.pinned (.plain (OpenSpec.upto fnPackFieldsSpec)) fnPackFieldsUptoCard

/-- THE SECOND FORM's CARD OF 'laws.FnUnpackFields'. -/
def fnUnpackFieldsUptoCard : Claim7 := { stood := { row := fnUnpackFieldsUptoRow, standIns := [], harness := (true, "707f8453d31c5b2489f56abe8f39d26e64435fd699bf44ed71605d27d8e3919b"), looks := true }, kinds := [], alts := [], laidByText := true, laidKinds := [.handle, .sentinel], laidTests := true, laidLooks := .later }
def FnUnpackFieldsUptoCardSaid : Prop := Claim7.holds Tryd.pinned (.plain (OpenSpec.upto fnUnpackFieldsSpec)) fnUnpackFieldsUptoCard
end Rows
end Go.Proofs.YthogkhifgkgplaaDoor
