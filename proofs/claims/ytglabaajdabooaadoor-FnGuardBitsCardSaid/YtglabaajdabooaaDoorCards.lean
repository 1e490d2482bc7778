/-
  DERIVED. GIVEN WITH THE SEED: THE CARDS: each row of YtglabaajdabooaaDoorRows.lean that lists a variable, with what it lists TIED to the program's text (the seventh form; the later family's looks); each row that meets fmt, with fmt's text TOLD by the authors' own Lean function (tested against real Go, not proved from fmt's source: count such statements apart). THE CARD IS WHAT COUNTS. Prove the row's statement (the work); the ties are given (YtglabaajdabooaaDoorTie.lean); close each card by the builder's one call (the guide's Derived/Test/ToyasCard.lean, 'card_holds'). Laid BY PROGRAM, IN A SANDBOX (cutbox-door.mjs). By AI agents, Wed Nov 11 2026. No macro, syntax, notation, axiom, sorry.
-/
import Derived.Test.YtglabaajdabooaaDoorRows
import GoSem.ClaimSeven
namespace Go.Proofs.YtglabaajdabooaaDoor
namespace Rows

/-- THE TIED CARD OF 'laws.FnExactGuardBits'. -/
def fnExactGuardBitsCard : Claim7 := { stood := { row := fnExactGuardBitsRow, standIns := [], harness := (true, "b9f1326c21542c1101ce68fbb414ae6e619228444203bf8b034d0ff8049db0a3"), looks := false }, kinds := [], alts := [], laidByText := true, laidKinds := [.data, .data], laidTests := true, laidLooks := .later }
def FnExactGuardBitsCardSaid : Prop := Claim7.holds Tryd.pinned (.plain (OpenSpec.ofChange fnExactGuardBitsSpec)) fnExactGuardBitsCard

/-- THE TIED CARD OF 'laws.FnExactMendBits'. -/
def fnExactMendBitsCard : Claim7 := { stood := { row := fnExactMendBitsRow, standIns := [], harness := (true, "b9f1326c21542c1101ce68fbb414ae6e619228444203bf8b034d0ff8049db0a3"), looks := false }, kinds := [], alts := [], laidByText := true, laidKinds := [.data, .data], laidTests := true, laidLooks := .later }
def FnExactMendBitsCardSaid : Prop := Claim7.holds Tryd.pinned (.plain (OpenSpec.ofChange fnExactMendBitsSpec)) fnExactMendBitsCard

/-- THE TIED CARD OF 'laws.FnGuardBits'. -/
def fnGuardBitsCard : Claim7 := { stood := { row := fnGuardBitsRow, standIns := [], harness := (true, "b9f1326c21542c1101ce68fbb414ae6e619228444203bf8b034d0ff8049db0a3"), looks := false }, kinds := [], alts := [], laidByText := true, laidKinds := [.data, .data], laidTests := true, laidLooks := .later }
def FnGuardBitsCardSaid : Prop := Claim7.holds Tryd.pinned (.plain (OpenSpec.ofChange fnGuardBitsSpec)) fnGuardBitsCard

/-- THE TIED CARD OF 'laws.FnMendBits'. -/
def fnMendBitsCard : Claim7 := { stood := { row := fnMendBitsRow, standIns := [], harness := (true, "b9f1326c21542c1101ce68fbb414ae6e619228444203bf8b034d0ff8049db0a3"), looks := false }, kinds := [], alts := [], laidByText := true, laidKinds := [.data, .data], laidTests := true, laidLooks := .later }
def FnMendBitsCardSaid : Prop := Claim7.holds Tryd.pinned (.plain (OpenSpec.ofChange fnMendBitsSpec)) fnMendBitsCard

/-- THE SECOND FORM's CARD OF 'laws.FnExactGuardBits'. -/
def fnExactGuardBitsUptoCard : Claim7 := { stood := { row := fnExactGuardBitsUptoRow, standIns := [], harness := (true, "b9f1326c21542c1101ce68fbb414ae6e619228444203bf8b034d0ff8049db0a3"), looks := false }, kinds := [], alts := [], laidByText := true, laidKinds := [.data, .data], laidTests := true, laidLooks := .later }
def FnExactGuardBitsUptoCardSaid : Prop := Claim7.holds Tryd.pinned (.plain (OpenSpec.upto fnExactGuardBitsSpec)) fnExactGuardBitsUptoCard

/-- THE SECOND FORM's CARD OF 'laws.FnExactMendBits'. -/
def fnExactMendBitsUptoCard : Claim7 := { stood := { row := fnExactMendBitsUptoRow, standIns := [], harness := (true, "b9f1326c21542c1101ce68fbb414ae6e619228444203bf8b034d0ff8049db0a3"), looks := false }, kinds := [], alts := [], laidByText := true, laidKinds := [.data, .data], laidTests := true, laidLooks := .later }
def FnExactMendBitsUptoCardSaid : Prop := Claim7.holds Tryd.pinned (.plain (OpenSpec.upto fnExactMendBitsSpec)) fnExactMendBitsUptoCard

/-- THE SECOND FORM's CARD OF 'laws.FnGuardBits'. -/
def fnGuardBitsUptoCard : Claim7 := { stood := { row := fnGuardBitsUptoRow, standIns := [], harness := (true, "b9f1326c21542c1101ce68fbb414ae6e619228444203bf8b034d0ff8049db0a3"), looks := false }, kinds := [], alts := [], laidByText := true, laidKinds := [.data, .data], laidTests := true, laidLooks := .later }
def FnGuardBitsUptoCardSaid : Prop := Claim7.holds Tryd.pinned (.plain (OpenSpec.upto fnGuardBitsSpec)) fnGuardBitsUptoCard

/-- THE SECOND FORM's CARD OF 'laws.FnMendBits'. -/
def fnMendBitsUptoCard : Claim7 := { stood := { row := fnMendBitsUptoRow, standIns := [], harness := (true, "b9f1326c21542c1101ce68fbb414ae6e619228444203bf8b034d0ff8049db0a3"), looks := false }, kinds := [], alts := [], laidByText := true, laidKinds := [.data, .data], laidTests := true, laidLooks := .later }
def FnMendBitsUptoCardSaid : Prop := Claim7.holds Tryd.pinned (.plain (OpenSpec.upto fnMendBitsSpec)) fnMendBitsUptoCard
end Rows
end Go.Proofs.YtglabaajdabooaaDoor
