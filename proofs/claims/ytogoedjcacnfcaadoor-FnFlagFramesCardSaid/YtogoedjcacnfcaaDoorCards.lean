/-
  DERIVED. GIVEN WITH THE SEED: THE CARDS: each row of YtogoedjcacnfcaaDoorRows.lean that lists a variable, with what it lists TIED to the program's text (the seventh form; the later family's looks); each row that meets fmt, with fmt's text TOLD by the authors' own Lean function (tested against real Go, not proved from fmt's source: count such statements apart). THE CARD IS WHAT COUNTS. Prove the row's statement (the work); the ties are given (YtogoedjcacnfcaaDoorTie.lean); close each card by the builder's one call (the guide's Derived/Test/ToyasCard.lean, 'card_holds'). Laid BY PROGRAM, IN A SANDBOX (cutbox-door.mjs). By AI agents, Wed Nov 11 2026. No macro, syntax, notation, axiom, sorry.
-/
import Derived.Test.YtogoedjcacnfcaaDoorRows
import GoSem.ClaimSeven
namespace Go.Proofs.YtogoedjcacnfcaaDoor
namespace Rows

/-- THE TIED CARD OF 'laws.FnExactFindFrames'. -/
def fnExactFindFramesCard : Claim7 := { stood := { row := fnExactFindFramesRow, standIns := [], harness := (true, "6cbab8606070339790ee7da32191ccfe1ee88452e6b96228c41951e7912e5b11"), looks := false }, kinds := [], alts := [], laidByText := true, laidKinds := [.data, .pinned], laidTests := true, laidLooks := .later }
def FnExactFindFramesCardSaid : Prop := Claim7.holds Tryd.pinned (.plain (OpenSpec.ofChange fnExactFindFramesSpec)) fnExactFindFramesCard

/-- THE TIED CARD OF 'laws.FnFlagFrames'. -/
def fnFlagFramesCard : Claim7 := { stood := { row := fnFlagFramesRow, standIns := [], harness := (true, "6cbab8606070339790ee7da32191ccfe1ee88452e6b96228c41951e7912e5b11"), looks := false }, kinds := [], alts := [], laidByText := true, laidKinds := [.data, .pinned], laidTests := true, laidLooks := .later }
def FnFlagFramesCardSaid : Prop := Claim7.holds Tryd.pinned (.plain (OpenSpec.ofChange fnFlagFramesSpec)) fnFlagFramesCard

/-- THE TIED CARD OF 'laws.FnFindFrames'. -/
def fnFindFramesCard : Claim7 := { stood := { row := fnFindFramesRow, standIns := [], harness := (true, "6cbab8606070339790ee7da32191ccfe1ee88452e6b96228c41951e7912e5b11"), looks := false }, kinds := [], alts := [], laidByText := true, laidKinds := [.data, .pinned], laidTests := true, laidLooks := .later }
def FnFindFramesCardSaid : Prop := Claim7.holds Tryd.pinned (.plain (OpenSpec.ofChange fnFindFramesSpec)) fnFindFramesCard

/-- THE SECOND FORM's CARD OF 'laws.FnExactFindFrames'. -/
def fnExactFindFramesUptoCard : Claim7 := { stood := { row := fnExactFindFramesUptoRow, standIns := [], harness := (true, "6cbab8606070339790ee7da32191ccfe1ee88452e6b96228c41951e7912e5b11"), looks := false }, kinds := [], alts := [], laidByText := true, laidKinds := [.data, .pinned], laidTests := true, laidLooks := .later }
def FnExactFindFramesUptoCardSaid : Prop := Claim7.holds Tryd.pinned (.plain (OpenSpec.upto fnExactFindFramesSpec)) fnExactFindFramesUptoCard

/-- THE SECOND FORM's CARD OF 'laws.FnFlagFrames'. -/
def fnFlagFramesUptoCard : Claim7 := { stood := { row := fnFlagFramesUptoRow, standIns := [], harness := (true, "6cbab8606070339790ee7da32191ccfe1ee88452e6b96228c41951e7912e5b11"), looks := false }, kinds := [], alts := [], laidByText := true, laidKinds := [.data, .pinned], laidTests := true, laidLooks := .later }
def FnFlagFramesUptoCardSaid : Prop := Claim7.holds Tryd.pinned (.plain (OpenSpec.upto fnFlagFramesSpec)) fnFlagFramesUptoCard

/-- THE SECOND FORM's CARD OF 'laws.FnFindFrames'. -/
def fnFindFramesUptoCard : Claim7 := { stood := { row := fnFindFramesUptoRow, standIns := [], harness := (true, "6cbab8606070339790ee7da32191ccfe1ee88452e6b96228c41951e7912e5b11"), looks := false }, kinds := [], alts := [], laidByText := true, laidKinds := [.data, .pinned], laidTests := true, laidLooks := .later }
def FnFindFramesUptoCardSaid : Prop := Claim7.holds Tryd.pinned (.plain (OpenSpec.upto fnFindFramesSpec)) fnFindFramesUptoCard
end Rows
end Go.Proofs.YtogoedjcacnfcaaDoor
