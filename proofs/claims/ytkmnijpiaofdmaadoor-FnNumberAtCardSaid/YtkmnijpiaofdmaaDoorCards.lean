/-
  DERIVED. GIVEN WITH THE SEED: THE CARDS: each row of YtkmnijpiaofdmaaDoorRows.lean that lists a variable, with what it lists TIED to the program's text (the seventh form; the later family's looks); each row that meets fmt, with fmt's text TOLD by the authors' own Lean function (tested against real Go, not proved from fmt's source: count such statements apart). THE CARD IS WHAT COUNTS. Prove the row's statement (the work); the ties are given (YtkmnijpiaofdmaaDoorTie.lean); close each card by the builder's one call (the guide's Derived/Test/ToyasCard.lean, 'card_holds'). Laid BY PROGRAM, IN A SANDBOX (cutbox-door.mjs). By AI agents, Wed Nov 11 2026. No macro, syntax, notation, axiom, sorry.
-/
import Derived.Test.YtkmnijpiaofdmaaDoorRows
import GoSem.ClaimSeven
namespace Go.Proofs.YtkmnijpiaofdmaaDoor
namespace Rows

/-- THE TIED CARD OF 'laws.FnGroupsOf'. -/
def fnGroupsOfCard : Claim7 := { stood := { row := fnGroupsOfRow, standIns := [], harness := (true, "51619d1b0081601c9cff8465717aa4a7e25ae2e75627cc1a0b150694a32a41e2"), looks := false }, kinds := [], alts := [], laidByText := true, laidKinds := [.sentinel], laidTests := true, laidLooks := .later }
def FnGroupsOfCardSaid : Prop := Claim7.holds Tryd.pinned (.plain (OpenSpec.ofChange fnGroupsOfSpec)) fnGroupsOfCard

/-- THE TIED CARD OF 'laws.FnExactNumberAt'. -/
def fnExactNumberAtCard : Claim7 := { stood := { row := fnExactNumberAtRow, standIns := [], harness := (true, "51619d1b0081601c9cff8465717aa4a7e25ae2e75627cc1a0b150694a32a41e2"), looks := false }, kinds := [], alts := [], laidByText := true, laidKinds := [.sentinel], laidTests := true, laidLooks := .later }
def FnExactNumberAtCardSaid : Prop := Claim7.holds Tryd.pinned (.plain (OpenSpec.ofChange fnExactNumberAtSpec)) fnExactNumberAtCard

/-- THE TIED CARD OF 'laws.FnNumberAt'. -/
def fnNumberAtCard : Claim7 := { stood := { row := fnNumberAtRow, standIns := [], harness := (true, "51619d1b0081601c9cff8465717aa4a7e25ae2e75627cc1a0b150694a32a41e2"), looks := false }, kinds := [], alts := [], laidByText := true, laidKinds := [.sentinel], laidTests := true, laidLooks := .later }
def FnNumberAtCardSaid : Prop := Claim7.holds Tryd.pinned (.plain (OpenSpec.ofChange fnNumberAtSpec)) fnNumberAtCard

/-- THE SECOND FORM's CARD OF 'laws.FnGroupsOf'. -/
def fnGroupsOfUptoCard : Claim7 := { stood := { row := fnGroupsOfUptoRow, standIns := [], harness := (true, "51619d1b0081601c9cff8465717aa4a7e25ae2e75627cc1a0b150694a32a41e2"), looks := false }, kinds := [], alts := [], laidByText := true, laidKinds := [.sentinel], laidTests := true, laidLooks := .later }
def FnGroupsOfUptoCardSaid : Prop := Claim7.holds Tryd.pinned (.plain (OpenSpec.upto fnGroupsOfSpec)) fnGroupsOfUptoCard

/-- THE SECOND FORM's CARD OF 'laws.FnExactNumberAt'. -/
def fnExactNumberAtUptoCard : Claim7 := { stood := { row := fnExactNumberAtUptoRow, standIns := [], harness := (true, "51619d1b0081601c9cff8465717aa4a7e25ae2e75627cc1a0b150694a32a41e2"), looks := false }, kinds := [], alts := [], laidByText := true, laidKinds := [.sentinel], laidTests := true, laidLooks := .later }
def FnExactNumberAtUptoCardSaid : Prop := Claim7.holds Tryd.pinned (.plain (OpenSpec.upto fnExactNumberAtSpec)) fnExactNumberAtUptoCard

/-- THE SECOND FORM's CARD OF 'laws.FnNumberAt'. -/
def fnNumberAtUptoCard : Claim7 := { stood := { row := fnNumberAtUptoRow, standIns := [], harness := (true, "51619d1b0081601c9cff8465717aa4a7e25ae2e75627cc1a0b150694a32a41e2"), looks := false }, kinds := [], alts := [], laidByText := true, laidKinds := [.sentinel], laidTests := true, laidLooks := .later }
def FnNumberAtUptoCardSaid : Prop := Claim7.holds Tryd.pinned (.plain (OpenSpec.upto fnNumberAtSpec)) fnNumberAtUptoCard
end Rows
end Go.Proofs.YtkmnijpiaofdmaaDoor
