/-
  No cell of these rows narrows 'for every input' (looked for: loops, veiled, ifaces, maps, wideKeys, modest, calm, conditions, laid).
  DERIVED. THE GIVEN ROWS OF THIS SEAT. 7 by the template 'for every input the law returns true; each argument reads behind the call as it read before'; 0 by the template 'total and deterministic' (their statements: YtcebbnmpjlilbaaTotals.lean).
  GIVEN WITH THE SEED: the statements are not yours to turn. If you find one false, say at which input.
  Laid BY PROGRAM, IN A SANDBOX (cutbox-rows.mjs): the forced cells as the released guide's own fill.sh prints them over the translation 078680fe6aafa455… (all of the seat's roots in one cut). By AI agents, Wed Nov 11 2026. No macro, syntax, notation, axiom, sorry.
-/
import Derived.Test.YtcebbnmpjlilbaaChecked
import GoSem.Claim
import GoSem.ClaimJoined
import GoSem.ClaimMapViews
import Derived.JoinedTies
import Derived.KernelRfl
namespace Go.Proofs.Ytcebbnmpjlilbaa
/- THE CELL 'sum', in the pinned program and in every row, IS THE sha256 OF THE DUMP (.gsa) THAT YtcebbnmpjlilbaaProg.lean LOADS. Nothing in Lean hashes anything: it is a label: what it is worth is what the hold of that sum in a sandbox is worth. -/
noncomputable def Try.pinned : Pinned := { name := "ytcebbnmpjlilbaa", sum := "078680fe6aafa4553f61c785ddefb76754ecc8dce125f350b10d6a00aebdf15d", checked := Try.checked }
namespace Rows
def none {H : Type} : Left H := { results := [], args := [] }

/-- 'laws.FnExactValidPieces': WHATEVER THE INPUT: true; the input reads as it did. -/
def fnExactValidPiecesSpec : ChangeSpec := { name := "fnExactValidPieces", fn := fun _ => fun
  | [d] => { results := [.lit (.bool true)], args := [d] }
  | _ => none }
def fnExactValidPiecesRow : OpenClaim := { program := "ytcebbnmpjlilbaa", sum := "078680fe6aafa4553f61c785ddefb76754ecc8dce125f350b10d6a00aebdf15d", func := "loop.example/linksandframes/laws.FnExactValidPieces", spec := "fnExactValidPieces", apart := false }
def FnExactValidPiecesSaid : Prop := fnExactValidPiecesRow.holds Try.pinned (OpenSpec.ofChange fnExactValidPiecesSpec)

/-- ITS FALSE NEIGHBOUR: 'it returns false'. Refute it at one input. -/
def fnExactValidPiecesWrong : ChangeSpec := { name := "fnExactValidPieces", fn := fun _ => fun
  | [d] => { results := [.lit (.bool false)], args := [d] }
  | _ => none }
def FnExactValidPiecesWrongFalsely : Prop := fnExactValidPiecesRow.holds Try.pinned (OpenSpec.ofChange fnExactValidPiecesWrong)

/-- 'laws.FnExactCutLength': WHATEVER THE INPUT: true; the input reads as it did. -/
def fnExactCutLengthSpec : ChangeSpec := { name := "fnExactCutLength", fn := fun _ => fun
  | [d1, d2, d3] => { results := [.lit (.bool true)], args := [d1, d2, d3] }
  | _ => none }
def fnExactCutLengthRow : OpenClaim := { program := "ytcebbnmpjlilbaa", sum := "078680fe6aafa4553f61c785ddefb76754ecc8dce125f350b10d6a00aebdf15d", func := "loop.example/linksandframes/laws.FnExactCutLength", spec := "fnExactCutLength", apart := false }
def FnExactCutLengthSaid : Prop := fnExactCutLengthRow.holds Try.pinned (OpenSpec.ofChange fnExactCutLengthSpec)

/-- ITS FALSE NEIGHBOUR: 'it returns false'. Refute it at one input. -/
def fnExactCutLengthWrong : ChangeSpec := { name := "fnExactCutLength", fn := fun _ => fun
  | [d1, d2, d3] => { results := [.lit (.bool false)], args := [d1, d2, d3] }
  | _ => none }
def FnExactCutLengthWrongFalsely : Prop := fnExactCutLengthRow.holds Try.pinned (OpenSpec.ofChange fnExactCutLengthWrong)

/-- 'laws.FnExactEndOf': WHATEVER THE INPUT: true; the input reads as it did. -/
def fnExactEndOfSpec : ChangeSpec := { name := "fnExactEndOf", fn := fun _ => fun
  | [d] => { results := [.lit (.bool true)], args := [d] }
  | _ => none }
def fnExactEndOfRow : OpenClaim := { program := "ytcebbnmpjlilbaa", sum := "078680fe6aafa4553f61c785ddefb76754ecc8dce125f350b10d6a00aebdf15d", func := "loop.example/linksandframes/laws.FnExactEndOf", spec := "fnExactEndOf", apart := false }
def FnExactEndOfSaid : Prop := fnExactEndOfRow.holds Try.pinned (OpenSpec.ofChange fnExactEndOfSpec)

/-- ITS FALSE NEIGHBOUR: 'it returns false'. Refute it at one input. -/
def fnExactEndOfWrong : ChangeSpec := { name := "fnExactEndOf", fn := fun _ => fun
  | [d] => { results := [.lit (.bool false)], args := [d] }
  | _ => none }
def FnExactEndOfWrongFalsely : Prop := fnExactEndOfRow.holds Try.pinned (OpenSpec.ofChange fnExactEndOfWrong)

/-- 'laws.FnExactLeastWay': WHATEVER THE INPUT: true; the input reads as it did. -/
def fnExactLeastWaySpec : ChangeSpec := { name := "fnExactLeastWay", fn := fun _ => fun
  | [d] => { results := [.lit (.bool true)], args := [d] }
  | _ => none }
def fnExactLeastWayRow : OpenClaim := { program := "ytcebbnmpjlilbaa", sum := "078680fe6aafa4553f61c785ddefb76754ecc8dce125f350b10d6a00aebdf15d", func := "loop.example/linksandframes/laws.FnExactLeastWay", spec := "fnExactLeastWay", apart := false }
def FnExactLeastWaySaid : Prop := fnExactLeastWayRow.holds Try.pinned (OpenSpec.ofChange fnExactLeastWaySpec)

/-- ITS FALSE NEIGHBOUR: 'it returns false'. Refute it at one input. -/
def fnExactLeastWayWrong : ChangeSpec := { name := "fnExactLeastWay", fn := fun _ => fun
  | [d] => { results := [.lit (.bool false)], args := [d] }
  | _ => none }
def FnExactLeastWayWrongFalsely : Prop := fnExactLeastWayRow.holds Try.pinned (OpenSpec.ofChange fnExactLeastWayWrong)

/-- 'laws.FnValidPieces': WHATEVER THE INPUT: true; the input reads as it did. -/
def fnValidPiecesSpec : ChangeSpec := { name := "fnValidPieces", fn := fun _ => fun
  | [d] => { results := [.lit (.bool true)], args := [d] }
  | _ => none }
def fnValidPiecesRow : OpenClaim := { program := "ytcebbnmpjlilbaa", sum := "078680fe6aafa4553f61c785ddefb76754ecc8dce125f350b10d6a00aebdf15d", func := "loop.example/linksandframes/laws.FnValidPieces", spec := "fnValidPieces", apart := false }
def FnValidPiecesSaid : Prop := fnValidPiecesRow.holds Try.pinned (OpenSpec.ofChange fnValidPiecesSpec)

/-- ITS FALSE NEIGHBOUR: 'it returns false'. Refute it at one input. -/
def fnValidPiecesWrong : ChangeSpec := { name := "fnValidPieces", fn := fun _ => fun
  | [d] => { results := [.lit (.bool false)], args := [d] }
  | _ => none }
def FnValidPiecesWrongFalsely : Prop := fnValidPiecesRow.holds Try.pinned (OpenSpec.ofChange fnValidPiecesWrong)

/-- 'laws.FnEndOf': WHATEVER THE INPUT: true; the input reads as it did. -/
def fnEndOfSpec : ChangeSpec := { name := "fnEndOf", fn := fun _ => fun
  | [d] => { results := [.lit (.bool true)], args := [d] }
  | _ => none }
def fnEndOfRow : OpenClaim := { program := "ytcebbnmpjlilbaa", sum := "078680fe6aafa4553f61c785ddefb76754ecc8dce125f350b10d6a00aebdf15d", func := "loop.example/linksandframes/laws.FnEndOf", spec := "fnEndOf", apart := false }
def FnEndOfSaid : Prop := fnEndOfRow.holds Try.pinned (OpenSpec.ofChange fnEndOfSpec)

/-- ITS FALSE NEIGHBOUR: 'it returns false'. Refute it at one input. -/
def fnEndOfWrong : ChangeSpec := { name := "fnEndOf", fn := fun _ => fun
  | [d] => { results := [.lit (.bool false)], args := [d] }
  | _ => none }
def FnEndOfWrongFalsely : Prop := fnEndOfRow.holds Try.pinned (OpenSpec.ofChange fnEndOfWrong)

/-- 'laws.FnLeastWay': WHATEVER THE INPUT: true; the input reads as it did. -/
def fnLeastWaySpec : ChangeSpec := { name := "fnLeastWay", fn := fun _ => fun
  | [d] => { results := [.lit (.bool true)], args := [d] }
  | _ => none }
def fnLeastWayRow : OpenClaim := { program := "ytcebbnmpjlilbaa", sum := "078680fe6aafa4553f61c785ddefb76754ecc8dce125f350b10d6a00aebdf15d", func := "loop.example/linksandframes/laws.FnLeastWay", spec := "fnLeastWay", apart := false }
def FnLeastWaySaid : Prop := fnLeastWayRow.holds Try.pinned (OpenSpec.ofChange fnLeastWaySpec)

/-- ITS FALSE NEIGHBOUR: 'it returns false'. Refute it at one input. -/
def fnLeastWayWrong : ChangeSpec := { name := "fnLeastWay", fn := fun _ => fun
  | [d] => { results := [.lit (.bool false)], args := [d] }
  | _ => none }
def FnLeastWayWrongFalsely : Prop := fnLeastWayRow.holds Try.pinned (OpenSpec.ofChange fnLeastWayWrong)

/- THE SECOND FORM. 'bulk': how many values and letters a reading holds, each counted each time it is reached (what is shared counts as often as it is met; a slice's spare places count too). A statement '..UptoSaid' is the law's where the arguments, and the package variables that the reading takes, are together of bulk at most 1048576: NARROWER than '..Said'. Prove '..Said' where nothing that the law and all that it calls make is longer than what came in: it says more and counts as full. Else prove '..UptoSaid'. A law counts once. -/
mutual
def uptoBulk {H : Type} : DataW H → Nat
  | .lit (.string bytes) => bytes.length + 1
  | .lit _ => 1
  | .nil => 1
  | .ptr d => uptoBulk d + 1
  | .slice elems spare => uptoBulkAll elems + uptoBulkAll spare + 1
  | .agg parts => uptoBulkAll parts + 1
  | .iface _ d => uptoBulk d + 1
  | .map entries => uptoBulkEntries entries + 1
  | .held _ => 1
def uptoBulkAll {H : Type} : List (DataW H) → Nat
  | [] => 0
  | d :: r => uptoBulk d + uptoBulkAll r
def uptoBulkEntries {H : Type} : List (Lit × DataW H) → Nat
  | [] => 0
  | x :: r => uptoBulkEntry x + uptoBulkEntries r
def uptoBulkEntry {H : Type} : Lit × DataW H → Nat
  | (.string bytes, d) => bytes.length + uptoBulk d + 1
  | (_, d) => uptoBulk d + 1
 end
def uptoSmall : (H : Type) → List (DataW H) → Bool := fun _ ds => decide (uptoBulkAll ds ≤ 1048576)
def OpenSpec.upto (s : _root_.Go.ChangeSpec) : _root_.Go.OpenSpec := { _root_.Go.OpenSpec.ofChange s with cond := some uptoSmall }

/-- 'laws.FnExactValidPieces', WHERE WHAT IT READS IS OF BULK AT MOST 1048576: true; the input reads as it did. -/
def fnExactValidPiecesUptoRow : OpenClaim := { program := "ytcebbnmpjlilbaa", sum := "078680fe6aafa4553f61c785ddefb76754ecc8dce125f350b10d6a00aebdf15d", func := "loop.example/linksandframes/laws.FnExactValidPieces", spec := "fnExactValidPieces", apart := false, narrowed := true }
def FnExactValidPiecesUptoSaid : Prop := fnExactValidPiecesUptoRow.holds Try.pinned (OpenSpec.upto fnExactValidPiecesSpec)

/-- 'laws.FnExactCutLength', WHERE WHAT IT READS IS OF BULK AT MOST 1048576: true; the input reads as it did. -/
def fnExactCutLengthUptoRow : OpenClaim := { program := "ytcebbnmpjlilbaa", sum := "078680fe6aafa4553f61c785ddefb76754ecc8dce125f350b10d6a00aebdf15d", func := "loop.example/linksandframes/laws.FnExactCutLength", spec := "fnExactCutLength", apart := false, narrowed := true }
def FnExactCutLengthUptoSaid : Prop := fnExactCutLengthUptoRow.holds Try.pinned (OpenSpec.upto fnExactCutLengthSpec)

/-- 'laws.FnExactEndOf', WHERE WHAT IT READS IS OF BULK AT MOST 1048576: true; the input reads as it did. -/
def fnExactEndOfUptoRow : OpenClaim := { program := "ytcebbnmpjlilbaa", sum := "078680fe6aafa4553f61c785ddefb76754ecc8dce125f350b10d6a00aebdf15d", func := "loop.example/linksandframes/laws.FnExactEndOf", spec := "fnExactEndOf", apart := false, narrowed := true }
def FnExactEndOfUptoSaid : Prop := fnExactEndOfUptoRow.holds Try.pinned (OpenSpec.upto fnExactEndOfSpec)

/-- 'laws.FnExactLeastWay', WHERE WHAT IT READS IS OF BULK AT MOST 1048576: true; the input reads as it did. -/
def fnExactLeastWayUptoRow : OpenClaim := { program := "ytcebbnmpjlilbaa", sum := "078680fe6aafa4553f61c785ddefb76754ecc8dce125f350b10d6a00aebdf15d", func := "loop.example/linksandframes/laws.FnExactLeastWay", spec := "fnExactLeastWay", apart := false, narrowed := true }
def FnExactLeastWayUptoSaid : Prop := fnExactLeastWayUptoRow.holds Try.pinned (OpenSpec.upto fnExactLeastWaySpec)

/-- 'laws.FnValidPieces', WHERE WHAT IT READS IS OF BULK AT MOST 1048576: true; the input reads as it did. -/
def fnValidPiecesUptoRow : OpenClaim := { program := "ytcebbnmpjlilbaa", sum := "078680fe6aafa4553f61c785ddefb76754ecc8dce125f350b10d6a00aebdf15d", func := "loop.example/linksandframes/laws.FnValidPieces", spec := "fnValidPieces", apart := false, narrowed := true }
def FnValidPiecesUptoSaid : Prop := fnValidPiecesUptoRow.holds Try.pinned (OpenSpec.upto fnValidPiecesSpec)

/-- 'laws.FnEndOf', WHERE WHAT IT READS IS OF BULK AT MOST 1048576: true; the input reads as it did. -/
def fnEndOfUptoRow : OpenClaim := { program := "ytcebbnmpjlilbaa", sum := "078680fe6aafa4553f61c785ddefb76754ecc8dce125f350b10d6a00aebdf15d", func := "loop.example/linksandframes/laws.FnEndOf", spec := "fnEndOf", apart := false, narrowed := true }
def FnEndOfUptoSaid : Prop := fnEndOfUptoRow.holds Try.pinned (OpenSpec.upto fnEndOfSpec)

/-- 'laws.FnLeastWay', WHERE WHAT IT READS IS OF BULK AT MOST 1048576: true; the input reads as it did. -/
def fnLeastWayUptoRow : OpenClaim := { program := "ytcebbnmpjlilbaa", sum := "078680fe6aafa4553f61c785ddefb76754ecc8dce125f350b10d6a00aebdf15d", func := "loop.example/linksandframes/laws.FnLeastWay", spec := "fnLeastWay", apart := false, narrowed := true }
def FnLeastWayUptoSaid : Prop := fnLeastWayUptoRow.holds Try.pinned (OpenSpec.upto fnLeastWaySpec)

end Rows
end Go.Proofs.Ytcebbnmpjlilbaa
