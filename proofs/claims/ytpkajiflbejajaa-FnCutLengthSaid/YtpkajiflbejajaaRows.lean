/-
  No cell of these rows narrows 'for every input' (looked for: loops, veiled, ifaces, maps, wideKeys, modest, calm, conditions, laid).
  DERIVED. THE GIVEN ROWS OF THIS SEAT. 3 by the template 'for every input the law returns true; each argument reads behind the call as it read before'; 0 by the template 'total and deterministic' (their statements: YtpkajiflbejajaaTotals.lean).
  GIVEN WITH THE SEED: the statements are not yours to turn. If you find one false, say at which input.
  Laid BY PROGRAM, IN A SANDBOX (cutbox-rows.mjs): the forced cells as the released guide's own fill.sh prints them over the translation abb7d5b204152eb5… (all of the seat's roots in one cut). By AI agents, Wed Nov 11 2026. No macro, syntax, notation, axiom, sorry.
-/
import Derived.Test.YtpkajiflbejajaaChecked
import GoSem.Claim
import GoSem.ClaimJoined
import GoSem.ClaimMapViews
import Derived.JoinedTies
import Derived.KernelRfl
namespace Go.Proofs.Ytpkajiflbejajaa
/- THE CELL 'sum', in the pinned program and in every row, IS THE sha256 OF THE DUMP (.gsa) THAT YtpkajiflbejajaaProg.lean LOADS. Nothing in Lean hashes anything: it is a label: what it is worth is what the hold of that sum in a sandbox is worth. -/
noncomputable def Try.pinned : Pinned := { name := "ytpkajiflbejajaa", sum := "abb7d5b204152eb56d11807cc510643f25789de67125e3598b057783dfe328e1", checked := Try.checked }
namespace Rows
def none {H : Type} : Left H := { results := [], args := [] }

/-- 'laws.FnExactJoinPieces': WHATEVER THE INPUT: true; the input reads as it did. -/
def fnExactJoinPiecesSpec : ChangeSpec := { name := "fnExactJoinPieces", fn := fun _ => fun
  | [d] => { results := [.lit (.bool true)], args := [d] }
  | _ => none }
def fnExactJoinPiecesRow : OpenClaim := { program := "ytpkajiflbejajaa", sum := "abb7d5b204152eb56d11807cc510643f25789de67125e3598b057783dfe328e1", func := "loop.example/linksandframes/laws.FnExactJoinPieces", spec := "fnExactJoinPieces", unfollowed := true, recurses := true, apart := false }
def FnExactJoinPiecesSaid : Prop := fnExactJoinPiecesRow.holds Try.pinned (OpenSpec.ofChange fnExactJoinPiecesSpec)

/-- ITS FALSE NEIGHBOUR: 'it returns false'. Refute it at one input. -/
def fnExactJoinPiecesWrong : ChangeSpec := { name := "fnExactJoinPieces", fn := fun _ => fun
  | [d] => { results := [.lit (.bool false)], args := [d] }
  | _ => none }
def FnExactJoinPiecesWrongFalsely : Prop := fnExactJoinPiecesRow.holds Try.pinned (OpenSpec.ofChange fnExactJoinPiecesWrong)

/-- 'laws.FnJoinPieces': WHATEVER THE INPUT: true; the input reads as it did. -/
def fnJoinPiecesSpec : ChangeSpec := { name := "fnJoinPieces", fn := fun _ => fun
  | [d] => { results := [.lit (.bool true)], args := [d] }
  | _ => none }
def fnJoinPiecesRow : OpenClaim := { program := "ytpkajiflbejajaa", sum := "abb7d5b204152eb56d11807cc510643f25789de67125e3598b057783dfe328e1", func := "loop.example/linksandframes/laws.FnJoinPieces", spec := "fnJoinPieces", unfollowed := true, recurses := true, apart := false }
def FnJoinPiecesSaid : Prop := fnJoinPiecesRow.holds Try.pinned (OpenSpec.ofChange fnJoinPiecesSpec)

/-- ITS FALSE NEIGHBOUR: 'it returns false'. Refute it at one input. -/
def fnJoinPiecesWrong : ChangeSpec := { name := "fnJoinPieces", fn := fun _ => fun
  | [d] => { results := [.lit (.bool false)], args := [d] }
  | _ => none }
def FnJoinPiecesWrongFalsely : Prop := fnJoinPiecesRow.holds Try.pinned (OpenSpec.ofChange fnJoinPiecesWrong)

/-- 'laws.FnCutLength': WHATEVER THE INPUT: true; the input reads as it did. -/
def fnCutLengthSpec : ChangeSpec := { name := "fnCutLength", fn := fun _ => fun
  | [d] => { results := [.lit (.bool true)], args := [d] }
  | _ => none }
def fnCutLengthRow : OpenClaim := { program := "ytpkajiflbejajaa", sum := "abb7d5b204152eb56d11807cc510643f25789de67125e3598b057783dfe328e1", func := "loop.example/linksandframes/laws.FnCutLength", spec := "fnCutLength", unfollowed := true, recurses := true, apart := false }
def FnCutLengthSaid : Prop := fnCutLengthRow.holds Try.pinned (OpenSpec.ofChange fnCutLengthSpec)

/-- ITS FALSE NEIGHBOUR: 'it returns false'. Refute it at one input. -/
def fnCutLengthWrong : ChangeSpec := { name := "fnCutLength", fn := fun _ => fun
  | [d] => { results := [.lit (.bool false)], args := [d] }
  | _ => none }
def FnCutLengthWrongFalsely : Prop := fnCutLengthRow.holds Try.pinned (OpenSpec.ofChange fnCutLengthWrong)

/- THE SECOND FORM. 'bulk': how many values and letters a reading holds, each counted each time it is reached (what is shared counts as often as it is met; a slice's spare places count too). A statement '..UptoSaid' is the law's where the arguments, and the package variables that the reading takes, are together of bulk at most 1048576: NARROWER than '..Said'. Prove '..Said' where nothing that the law and all that it calls make is longer than what came in: it says more and counts as full. Else prove '..UptoSaid'. A law counts once. -/
mutual
def uptoBulk {H : Type} : DataW H → Nat
  | .lit (.string bytes) => bytes.length + 1
  | .lit _ => 1
  | .nil => 1
  | .ptr d => uptoBulk d + 1
  | .slice elems spare => uptoBulkAll elems + uptoBulkAll spare + 1
  | .agg parts => uptoBulkAll parts + 1
  | .iface _ d => uptoBulk d + 1
  | .map entries => uptoBulkEntries entries + 1
  | .held _ => 1
def uptoBulkAll {H : Type} : List (DataW H) → Nat
  | [] => 0
  | d :: r => uptoBulk d + uptoBulkAll r
def uptoBulkEntries {H : Type} : List (Lit × DataW H) → Nat
  | [] => 0
  | x :: r => uptoBulkEntry x + uptoBulkEntries r
def uptoBulkEntry {H : Type} : Lit × DataW H → Nat
  | (.string bytes, d) => bytes.length + uptoBulk d + 1
  | (_, d) => uptoBulk d + 1
 end
def uptoSmall : (H : Type) → List (DataW H) → Bool := fun _ ds => decide (uptoBulkAll ds ≤ 1048576)
def OpenSpec.upto (s : _root_.Go.ChangeSpec) : _root_.Go.OpenSpec := { _root_.Go.OpenSpec.ofChange s with cond := some uptoSmall }

/-- 'laws.FnExactJoinPieces', WHERE WHAT IT READS IS OF BULK AT MOST 1048576: true; the input reads as it did. -/
def fnExactJoinPiecesUptoRow : OpenClaim := { program := "ytpkajiflbejajaa", sum := "abb7d5b204152eb56d11807cc510643f25789de67125e3598b057783dfe328e1", func := "loop.example/linksandframes/laws.FnExactJoinPieces", spec := "fnExactJoinPieces", unfollowed := true, recurses := true, apart := false, narrowed := true }
def FnExactJoinPiecesUptoSaid : Prop := fnExactJoinPiecesUptoRow.holds Try.pinned (OpenSpec.upto fnExactJoinPiecesSpec)

/-- 'laws.FnJoinPieces', WHERE WHAT IT READS IS OF BULK AT MOST 1048576: true; the input reads as it did. -/
def fnJoinPiecesUptoRow : OpenClaim := { program := "ytpkajiflbejajaa", sum := "abb7d5b204152eb56d11807cc510643f25789de67125e3598b057783dfe328e1", func := "loop.example/linksandframes/laws.FnJoinPieces", spec := "fnJoinPieces", unfollowed := true, recurses := true, apart := false, narrowed := true }
def FnJoinPiecesUptoSaid : Prop := fnJoinPiecesUptoRow.holds Try.pinned (OpenSpec.upto fnJoinPiecesSpec)

/-- 'laws.FnCutLength', WHERE WHAT IT READS IS OF BULK AT MOST 1048576: true; the input reads as it did. -/
def fnCutLengthUptoRow : OpenClaim := { program := "ytpkajiflbejajaa", sum := "abb7d5b204152eb56d11807cc510643f25789de67125e3598b057783dfe328e1", func := "loop.example/linksandframes/laws.FnCutLength", spec := "fnCutLength", unfollowed := true, recurses := true, apart := false, narrowed := true }
def FnCutLengthUptoSaid : Prop := fnCutLengthUptoRow.holds Try.pinned (OpenSpec.upto fnCutLengthSpec)

end Rows
end Go.Proofs.Ytpkajiflbejajaa
