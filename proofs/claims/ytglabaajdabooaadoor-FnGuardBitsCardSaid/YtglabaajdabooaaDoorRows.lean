/-
  NARROWER THAN 'FOR EVERY INPUT', by the rows' own cells (each row's printed sentence says how): FnExactGuardBits: laid · FnExactMendBits: laid · FnGuardBits: laid · FnMendBits: laid.
  DERIVED. THE GIVEN ROWS OF THIS SEAT. 4 by the template 'for every input the law returns true; each argument reads behind the call as it read before'; 0 by the template 'total and deterministic' (their statements: YtglabaajdabooaaDoorTotals.lean).
  GIVEN WITH THE SEED: the statements are not yours to turn. If you find one false, say at which input.
  Laid BY PROGRAM, IN A SANDBOX (cutbox-rows.mjs): the forced cells as the released guide's own fill.sh prints them over the translation 9b0381cedd390c82… (all of the seat's roots in one cut). By AI agents, Wed Nov 11 2026. No macro, syntax, notation, axiom, sorry.
-/
import Derived.Test.YtglabaajdabooaaDoorChecked
import GoSem.Claim
import GoSem.ClaimJoined
import GoSem.ClaimMapViews
import Derived.JoinedTies
import Derived.KernelRfl
namespace Go.Proofs.YtglabaajdabooaaDoor
/- THE CELL 'sum', in the pinned program and in every row, IS THE sha256 OF THE DUMP (.gsa) THAT YtglabaajdabooaaDoorProg.lean LOADS. Nothing in Lean hashes anything: it is a label: what it is worth is what the hold of that sum in a sandbox is worth. -/
noncomputable def Tryd.pinned : Pinned := { name := "ytglabaajdabooaadoor", sum := "9b0381cedd390c824e1937241f2f9914005934a28f23ab0d602ed849a5a3b65b", checked := Tryd.checked }
namespace Rows
def none {H : Type} : Left H := { results := [], args := [] }

/- WHAT THE LISTED PACKAGE-LEVEL VARIABLES READ AS WHEN THE CALL BEGINS. Each datum BY PROGRAM (the guide's laid-datum.mjs) off the statement by which the dump's own 'gosem.cut.vars' lays the variable. In a bare row this is a premise. The card (YtglabaajdabooaaDoorCards.lean) ties it to the program's text. -/
def laid_loop_example_linksandframes_impl_guardedPlaces {H : Type} : DataW H := .agg [.lit (.int .i64 3), .lit (.int .i64 5), .lit (.int .i64 6), .lit (.int .i64 7)]
def laid_loop_example_linksandframes_impl_guardPlaces {H : Type} : DataW H := .agg [.lit (.int .i64 1), .lit (.int .i64 2), .lit (.int .i64 4)]

/-- 'laws.FnExactGuardBits': WHATEVER THE INPUT: true; the input reads as it did. -/
def fnExactGuardBitsSpec : ChangeSpec := { name := "fnExactGuardBits", vars := ["loop.example/linksandframes/impl.guardedPlaces", "loop.example/linksandframes/impl.guardPlaces"], fn := fun _ => fun
  | [d, g1, g2] => { results := [.lit (.bool true)], args := [d], vars := [g1, g2] }
  | _ => none }
def fnExactGuardBitsRow : OpenClaim := { program := "ytglabaajdabooaadoor", sum := "9b0381cedd390c824e1937241f2f9914005934a28f23ab0d602ed849a5a3b65b", func := "loop.example/linksandframes/laws.FnExactGuardBits", spec := "fnExactGuardBits", named := ["loop.example/linksandframes/impl.guardedPlaces", "loop.example/linksandframes/impl.guardPlaces"], apart := false, laid := [("loop.example/linksandframes/impl.guardedPlaces", laid_loop_example_linksandframes_impl_guardedPlaces), ("loop.example/linksandframes/impl.guardPlaces", laid_loop_example_linksandframes_impl_guardPlaces)] }
def FnExactGuardBitsSaid : Prop := fnExactGuardBitsRow.holds Tryd.pinned (OpenSpec.ofChange fnExactGuardBitsSpec)

/-- ITS FALSE NEIGHBOUR: 'it returns false'. Refute it at one input. -/
def fnExactGuardBitsWrong : ChangeSpec := { name := "fnExactGuardBits", vars := ["loop.example/linksandframes/impl.guardedPlaces", "loop.example/linksandframes/impl.guardPlaces"], fn := fun _ => fun
  | [d, g1, g2] => { results := [.lit (.bool false)], args := [d], vars := [g1, g2] }
  | _ => none }
def FnExactGuardBitsWrongFalsely : Prop := fnExactGuardBitsRow.holds Tryd.pinned (OpenSpec.ofChange fnExactGuardBitsWrong)

/-- 'laws.FnExactMendBits': WHATEVER THE INPUT: true; the input reads as it did. -/
def fnExactMendBitsSpec : ChangeSpec := { name := "fnExactMendBits", vars := ["loop.example/linksandframes/impl.guardedPlaces", "loop.example/linksandframes/impl.guardPlaces"], fn := fun _ => fun
  | [d, g1, g2] => { results := [.lit (.bool true)], args := [d], vars := [g1, g2] }
  | _ => none }
def fnExactMendBitsRow : OpenClaim := { program := "ytglabaajdabooaadoor", sum := "9b0381cedd390c824e1937241f2f9914005934a28f23ab0d602ed849a5a3b65b", func := "loop.example/linksandframes/laws.FnExactMendBits", spec := "fnExactMendBits", named := ["loop.example/linksandframes/impl.guardedPlaces", "loop.example/linksandframes/impl.guardPlaces"], apart := false, laid := [("loop.example/linksandframes/impl.guardedPlaces", laid_loop_example_linksandframes_impl_guardedPlaces), ("loop.example/linksandframes/impl.guardPlaces", laid_loop_example_linksandframes_impl_guardPlaces)] }
def FnExactMendBitsSaid : Prop := fnExactMendBitsRow.holds Tryd.pinned (OpenSpec.ofChange fnExactMendBitsSpec)

/-- ITS FALSE NEIGHBOUR: 'it returns false'. Refute it at one input. -/
def fnExactMendBitsWrong : ChangeSpec := { name := "fnExactMendBits", vars := ["loop.example/linksandframes/impl.guardedPlaces", "loop.example/linksandframes/impl.guardPlaces"], fn := fun _ => fun
  | [d, g1, g2] => { results := [.lit (.bool false)], args := [d], vars := [g1, g2] }
  | _ => none }
def FnExactMendBitsWrongFalsely : Prop := fnExactMendBitsRow.holds Tryd.pinned (OpenSpec.ofChange fnExactMendBitsWrong)

/-- 'laws.FnGuardBits': WHATEVER THE INPUT: true; the input reads as it did. -/
def fnGuardBitsSpec : ChangeSpec := { name := "fnGuardBits", vars := ["loop.example/linksandframes/impl.guardedPlaces", "loop.example/linksandframes/impl.guardPlaces"], fn := fun _ => fun
  | [d, g1, g2] => { results := [.lit (.bool true)], args := [d], vars := [g1, g2] }
  | _ => none }
def fnGuardBitsRow : OpenClaim := { program := "ytglabaajdabooaadoor", sum := "9b0381cedd390c824e1937241f2f9914005934a28f23ab0d602ed849a5a3b65b", func := "loop.example/linksandframes/laws.FnGuardBits", spec := "fnGuardBits", named := ["loop.example/linksandframes/impl.guardedPlaces", "loop.example/linksandframes/impl.guardPlaces"], apart := false, laid := [("loop.example/linksandframes/impl.guardedPlaces", laid_loop_example_linksandframes_impl_guardedPlaces), ("loop.example/linksandframes/impl.guardPlaces", laid_loop_example_linksandframes_impl_guardPlaces)] }
def FnGuardBitsSaid : Prop := fnGuardBitsRow.holds Tryd.pinned (OpenSpec.ofChange fnGuardBitsSpec)

/-- ITS FALSE NEIGHBOUR: 'it returns false'. Refute it at one input. -/
def fnGuardBitsWrong : ChangeSpec := { name := "fnGuardBits", vars := ["loop.example/linksandframes/impl.guardedPlaces", "loop.example/linksandframes/impl.guardPlaces"], fn := fun _ => fun
  | [d, g1, g2] => { results := [.lit (.bool false)], args := [d], vars := [g1, g2] }
  | _ => none }
def FnGuardBitsWrongFalsely : Prop := fnGuardBitsRow.holds Tryd.pinned (OpenSpec.ofChange fnGuardBitsWrong)

/-- 'laws.FnMendBits': WHATEVER THE INPUT: true; the input reads as it did. -/
def fnMendBitsSpec : ChangeSpec := { name := "fnMendBits", vars := ["loop.example/linksandframes/impl.guardedPlaces", "loop.example/linksandframes/impl.guardPlaces"], fn := fun _ => fun
  | [d, g1, g2] => { results := [.lit (.bool true)], args := [d], vars := [g1, g2] }
  | _ => none }
def fnMendBitsRow : OpenClaim := { program := "ytglabaajdabooaadoor", sum := "9b0381cedd390c824e1937241f2f9914005934a28f23ab0d602ed849a5a3b65b", func := "loop.example/linksandframes/laws.FnMendBits", spec := "fnMendBits", named := ["loop.example/linksandframes/impl.guardedPlaces", "loop.example/linksandframes/impl.guardPlaces"], apart := false, laid := [("loop.example/linksandframes/impl.guardedPlaces", laid_loop_example_linksandframes_impl_guardedPlaces), ("loop.example/linksandframes/impl.guardPlaces", laid_loop_example_linksandframes_impl_guardPlaces)] }
def FnMendBitsSaid : Prop := fnMendBitsRow.holds Tryd.pinned (OpenSpec.ofChange fnMendBitsSpec)

/-- ITS FALSE NEIGHBOUR: 'it returns false'. Refute it at one input. -/
def fnMendBitsWrong : ChangeSpec := { name := "fnMendBits", vars := ["loop.example/linksandframes/impl.guardedPlaces", "loop.example/linksandframes/impl.guardPlaces"], fn := fun _ => fun
  | [d, g1, g2] => { results := [.lit (.bool false)], args := [d], vars := [g1, g2] }
  | _ => none }
def FnMendBitsWrongFalsely : Prop := fnMendBitsRow.holds Tryd.pinned (OpenSpec.ofChange fnMendBitsWrong)

/- THE SECOND FORM. 'bulk': how many values and letters a reading holds, each counted each time it is reached (what is shared counts as often as it is met; a slice's spare places count too). A statement '..UptoSaid' is the law's where the arguments, and the package variables that the reading takes, are together of bulk at most 1048576: NARROWER than '..Said'. Prove '..Said' where nothing that the law and all that it calls make is longer than what came in: it says more and counts as full. Else prove '..UptoSaid'. A law counts once. -/
mutual
def uptoBulk {H : Type} : DataW H → Nat
  | .lit (.string bytes) => bytes.length + 1
  | .lit _ => 1
  | .nil => 1
  | .ptr d => uptoBulk d + 1
  | .slice elems spare => uptoBulkAll elems + uptoBulkAll spare + 1
  | .agg parts => uptoBulkAll parts + 1
  | .iface _ d => uptoBulk d + 1
  | .map entries => uptoBulkEntries entries + 1
  | .held _ => 1
def uptoBulkAll {H : Type} : List (DataW H) → Nat
  | [] => 0
  | d :: r => uptoBulk d + uptoBulkAll r
def uptoBulkEntries {H : Type} : List (Lit × DataW H) → Nat
  | [] => 0
  | x :: r => uptoBulkEntry x + uptoBulkEntries r
def uptoBulkEntry {H : Type} : Lit × DataW H → Nat
  | (.string bytes, d) => bytes.length + uptoBulk d + 1
  | (_, d) => uptoBulk d + 1
 end
def uptoSmall : (H : Type) → List (DataW H) → Bool := fun _ ds => decide (uptoBulkAll ds ≤ 1048576)
def OpenSpec.upto (s : _root_.Go.ChangeSpec) : _root_.Go.OpenSpec := { _root_.Go.OpenSpec.ofChange s with cond := some uptoSmall }

/-- 'laws.FnExactGuardBits', WHERE WHAT IT READS IS OF BULK AT MOST 1048576: true; the input reads as it did. -/
def fnExactGuardBitsUptoRow : OpenClaim := { program := "ytglabaajdabooaadoor", sum := "9b0381cedd390c824e1937241f2f9914005934a28f23ab0d602ed849a5a3b65b", func := "loop.example/linksandframes/laws.FnExactGuardBits", spec := "fnExactGuardBits", named := ["loop.example/linksandframes/impl.guardedPlaces", "loop.example/linksandframes/impl.guardPlaces"], apart := false, laid := [("loop.example/linksandframes/impl.guardedPlaces", laid_loop_example_linksandframes_impl_guardedPlaces), ("loop.example/linksandframes/impl.guardPlaces", laid_loop_example_linksandframes_impl_guardPlaces)], narrowed := true }
def FnExactGuardBitsUptoSaid : Prop := fnExactGuardBitsUptoRow.holds Tryd.pinned (OpenSpec.upto fnExactGuardBitsSpec)

/-- 'laws.FnExactMendBits', WHERE WHAT IT READS IS OF BULK AT MOST 1048576: true; the input reads as it did. -/
def fnExactMendBitsUptoRow : OpenClaim := { program := "ytglabaajdabooaadoor", sum := "9b0381cedd390c824e1937241f2f9914005934a28f23ab0d602ed849a5a3b65b", func := "loop.example/linksandframes/laws.FnExactMendBits", spec := "fnExactMendBits", named := ["loop.example/linksandframes/impl.guardedPlaces", "loop.example/linksandframes/impl.guardPlaces"], apart := false, laid := [("loop.example/linksandframes/impl.guardedPlaces", laid_loop_example_linksandframes_impl_guardedPlaces), ("loop.example/linksandframes/impl.guardPlaces", laid_loop_example_linksandframes_impl_guardPlaces)], narrowed := true }
def FnExactMendBitsUptoSaid : Prop := fnExactMendBitsUptoRow.holds Tryd.pinned (OpenSpec.upto fnExactMendBitsSpec)

/-- 'laws.FnGuardBits', WHERE WHAT IT READS IS OF BULK AT MOST 1048576: true; the input reads as it did. -/
def fnGuardBitsUptoRow : OpenClaim := { program := "ytglabaajdabooaadoor", sum := "9b0381cedd390c824e1937241f2f9914005934a28f23ab0d602ed849a5a3b65b", func := "loop.example/linksandframes/laws.FnGuardBits", spec := "fnGuardBits", named := ["loop.example/linksandframes/impl.guardedPlaces", "loop.example/linksandframes/impl.guardPlaces"], apart := false, laid := [("loop.example/linksandframes/impl.guardedPlaces", laid_loop_example_linksandframes_impl_guardedPlaces), ("loop.example/linksandframes/impl.guardPlaces", laid_loop_example_linksandframes_impl_guardPlaces)], narrowed := true }
def FnGuardBitsUptoSaid : Prop := fnGuardBitsUptoRow.holds Tryd.pinned (OpenSpec.upto fnGuardBitsSpec)

/-- 'laws.FnMendBits', WHERE WHAT IT READS IS OF BULK AT MOST 1048576: true; the input reads as it did. -/
def fnMendBitsUptoRow : OpenClaim := { program := "ytglabaajdabooaadoor", sum := "9b0381cedd390c824e1937241f2f9914005934a28f23ab0d602ed849a5a3b65b", func := "loop.example/linksandframes/laws.FnMendBits", spec := "fnMendBits", named := ["loop.example/linksandframes/impl.guardedPlaces", "loop.example/linksandframes/impl.guardPlaces"], apart := false, laid := [("loop.example/linksandframes/impl.guardedPlaces", laid_loop_example_linksandframes_impl_guardedPlaces), ("loop.example/linksandframes/impl.guardPlaces", laid_loop_example_linksandframes_impl_guardPlaces)], narrowed := true }
def FnMendBitsUptoSaid : Prop := fnMendBitsUptoRow.holds Tryd.pinned (OpenSpec.upto fnMendBitsSpec)

end Rows
end Go.Proofs.YtglabaajdabooaaDoor
