/-
  No cell of these rows narrows 'for every input' (looked for: loops, veiled, ifaces, maps, wideKeys, modest, calm, conditions, laid).
  DERIVED. THE GIVEN ROWS OF THIS SEAT. 6 by the template 'for every input the law returns true; each argument reads behind the call as it read before'; 0 by the template 'total and deterministic' (their statements: YteifojanklggmaaTotals.lean).
  GIVEN WITH THE SEED: the statements are not yours to turn. If you find one false, say at which input.
  Laid BY PROGRAM, IN A SANDBOX (cutbox-rows.mjs): the forced cells as the released guide's own fill.sh prints them over the translation fa38e6a32176f77b… (all of the seat's roots in one cut). By AI agents, Wed Nov 11 2026. No macro, syntax, notation, axiom, sorry.
-/
import Derived.Test.YteifojanklggmaaChecked
import GoSem.Claim
import GoSem.ClaimJoined
import GoSem.ClaimMapViews
import Derived.JoinedTies
import Derived.KernelRfl
namespace Go.Proofs.Yteifojanklggmaa
/- THE CELL 'sum', in the pinned program and in every row, IS THE sha256 OF THE DUMP (.gsa) THAT YteifojanklggmaaProg.lean LOADS. Nothing in Lean hashes anything: it is a label: what it is worth is what the hold of that sum in a sandbox is worth. -/
noncomputable def Try.pinned : Pinned := { name := "yteifojanklggmaa", sum := "fa38e6a32176f77b71da9b1a86cd8d39a43185bfeb3d9ba8f4a81eb6fd387969", checked := Try.checked }
namespace Rows
def none {H : Type} : Left H := { results := [], args := [] }

/-- 'laws.FnExactPassesOf': WHATEVER THE INPUT: true; the input reads as it did. -/
def fnExactPassesOfSpec : ChangeSpec := { name := "fnExactPassesOf", fn := fun _ => fun
  | [d1, d2, d3] => { results := [.lit (.bool true)], args := [d1, d2, d3] }
  | _ => none }
def fnExactPassesOfRow : OpenClaim := { program := "yteifojanklggmaa", sum := "fa38e6a32176f77b71da9b1a86cd8d39a43185bfeb3d9ba8f4a81eb6fd387969", func := "loop.example/linksandframes/laws.FnExactPassesOf", spec := "fnExactPassesOf", unfollowed := true, recurses := true, apart := false }
def FnExactPassesOfSaid : Prop := fnExactPassesOfRow.holds Try.pinned (OpenSpec.ofChange fnExactPassesOfSpec)

/-- ITS FALSE NEIGHBOUR: 'it returns false'. Refute it at one input. -/
def fnExactPassesOfWrong : ChangeSpec := { name := "fnExactPassesOf", fn := fun _ => fun
  | [d1, d2, d3] => { results := [.lit (.bool false)], args := [d1, d2, d3] }
  | _ => none }
def FnExactPassesOfWrongFalsely : Prop := fnExactPassesOfRow.holds Try.pinned (OpenSpec.ofChange fnExactPassesOfWrong)

/-- 'laws.FnPassesOf': WHATEVER THE INPUT: true; the input reads as it did. -/
def fnPassesOfSpec : ChangeSpec := { name := "fnPassesOf", fn := fun _ => fun
  | [d] => { results := [.lit (.bool true)], args := [d] }
  | _ => none }
def fnPassesOfRow : OpenClaim := { program := "yteifojanklggmaa", sum := "fa38e6a32176f77b71da9b1a86cd8d39a43185bfeb3d9ba8f4a81eb6fd387969", func := "loop.example/linksandframes/laws.FnPassesOf", spec := "fnPassesOf", unfollowed := true, recurses := true, apart := false }
def FnPassesOfSaid : Prop := fnPassesOfRow.holds Try.pinned (OpenSpec.ofChange fnPassesOfSpec)

/-- ITS FALSE NEIGHBOUR: 'it returns false'. Refute it at one input. -/
def fnPassesOfWrong : ChangeSpec := { name := "fnPassesOf", fn := fun _ => fun
  | [d] => { results := [.lit (.bool false)], args := [d] }
  | _ => none }
def FnPassesOfWrongFalsely : Prop := fnPassesOfRow.holds Try.pinned (OpenSpec.ofChange fnPassesOfWrong)

/-- 'laws.FnExactDepthFor': WHATEVER THE INPUT: true; the input reads as it did. -/
def fnExactDepthForSpec : ChangeSpec := { name := "fnExactDepthFor", fn := fun _ => fun
  | [d1, d2] => { results := [.lit (.bool true)], args := [d1, d2] }
  | _ => none }
def fnExactDepthForRow : OpenClaim := { program := "yteifojanklggmaa", sum := "fa38e6a32176f77b71da9b1a86cd8d39a43185bfeb3d9ba8f4a81eb6fd387969", func := "loop.example/linksandframes/laws.FnExactDepthFor", spec := "fnExactDepthFor", unfollowed := true, recurses := true, apart := false }
def FnExactDepthForSaid : Prop := fnExactDepthForRow.holds Try.pinned (OpenSpec.ofChange fnExactDepthForSpec)

/-- ITS FALSE NEIGHBOUR: 'it returns false'. Refute it at one input. -/
def fnExactDepthForWrong : ChangeSpec := { name := "fnExactDepthFor", fn := fun _ => fun
  | [d1, d2] => { results := [.lit (.bool false)], args := [d1, d2] }
  | _ => none }
def FnExactDepthForWrongFalsely : Prop := fnExactDepthForRow.holds Try.pinned (OpenSpec.ofChange fnExactDepthForWrong)

/-- 'laws.FnDepthFor': WHATEVER THE INPUT: true; the input reads as it did. -/
def fnDepthForSpec : ChangeSpec := { name := "fnDepthFor", fn := fun _ => fun
  | [d] => { results := [.lit (.bool true)], args := [d] }
  | _ => none }
def fnDepthForRow : OpenClaim := { program := "yteifojanklggmaa", sum := "fa38e6a32176f77b71da9b1a86cd8d39a43185bfeb3d9ba8f4a81eb6fd387969", func := "loop.example/linksandframes/laws.FnDepthFor", spec := "fnDepthFor", unfollowed := true, recurses := true, apart := false }
def FnDepthForSaid : Prop := fnDepthForRow.holds Try.pinned (OpenSpec.ofChange fnDepthForSpec)

/-- ITS FALSE NEIGHBOUR: 'it returns false'. Refute it at one input. -/
def fnDepthForWrong : ChangeSpec := { name := "fnDepthFor", fn := fun _ => fun
  | [d] => { results := [.lit (.bool false)], args := [d] }
  | _ => none }
def FnDepthForWrongFalsely : Prop := fnDepthForRow.holds Try.pinned (OpenSpec.ofChange fnDepthForWrong)

/-- 'laws.FnExactSmoothOf': WHATEVER THE INPUT: true; the input reads as it did. -/
def fnExactSmoothOfSpec : ChangeSpec := { name := "fnExactSmoothOf", fn := fun _ => fun
  | [d1, d2] => { results := [.lit (.bool true)], args := [d1, d2] }
  | _ => none }
def fnExactSmoothOfRow : OpenClaim := { program := "yteifojanklggmaa", sum := "fa38e6a32176f77b71da9b1a86cd8d39a43185bfeb3d9ba8f4a81eb6fd387969", func := "loop.example/linksandframes/laws.FnExactSmoothOf", spec := "fnExactSmoothOf", unfollowed := true, recurses := true, apart := false }
def FnExactSmoothOfSaid : Prop := fnExactSmoothOfRow.holds Try.pinned (OpenSpec.ofChange fnExactSmoothOfSpec)

/-- ITS FALSE NEIGHBOUR: 'it returns false'. Refute it at one input. -/
def fnExactSmoothOfWrong : ChangeSpec := { name := "fnExactSmoothOf", fn := fun _ => fun
  | [d1, d2] => { results := [.lit (.bool false)], args := [d1, d2] }
  | _ => none }
def FnExactSmoothOfWrongFalsely : Prop := fnExactSmoothOfRow.holds Try.pinned (OpenSpec.ofChange fnExactSmoothOfWrong)

/-- 'laws.FnSmoothOf': WHATEVER THE INPUT: true; the input reads as it did. -/
def fnSmoothOfSpec : ChangeSpec := { name := "fnSmoothOf", fn := fun _ => fun
  | [d] => { results := [.lit (.bool true)], args := [d] }
  | _ => none }
def fnSmoothOfRow : OpenClaim := { program := "yteifojanklggmaa", sum := "fa38e6a32176f77b71da9b1a86cd8d39a43185bfeb3d9ba8f4a81eb6fd387969", func := "loop.example/linksandframes/laws.FnSmoothOf", spec := "fnSmoothOf", unfollowed := true, recurses := true, apart := false }
def FnSmoothOfSaid : Prop := fnSmoothOfRow.holds Try.pinned (OpenSpec.ofChange fnSmoothOfSpec)

/-- ITS FALSE NEIGHBOUR: 'it returns false'. Refute it at one input. -/
def fnSmoothOfWrong : ChangeSpec := { name := "fnSmoothOf", fn := fun _ => fun
  | [d] => { results := [.lit (.bool false)], args := [d] }
  | _ => none }
def FnSmoothOfWrongFalsely : Prop := fnSmoothOfRow.holds Try.pinned (OpenSpec.ofChange fnSmoothOfWrong)

/- THE SECOND FORM. 'bulk': how many values and letters a reading holds, each counted each time it is reached (what is shared counts as often as it is met; a slice's spare places count too). A statement '..UptoSaid' is the law's where the arguments, and the package variables that the reading takes, are together of bulk at most 1048576: NARROWER than '..Said'. Prove '..Said' where nothing that the law and all that it calls make is longer than what came in: it says more and counts as full. Else prove '..UptoSaid'. A law counts once. -/
mutual
def uptoBulk {H : Type} : DataW H → Nat
  | .lit (.string bytes) => bytes.length + 1
  | .lit _ => 1
  | .nil => 1
  | .ptr d => uptoBulk d + 1
  | .slice elems spare => uptoBulkAll elems + uptoBulkAll spare + 1
  | .agg parts => uptoBulkAll parts + 1
  | .iface _ d => uptoBulk d + 1
  | .map entries => uptoBulkEntries entries + 1
  | .held _ => 1
def uptoBulkAll {H : Type} : List (DataW H) → Nat
  | [] => 0
  | d :: r => uptoBulk d + uptoBulkAll r
def uptoBulkEntries {H : Type} : List (Lit × DataW H) → Nat
  | [] => 0
  | x :: r => uptoBulkEntry x + uptoBulkEntries r
def uptoBulkEntry {H : Type} : Lit × DataW H → Nat
  | (.string bytes, d) => bytes.length + uptoBulk d + 1
  | (_, d) => uptoBulk d + 1
 end
def uptoSmall : (H : Type) → List (DataW H) → Bool := fun _ ds => decide (uptoBulkAll ds ≤ 1048576)
def OpenSpec.upto (s : _root_.Go.ChangeSpec) : _root_.Go.OpenSpec := { _root_.Go.OpenSpec.ofChange s with cond := some uptoSmall }

/-- 'laws.FnExactPassesOf', WHERE WHAT IT READS IS OF BULK AT MOST 1048576: true; the input reads as it did. -/
def fnExactPassesOfUptoRow : OpenClaim := { program := "yteifojanklggmaa", sum := "fa38e6a32176f77b71da9b1a86cd8d39a43185bfeb3d9ba8f4a81eb6fd387969", func := "loop.example/linksandframes/laws.FnExactPassesOf", spec := "fnExactPassesOf", unfollowed := true, recurses := true, apart := false, narrowed := true }
def FnExactPassesOfUptoSaid : Prop := fnExactPassesOfUptoRow.holds Try.pinned (OpenSpec.upto fnExactPassesOfSpec)

/-- 'laws.FnPassesOf', WHERE WHAT IT READS IS OF BULK AT MOST 1048576: true; the input reads as it did. -/
def fnPassesOfUptoRow : OpenClaim := { program := "yteifojanklggmaa", sum := "fa38e6a32176f77b71da9b1a86cd8d39a43185bfeb3d9ba8f4a81eb6fd387969", func := "loop.example/linksandframes/laws.FnPassesOf", spec := "fnPassesOf", unfollowed := true, recurses := true, apart := false, narrowed := true }
def FnPassesOfUptoSaid : Prop := fnPassesOfUptoRow.holds Try.pinned (OpenSpec.upto fnPassesOfSpec)

/-- 'laws.FnExactDepthFor', WHERE WHAT IT READS IS OF BULK AT MOST 1048576: true; the input reads as it did. -/
def fnExactDepthForUptoRow : OpenClaim := { program := "yteifojanklggmaa", sum := "fa38e6a32176f77b71da9b1a86cd8d39a43185bfeb3d9ba8f4a81eb6fd387969", func := "loop.example/linksandframes/laws.FnExactDepthFor", spec := "fnExactDepthFor", unfollowed := true, recurses := true, apart := false, narrowed := true }
def FnExactDepthForUptoSaid : Prop := fnExactDepthForUptoRow.holds Try.pinned (OpenSpec.upto fnExactDepthForSpec)

/-- 'laws.FnDepthFor', WHERE WHAT IT READS IS OF BULK AT MOST 1048576: true; the input reads as it did. -/
def fnDepthForUptoRow : OpenClaim := { program := "yteifojanklggmaa", sum := "fa38e6a32176f77b71da9b1a86cd8d39a43185bfeb3d9ba8f4a81eb6fd387969", func := "loop.example/linksandframes/laws.FnDepthFor", spec := "fnDepthFor", unfollowed := true, recurses := true, apart := false, narrowed := true }
def FnDepthForUptoSaid : Prop := fnDepthForUptoRow.holds Try.pinned (OpenSpec.upto fnDepthForSpec)

/-- 'laws.FnExactSmoothOf', WHERE WHAT IT READS IS OF BULK AT MOST 1048576: true; the input reads as it did. -/
def fnExactSmoothOfUptoRow : OpenClaim := { program := "yteifojanklggmaa", sum := "fa38e6a32176f77b71da9b1a86cd8d39a43185bfeb3d9ba8f4a81eb6fd387969", func := "loop.example/linksandframes/laws.FnExactSmoothOf", spec := "fnExactSmoothOf", unfollowed := true, recurses := true, apart := false, narrowed := true }
def FnExactSmoothOfUptoSaid : Prop := fnExactSmoothOfUptoRow.holds Try.pinned (OpenSpec.upto fnExactSmoothOfSpec)

/-- 'laws.FnSmoothOf', WHERE WHAT IT READS IS OF BULK AT MOST 1048576: true; the input reads as it did. -/
def fnSmoothOfUptoRow : OpenClaim := { program := "yteifojanklggmaa", sum := "fa38e6a32176f77b71da9b1a86cd8d39a43185bfeb3d9ba8f4a81eb6fd387969", func := "loop.example/linksandframes/laws.FnSmoothOf", spec := "fnSmoothOf", unfollowed := true, recurses := true, apart := false, narrowed := true }
def FnSmoothOfUptoSaid : Prop := fnSmoothOfUptoRow.holds Try.pinned (OpenSpec.upto fnSmoothOfSpec)

end Rows
end Go.Proofs.Yteifojanklggmaa
