/-
  No cell of these rows narrows 'for every input' (looked for: loops, veiled, ifaces, maps, wideKeys, modest, calm, conditions, laid).
  DERIVED. THE GIVEN ROWS OF THIS SEAT. 7 by the template 'for every input the law returns true; each argument reads behind the call as it read before'; 0 by the template 'total and deterministic' (their statements: YtfhgkcgjonifcaaTotals.lean).
  GIVEN WITH THE SEED: the statements are not yours to turn. If you find one false, say at which input.
  Laid BY PROGRAM, IN A SANDBOX (cutbox-rows.mjs): the forced cells as the released guide's own fill.sh prints them over the translation f1f02bf2ce41a214… (all of the seat's roots in one cut). By AI agents, Wed Nov 11 2026. No macro, syntax, notation, axiom, sorry.
-/
import Derived.Test.YtfhgkcgjonifcaaChecked
import GoSem.Claim
import GoSem.ClaimJoined
import GoSem.ClaimMapViews
import Derived.JoinedTies
import Derived.KernelRfl
namespace Go.Proofs.Ytfhgkcgjonifcaa
/- THE CELL 'sum', in the pinned program and in every row, IS THE sha256 OF THE DUMP (.gsa) THAT YtfhgkcgjonifcaaProg.lean LOADS. Nothing in Lean hashes anything: it is a label: what it is worth is what the hold of that sum in a sandbox is worth. -/
noncomputable def Try.pinned : Pinned := { name := "ytfhgkcgjonifcaa", sum := "f1f02bf2ce41a21499d61d1a0744c3603e88dcca06b3781c2aa13ce9ba03898e", checked := Try.checked }
namespace Rows
def none {H : Type} : Left H := { results := [], args := [] }

/-- 'laws.FnExactValidPlan': WHATEVER THE INPUT: true; the input reads as it did. -/
def fnExactValidPlanSpec : ChangeSpec := { name := "fnExactValidPlan", fn := fun _ => fun
  | [d] => { results := [.lit (.bool true)], args := [d] }
  | _ => none }
def fnExactValidPlanRow : OpenClaim := { program := "ytfhgkcgjonifcaa", sum := "f1f02bf2ce41a21499d61d1a0744c3603e88dcca06b3781c2aa13ce9ba03898e", func := "loop.example/linksandframes/laws.FnExactValidPlan", spec := "fnExactValidPlan", apart := false }
def FnExactValidPlanSaid : Prop := fnExactValidPlanRow.holds Try.pinned (OpenSpec.ofChange fnExactValidPlanSpec)

/-- ITS FALSE NEIGHBOUR: 'it returns false'. Refute it at one input. -/
def fnExactValidPlanWrong : ChangeSpec := { name := "fnExactValidPlan", fn := fun _ => fun
  | [d] => { results := [.lit (.bool false)], args := [d] }
  | _ => none }
def FnExactValidPlanWrongFalsely : Prop := fnExactValidPlanRow.holds Try.pinned (OpenSpec.ofChange fnExactValidPlanWrong)

/-- 'laws.FnExactNewLink': WHATEVER THE INPUT: true; the input reads as it did. -/
def fnExactNewLinkSpec : ChangeSpec := { name := "fnExactNewLink", fn := fun _ => fun
  | [] => { results := [.lit (.bool true)], args := [] }
  | _ => none }
def fnExactNewLinkRow : OpenClaim := { program := "ytfhgkcgjonifcaa", sum := "f1f02bf2ce41a21499d61d1a0744c3603e88dcca06b3781c2aa13ce9ba03898e", func := "loop.example/linksandframes/laws.FnExactNewLink", spec := "fnExactNewLink", apart := false }
def FnExactNewLinkSaid : Prop := fnExactNewLinkRow.holds Try.pinned (OpenSpec.ofChange fnExactNewLinkSpec)

/-- ITS FALSE NEIGHBOUR: 'it returns false'. Refute it at one input. -/
def fnExactNewLinkWrong : ChangeSpec := { name := "fnExactNewLink", fn := fun _ => fun
  | [] => { results := [.lit (.bool false)], args := [] }
  | _ => none }
def FnExactNewLinkWrongFalsely : Prop := fnExactNewLinkRow.holds Try.pinned (OpenSpec.ofChange fnExactNewLinkWrong)

/-- 'laws.FnExactActOn': WHATEVER THE INPUT: true; the input reads as it did. -/
def fnExactActOnSpec : ChangeSpec := { name := "fnExactActOn", fn := fun _ => fun
  | [d1, d2, d3] => { results := [.lit (.bool true)], args := [d1, d2, d3] }
  | _ => none }
def fnExactActOnRow : OpenClaim := { program := "ytfhgkcgjonifcaa", sum := "f1f02bf2ce41a21499d61d1a0744c3603e88dcca06b3781c2aa13ce9ba03898e", func := "loop.example/linksandframes/laws.FnExactActOn", spec := "fnExactActOn", apart := false }
def FnExactActOnSaid : Prop := fnExactActOnRow.holds Try.pinned (OpenSpec.ofChange fnExactActOnSpec)

/-- ITS FALSE NEIGHBOUR: 'it returns false'. Refute it at one input. -/
def fnExactActOnWrong : ChangeSpec := { name := "fnExactActOn", fn := fun _ => fun
  | [d1, d2, d3] => { results := [.lit (.bool false)], args := [d1, d2, d3] }
  | _ => none }
def FnExactActOnWrongFalsely : Prop := fnExactActOnRow.holds Try.pinned (OpenSpec.ofChange fnExactActOnWrong)

/-- 'laws.FnExactRunLink': WHATEVER THE INPUT: true; the input reads as it did. -/
def fnExactRunLinkSpec : ChangeSpec := { name := "fnExactRunLink", fn := fun _ => fun
  | [d1, d2] => { results := [.lit (.bool true)], args := [d1, d2] }
  | _ => none }
def fnExactRunLinkRow : OpenClaim := { program := "ytfhgkcgjonifcaa", sum := "f1f02bf2ce41a21499d61d1a0744c3603e88dcca06b3781c2aa13ce9ba03898e", func := "loop.example/linksandframes/laws.FnExactRunLink", spec := "fnExactRunLink", apart := false }
def FnExactRunLinkSaid : Prop := fnExactRunLinkRow.holds Try.pinned (OpenSpec.ofChange fnExactRunLinkSpec)

/-- ITS FALSE NEIGHBOUR: 'it returns false'. Refute it at one input. -/
def fnExactRunLinkWrong : ChangeSpec := { name := "fnExactRunLink", fn := fun _ => fun
  | [d1, d2] => { results := [.lit (.bool false)], args := [d1, d2] }
  | _ => none }
def FnExactRunLinkWrongFalsely : Prop := fnExactRunLinkRow.holds Try.pinned (OpenSpec.ofChange fnExactRunLinkWrong)

/-- 'laws.FnValidPlan': WHATEVER THE INPUT: true; the input reads as it did. -/
def fnValidPlanSpec : ChangeSpec := { name := "fnValidPlan", fn := fun _ => fun
  | [d] => { results := [.lit (.bool true)], args := [d] }
  | _ => none }
def fnValidPlanRow : OpenClaim := { program := "ytfhgkcgjonifcaa", sum := "f1f02bf2ce41a21499d61d1a0744c3603e88dcca06b3781c2aa13ce9ba03898e", func := "loop.example/linksandframes/laws.FnValidPlan", spec := "fnValidPlan", apart := false }
def FnValidPlanSaid : Prop := fnValidPlanRow.holds Try.pinned (OpenSpec.ofChange fnValidPlanSpec)

/-- ITS FALSE NEIGHBOUR: 'it returns false'. Refute it at one input. -/
def fnValidPlanWrong : ChangeSpec := { name := "fnValidPlan", fn := fun _ => fun
  | [d] => { results := [.lit (.bool false)], args := [d] }
  | _ => none }
def FnValidPlanWrongFalsely : Prop := fnValidPlanRow.holds Try.pinned (OpenSpec.ofChange fnValidPlanWrong)

/-- 'laws.FnNewLink': WHATEVER THE INPUT: true; the input reads as it did. -/
def fnNewLinkSpec : ChangeSpec := { name := "fnNewLink", fn := fun _ => fun
  | [d] => { results := [.lit (.bool true)], args := [d] }
  | _ => none }
def fnNewLinkRow : OpenClaim := { program := "ytfhgkcgjonifcaa", sum := "f1f02bf2ce41a21499d61d1a0744c3603e88dcca06b3781c2aa13ce9ba03898e", func := "loop.example/linksandframes/laws.FnNewLink", spec := "fnNewLink", apart := false }
def FnNewLinkSaid : Prop := fnNewLinkRow.holds Try.pinned (OpenSpec.ofChange fnNewLinkSpec)

/-- ITS FALSE NEIGHBOUR: 'it returns false'. Refute it at one input. -/
def fnNewLinkWrong : ChangeSpec := { name := "fnNewLink", fn := fun _ => fun
  | [d] => { results := [.lit (.bool false)], args := [d] }
  | _ => none }
def FnNewLinkWrongFalsely : Prop := fnNewLinkRow.holds Try.pinned (OpenSpec.ofChange fnNewLinkWrong)

/-- 'laws.FnActOn': WHATEVER THE INPUT: true; the input reads as it did. -/
def fnActOnSpec : ChangeSpec := { name := "fnActOn", fn := fun _ => fun
  | [d] => { results := [.lit (.bool true)], args := [d] }
  | _ => none }
def fnActOnRow : OpenClaim := { program := "ytfhgkcgjonifcaa", sum := "f1f02bf2ce41a21499d61d1a0744c3603e88dcca06b3781c2aa13ce9ba03898e", func := "loop.example/linksandframes/laws.FnActOn", spec := "fnActOn", apart := false }
def FnActOnSaid : Prop := fnActOnRow.holds Try.pinned (OpenSpec.ofChange fnActOnSpec)

/-- ITS FALSE NEIGHBOUR: 'it returns false'. Refute it at one input. -/
def fnActOnWrong : ChangeSpec := { name := "fnActOn", fn := fun _ => fun
  | [d] => { results := [.lit (.bool false)], args := [d] }
  | _ => none }
def FnActOnWrongFalsely : Prop := fnActOnRow.holds Try.pinned (OpenSpec.ofChange fnActOnWrong)

/- THE SECOND FORM. 'bulk': how many values and letters a reading holds, each counted each time it is reached (what is shared counts as often as it is met; a slice's spare places count too). A statement '..UptoSaid' is the law's where the arguments, and the package variables that the reading takes, are together of bulk at most 1048576: NARROWER than '..Said'. Prove '..Said' where nothing that the law and all that it calls make is longer than what came in: it says more and counts as full. Else prove '..UptoSaid'. A law counts once. -/
mutual
def uptoBulk {H : Type} : DataW H → Nat
  | .lit (.string bytes) => bytes.length + 1
  | .lit _ => 1
  | .nil => 1
  | .ptr d => uptoBulk d + 1
  | .slice elems spare => uptoBulkAll elems + uptoBulkAll spare + 1
  | .agg parts => uptoBulkAll parts + 1
  | .iface _ d => uptoBulk d + 1
  | .map entries => uptoBulkEntries entries + 1
  | .held _ => 1
def uptoBulkAll {H : Type} : List (DataW H) → Nat
  | [] => 0
  | d :: r => uptoBulk d + uptoBulkAll r
def uptoBulkEntries {H : Type} : List (Lit × DataW H) → Nat
  | [] => 0
  | x :: r => uptoBulkEntry x + uptoBulkEntries r
def uptoBulkEntry {H : Type} : Lit × DataW H → Nat
  | (.string bytes, d) => bytes.length + uptoBulk d + 1
  | (_, d) => uptoBulk d + 1
 end
def uptoSmall : (H : Type) → List (DataW H) → Bool := fun _ ds => decide (uptoBulkAll ds ≤ 1048576)
def OpenSpec.upto (s : _root_.Go.ChangeSpec) : _root_.Go.OpenSpec := { _root_.Go.OpenSpec.ofChange s with cond := some uptoSmall }

/-- 'laws.FnExactValidPlan', WHERE WHAT IT READS IS OF BULK AT MOST 1048576: true; the input reads as it did. -/
def fnExactValidPlanUptoRow : OpenClaim := { program := "ytfhgkcgjonifcaa", sum := "f1f02bf2ce41a21499d61d1a0744c3603e88dcca06b3781c2aa13ce9ba03898e", func := "loop.example/linksandframes/laws.FnExactValidPlan", spec := "fnExactValidPlan", apart := false, narrowed := true }
def FnExactValidPlanUptoSaid : Prop := fnExactValidPlanUptoRow.holds Try.pinned (OpenSpec.upto fnExactValidPlanSpec)

/-- 'laws.FnExactNewLink', WHERE WHAT IT READS IS OF BULK AT MOST 1048576: true; the input reads as it did. -/
def fnExactNewLinkUptoRow : OpenClaim := { program := "ytfhgkcgjonifcaa", sum := "f1f02bf2ce41a21499d61d1a0744c3603e88dcca06b3781c2aa13ce9ba03898e", func := "loop.example/linksandframes/laws.FnExactNewLink", spec := "fnExactNewLink", apart := false, narrowed := true }
def FnExactNewLinkUptoSaid : Prop := fnExactNewLinkUptoRow.holds Try.pinned (OpenSpec.upto fnExactNewLinkSpec)

/-- 'laws.FnExactActOn', WHERE WHAT IT READS IS OF BULK AT MOST 1048576: true; the input reads as it did. -/
def fnExactActOnUptoRow : OpenClaim := { program := "ytfhgkcgjonifcaa", sum := "f1f02bf2ce41a21499d61d1a0744c3603e88dcca06b3781c2aa13ce9ba03898e", func := "loop.example/linksandframes/laws.FnExactActOn", spec := "fnExactActOn", apart := false, narrowed := true }
def FnExactActOnUptoSaid : Prop := fnExactActOnUptoRow.holds Try.pinned (OpenSpec.upto fnExactActOnSpec)

/-- 'laws.FnExactRunLink', WHERE WHAT IT READS IS OF BULK AT MOST 1048576: true; the input reads as it did. -/
def fnExactRunLinkUptoRow : OpenClaim := { program := "ytfhgkcgjonifcaa", sum := "f1f02bf2ce41a21499d61d1a0744c3603e88dcca06b3781c2aa13ce9ba03898e", func := "loop.example/linksandframes/laws.FnExactRunLink", spec := "fnExactRunLink", apart := false, narrowed := true }
def FnExactRunLinkUptoSaid : Prop := fnExactRunLinkUptoRow.holds Try.pinned (OpenSpec.upto fnExactRunLinkSpec)

/-- 'laws.FnValidPlan', WHERE WHAT IT READS IS OF BULK AT MOST 1048576: true; the input reads as it did. -/
def fnValidPlanUptoRow : OpenClaim := { program := "ytfhgkcgjonifcaa", sum := "f1f02bf2ce41a21499d61d1a0744c3603e88dcca06b3781c2aa13ce9ba03898e", func := "loop.example/linksandframes/laws.FnValidPlan", spec := "fnValidPlan", apart := false, narrowed := true }
def FnValidPlanUptoSaid : Prop := fnValidPlanUptoRow.holds Try.pinned (OpenSpec.upto fnValidPlanSpec)

/-- 'laws.FnNewLink', WHERE WHAT IT READS IS OF BULK AT MOST 1048576: true; the input reads as it did. -/
def fnNewLinkUptoRow : OpenClaim := { program := "ytfhgkcgjonifcaa", sum := "f1f02bf2ce41a21499d61d1a0744c3603e88dcca06b3781c2aa13ce9ba03898e", func := "loop.example/linksandframes/laws.FnNewLink", spec := "fnNewLink", apart := false, narrowed := true }
def FnNewLinkUptoSaid : Prop := fnNewLinkUptoRow.holds Try.pinned (OpenSpec.upto fnNewLinkSpec)

/-- 'laws.FnActOn', WHERE WHAT IT READS IS OF BULK AT MOST 1048576: true; the input reads as it did. -/
def fnActOnUptoRow : OpenClaim := { program := "ytfhgkcgjonifcaa", sum := "f1f02bf2ce41a21499d61d1a0744c3603e88dcca06b3781c2aa13ce9ba03898e", func := "loop.example/linksandframes/laws.FnActOn", spec := "fnActOn", apart := false, narrowed := true }
def FnActOnUptoSaid : Prop := fnActOnUptoRow.holds Try.pinned (OpenSpec.upto fnActOnSpec)

end Rows
end Go.Proofs.Ytfhgkcgjonifcaa
