/-
  NARROWER THAN 'FOR EVERY INPUT', by the rows' own cells (each row's printed sentence says how): FnGroupsOf: ifaces, laid · FnExactNumberAt: ifaces, laid · FnNumberAt: ifaces, laid.
  DERIVED. THE GIVEN ROWS OF THIS SEAT. 3 by the template 'for every input the law returns true; each argument reads behind the call as it read before'; 0 by the template 'total and deterministic' (their statements: YtkmnijpiaofdmaaDoorTotals.lean).
  GIVEN WITH THE SEED: the statements are not yours to turn. If you find one false, say at which input.
  Laid BY PROGRAM, IN A SANDBOX (cutbox-rows.mjs): the forced cells as the released guide's own fill.sh prints them over the translation d97038e92c710d5a… (all of the seat's roots in one cut). By AI agents, Wed Nov 11 2026. No macro, syntax, notation, axiom, sorry.
-/
import Derived.Test.YtkmnijpiaofdmaaDoorChecked
import GoSem.Claim
import GoSem.ClaimJoined
import GoSem.ClaimMapViews
import Derived.JoinedTies
import Derived.KernelRfl
namespace Go.Proofs.YtkmnijpiaofdmaaDoor
/- THE CELL 'sum', in the pinned program and in every row, IS THE sha256 OF THE DUMP (.gsa) THAT YtkmnijpiaofdmaaDoorProg.lean LOADS. Nothing in Lean hashes anything: it is a label: what it is worth is what the hold of that sum in a sandbox is worth. -/
noncomputable def Tryd.pinned : Pinned := { name := "ytkmnijpiaofdmaadoor", sum := "d97038e92c710d5a09d45106a12f43556304ddc8efb629bc18be1f9e28fcd264", checked := Tryd.checked }
namespace Rows
def none {H : Type} : Left H := { results := [], args := [] }

/- WHAT THE LISTED PACKAGE-LEVEL VARIABLES READ AS WHEN THE CALL BEGINS. Each datum BY PROGRAM (the guide's laid-datum.mjs) off the statement by which the dump's own 'gosem.cut.vars' lays the variable. In a bare row this is a premise. The card (YtkmnijpiaofdmaaDoorCards.lean) ties it to the program's text. -/
def laid_loop_example_linksandframes_impl_errNoForm {H : Type} : DataW H := .iface "*errors.errorString" (.ptr (.agg [.lit (.string [98, 121, 116, 101, 115, 32, 97, 114, 101, 32, 110, 111, 32, 102, 111, 114, 109])]))

/-- 'laws.FnGroupsOf': WHATEVER THE INPUT: true; the input reads as it did. -/
def fnGroupsOfSpec : ChangeSpec := { name := "fnGroupsOf", vars := ["loop.example/linksandframes/impl.errNoForm"], fn := fun _ => fun
  | [d, g1] => { results := [.lit (.bool true)], args := [d], vars := [g1] }
  | _ => none }
def fnGroupsOfRow : OpenClaim := { program := "ytkmnijpiaofdmaadoor", sum := "d97038e92c710d5a09d45106a12f43556304ddc8efb629bc18be1f9e28fcd264", func := "loop.example/linksandframes/laws.FnGroupsOf", spec := "fnGroupsOf", named := ["loop.example/linksandframes/impl.errNoForm"], ifaces := true, apart := false, laid := [("loop.example/linksandframes/impl.errNoForm", laid_loop_example_linksandframes_impl_errNoForm)] }
def FnGroupsOfSaid : Prop := fnGroupsOfRow.holds Tryd.pinned (OpenSpec.ofChange fnGroupsOfSpec)

/-- ITS FALSE NEIGHBOUR: 'it returns false'. Refute it at one input. -/
def fnGroupsOfWrong : ChangeSpec := { name := "fnGroupsOf", vars := ["loop.example/linksandframes/impl.errNoForm"], fn := fun _ => fun
  | [d, g1] => { results := [.lit (.bool false)], args := [d], vars := [g1] }
  | _ => none }
def FnGroupsOfWrongFalsely : Prop := fnGroupsOfRow.holds Tryd.pinned (OpenSpec.ofChange fnGroupsOfWrong)

/-- 'laws.FnExactNumberAt': WHATEVER THE INPUT: true; the input reads as it did. -/
def fnExactNumberAtSpec : ChangeSpec := { name := "fnExactNumberAt", vars := ["loop.example/linksandframes/impl.errNoForm"], fn := fun _ => fun
  | [d, g1] => { results := [.lit (.bool true)], args := [d], vars := [g1] }
  | _ => none }
def fnExactNumberAtRow : OpenClaim := { program := "ytkmnijpiaofdmaadoor", sum := "d97038e92c710d5a09d45106a12f43556304ddc8efb629bc18be1f9e28fcd264", func := "loop.example/linksandframes/laws.FnExactNumberAt", spec := "fnExactNumberAt", named := ["loop.example/linksandframes/impl.errNoForm"], ifaces := true, apart := false, laid := [("loop.example/linksandframes/impl.errNoForm", laid_loop_example_linksandframes_impl_errNoForm)] }
def FnExactNumberAtSaid : Prop := fnExactNumberAtRow.holds Tryd.pinned (OpenSpec.ofChange fnExactNumberAtSpec)

/-- ITS FALSE NEIGHBOUR: 'it returns false'. Refute it at one input. -/
def fnExactNumberAtWrong : ChangeSpec := { name := "fnExactNumberAt", vars := ["loop.example/linksandframes/impl.errNoForm"], fn := fun _ => fun
  | [d, g1] => { results := [.lit (.bool false)], args := [d], vars := [g1] }
  | _ => none }
def FnExactNumberAtWrongFalsely : Prop := fnExactNumberAtRow.holds Tryd.pinned (OpenSpec.ofChange fnExactNumberAtWrong)

/-- 'laws.FnNumberAt': WHATEVER THE INPUT: true; the input reads as it did. -/
def fnNumberAtSpec : ChangeSpec := { name := "fnNumberAt", vars := ["loop.example/linksandframes/impl.errNoForm"], fn := fun _ => fun
  | [d, g1] => { results := [.lit (.bool true)], args := [d], vars := [g1] }
  | _ => none }
def fnNumberAtRow : OpenClaim := { program := "ytkmnijpiaofdmaadoor", sum := "d97038e92c710d5a09d45106a12f43556304ddc8efb629bc18be1f9e28fcd264", func := "loop.example/linksandframes/laws.FnNumberAt", spec := "fnNumberAt", named := ["loop.example/linksandframes/impl.errNoForm"], ifaces := true, apart := false, laid := [("loop.example/linksandframes/impl.errNoForm", laid_loop_example_linksandframes_impl_errNoForm)] }
def FnNumberAtSaid : Prop := fnNumberAtRow.holds Tryd.pinned (OpenSpec.ofChange fnNumberAtSpec)

/-- ITS FALSE NEIGHBOUR: 'it returns false'. Refute it at one input. -/
def fnNumberAtWrong : ChangeSpec := { name := "fnNumberAt", vars := ["loop.example/linksandframes/impl.errNoForm"], fn := fun _ => fun
  | [d, g1] => { results := [.lit (.bool false)], args := [d], vars := [g1] }
  | _ => none }
def FnNumberAtWrongFalsely : Prop := fnNumberAtRow.holds Tryd.pinned (OpenSpec.ofChange fnNumberAtWrong)

/- THE SECOND FORM. 'bulk': how many values and letters a reading holds, each counted each time it is reached (what is shared counts as often as it is met; a slice's spare places count too). A statement '..UptoSaid' is the law's where the arguments, and the package variables that the reading takes, are together of bulk at most 1048576: NARROWER than '..Said'. Prove '..Said' where nothing that the law and all that it calls make is longer than what came in: it says more and counts as full. Else prove '..UptoSaid'. A law counts once. -/
mutual
def uptoBulk {H : Type} : DataW H → Nat
  | .lit (.string bytes) => bytes.length + 1
  | .lit _ => 1
  | .nil => 1
  | .ptr d => uptoBulk d + 1
  | .slice elems spare => uptoBulkAll elems + uptoBulkAll spare + 1
  | .agg parts => uptoBulkAll parts + 1
  | .iface _ d => uptoBulk d + 1
  | .map entries => uptoBulkEntries entries + 1
  | .held _ => 1
def uptoBulkAll {H : Type} : List (DataW H) → Nat
  | [] => 0
  | d :: r => uptoBulk d + uptoBulkAll r
def uptoBulkEntries {H : Type} : List (Lit × DataW H) → Nat
  | [] => 0
  | x :: r => uptoBulkEntry x + uptoBulkEntries r
def uptoBulkEntry {H : Type} : Lit × DataW H → Nat
  | (.string bytes, d) => bytes.length + uptoBulk d + 1
  | (_, d) => uptoBulk d + 1
 end
def uptoSmall : (H : Type) → List (DataW H) → Bool := fun _ ds => decide (uptoBulkAll ds ≤ 1048576)
def OpenSpec.upto (s : _root_.Go.ChangeSpec) : _root_.Go.OpenSpec := { _root_.Go.OpenSpec.ofChange s with cond := some uptoSmall }

/-- 'laws.FnGroupsOf', WHERE WHAT IT READS IS OF BULK AT MOST 1048576: true; the input reads as it did. -/
def fnGroupsOfUptoRow : OpenClaim := { program := "ytkmnijpiaofdmaadoor", sum := "d97038e92c710d5a09d45106a12f43556304ddc8efb629bc18be1f9e28fcd264", func := "loop.example/linksandframes/laws.FnGroupsOf", spec := "fnGroupsOf", named := ["loop.example/linksandframes/impl.errNoForm"], ifaces := true, apart := false, laid := [("loop.example/linksandframes/impl.errNoForm", laid_loop_example_linksandframes_impl_errNoForm)], narrowed := true }
def FnGroupsOfUptoSaid : Prop := fnGroupsOfUptoRow.holds Tryd.pinned (OpenSpec.upto fnGroupsOfSpec)

/-- 'laws.FnExactNumberAt', WHERE WHAT IT READS IS OF BULK AT MOST 1048576: true; the input reads as it did. -/
def fnExactNumberAtUptoRow : OpenClaim := { program := "ytkmnijpiaofdmaadoor", sum := "d97038e92c710d5a09d45106a12f43556304ddc8efb629bc18be1f9e28fcd264", func := "loop.example/linksandframes/laws.FnExactNumberAt", spec := "fnExactNumberAt", named := ["loop.example/linksandframes/impl.errNoForm"], ifaces := true, apart := false, laid := [("loop.example/linksandframes/impl.errNoForm", laid_loop_example_linksandframes_impl_errNoForm)], narrowed := true }
def FnExactNumberAtUptoSaid : Prop := fnExactNumberAtUptoRow.holds Tryd.pinned (OpenSpec.upto fnExactNumberAtSpec)

/-- 'laws.FnNumberAt', WHERE WHAT IT READS IS OF BULK AT MOST 1048576: true; the input reads as it did. -/
def fnNumberAtUptoRow : OpenClaim := { program := "ytkmnijpiaofdmaadoor", sum := "d97038e92c710d5a09d45106a12f43556304ddc8efb629bc18be1f9e28fcd264", func := "loop.example/linksandframes/laws.FnNumberAt", spec := "fnNumberAt", named := ["loop.example/linksandframes/impl.errNoForm"], ifaces := true, apart := false, laid := [("loop.example/linksandframes/impl.errNoForm", laid_loop_example_linksandframes_impl_errNoForm)], narrowed := true }
def FnNumberAtUptoSaid : Prop := fnNumberAtUptoRow.holds Tryd.pinned (OpenSpec.upto fnNumberAtSpec)

end Rows
end Go.Proofs.YtkmnijpiaofdmaaDoor
