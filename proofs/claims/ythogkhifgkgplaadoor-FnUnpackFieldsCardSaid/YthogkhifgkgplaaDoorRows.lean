/-
  NARROWER THAN 'FOR EVERY INPUT', by the rows' own cells (each row's printed sentence says how): FnExactUnpackFields: ifaces, laid · FnPackFields: ifaces, laid · FnUnpackFields: ifaces, laid.
  DERIVED. THE GIVEN ROWS OF THIS SEAT. 3 by the template 'for every input the law returns true; each argument reads behind the call as it read before'; 0 by the template 'total and deterministic' (their statements: YthogkhifgkgplaaDoorTotals.lean).
  GIVEN WITH THE SEED: the statements are not yours to turn. If you find one false, say at which input.
  Laid BY PROGRAM, IN A SANDBOX (cutbox-rows.mjs): the forced cells as the released guide's own fill.sh prints them over the translation c874ddc033c82249… (all of the seat's roots in one cut). By AI agents, Wed Nov 11 2026. No macro, syntax, notation, axiom, sorry.
-/
import Derived.Test.YthogkhifgkgplaaDoorChecked
import GoSem.Claim
import GoSem.ClaimJoined
import GoSem.ClaimMapViews
import Derived.JoinedTies
import Derived.KernelRfl
namespace Go.Proofs.YthogkhifgkgplaaDoor
/- THE CELL 'sum', in the pinned program and in every row, IS THE sha256 OF THE DUMP (.gsa) THAT YthogkhifgkgplaaDoorProg.lean LOADS. Nothing in Lean hashes anything: it is a label: what it is worth is what the hold of that sum in a sandbox is worth. -/
noncomputable def Tryd.pinned : Pinned := { name := "ythogkhifgkgplaadoor", sum := "c874ddc033c82249151ab8c5794fa7df836934934a555e877704cfc1030685a2", checked := Tryd.checked }
namespace Rows
def none {H : Type} : Left H := { results := [], args := [] }

/- WHAT THE LISTED PACKAGE-LEVEL VARIABLES READ AS WHEN THE CALL BEGINS. Each datum BY PROGRAM (the guide's laid-datum.mjs) off the statement by which the dump's own 'gosem.cut.vars' lays the variable. In a bare row this is a premise. The card (YthogkhifgkgplaaDoorCards.lean) ties it to the program's text. -/
def laid_errors_errorType {H : Type} : DataW H := .iface "internal/reflectlite.rtype" (.agg [.ptr (.lit (.string [101, 114, 114, 111, 114]))])
def laid_loop_example_linksandframes_impl_errNoForm {H : Type} : DataW H := .iface "*errors.errorString" (.ptr (.agg [.lit (.string [98, 121, 116, 101, 115, 32, 97, 114, 101, 32, 110, 111, 32, 102, 111, 114, 109])]))

/-- 'laws.FnExactUnpackFields': WHATEVER THE INPUT: true; the input reads as it did. -/
def fnExactUnpackFieldsSpec : ChangeSpec := { name := "fnExactUnpackFields", vars := ["loop.example/linksandframes/impl.errNoForm"], fn := fun _ => fun
  | [d, g1] => { results := [.lit (.bool true)], args := [d], vars := [g1] }
  | _ => none }
def fnExactUnpackFieldsRow : OpenClaim := { program := "ythogkhifgkgplaadoor", sum := "c874ddc033c82249151ab8c5794fa7df836934934a555e877704cfc1030685a2", func := "loop.example/linksandframes/laws.FnExactUnpackFields", spec := "fnExactUnpackFields", inPlace := ["internal/reflectlite.ValueOf", "(internal/reflectlite.Value).Type", "(internal/reflectlite.Value).IsNil", "internal/reflectlite.TypeOf", "(internal/reflectlite.Value).Elem", "(internal/reflectlite.Value).Set"], unfollowed := true, recurses := true, named := ["loop.example/linksandframes/impl.errNoForm", "errors.errorType"], ifaces := true, apart := false, laid := [("errors.errorType", laid_errors_errorType), ("loop.example/linksandframes/impl.errNoForm", laid_loop_example_linksandframes_impl_errNoForm)] }
def FnExactUnpackFieldsSaid : Prop := fnExactUnpackFieldsRow.holds Tryd.pinned (OpenSpec.ofChange fnExactUnpackFieldsSpec)

/-- ITS FALSE NEIGHBOUR: 'it returns false'. Refute it at one input. -/
def fnExactUnpackFieldsWrong : ChangeSpec := { name := "fnExactUnpackFields", vars := ["loop.example/linksandframes/impl.errNoForm"], fn := fun _ => fun
  | [d, g1] => { results := [.lit (.bool false)], args := [d], vars := [g1] }
  | _ => none }
def FnExactUnpackFieldsWrongFalsely : Prop := fnExactUnpackFieldsRow.holds Tryd.pinned (OpenSpec.ofChange fnExactUnpackFieldsWrong)

/-- 'laws.FnPackFields': WHATEVER THE INPUT: true; the input reads as it did. -/
def fnPackFieldsSpec : ChangeSpec := { name := "fnPackFields", vars := ["loop.example/linksandframes/impl.errNoForm"], fn := fun _ => fun
  | [d, g1] => { results := [.lit (.bool true)], args := [d], vars := [g1] }
  | _ => none }
def fnPackFieldsRow : OpenClaim := { program := "ythogkhifgkgplaadoor", sum := "c874ddc033c82249151ab8c5794fa7df836934934a555e877704cfc1030685a2", func := "loop.example/linksandframes/laws.FnPackFields", spec := "fnPackFields", inPlace := ["internal/reflectlite.ValueOf", "(internal/reflectlite.Value).Type", "(internal/reflectlite.Value).IsNil", "internal/reflectlite.TypeOf", "(internal/reflectlite.Value).Elem", "(internal/reflectlite.Value).Set"], unfollowed := true, recurses := true, named := ["loop.example/linksandframes/impl.errNoForm", "errors.errorType"], ifaces := true, apart := false, laid := [("errors.errorType", laid_errors_errorType), ("loop.example/linksandframes/impl.errNoForm", laid_loop_example_linksandframes_impl_errNoForm)] }
def FnPackFieldsSaid : Prop := fnPackFieldsRow.holds Tryd.pinned (OpenSpec.ofChange fnPackFieldsSpec)

/-- ITS FALSE NEIGHBOUR: 'it returns false'. Refute it at one input. -/
def fnPackFieldsWrong : ChangeSpec := { name := "fnPackFields", vars := ["loop.example/linksandframes/impl.errNoForm"], fn := fun _ => fun
  | [d, g1] => { results := [.lit (.bool false)], args := [d], vars := [g1] }
  | _ => none }
def FnPackFieldsWrongFalsely : Prop := fnPackFieldsRow.holds Tryd.pinned (OpenSpec.ofChange fnPackFieldsWrong)

/-- 'laws.FnUnpackFields': WHATEVER THE INPUT: true; the input reads as it did. -/
def fnUnpackFieldsSpec : ChangeSpec := { name := "fnUnpackFields", vars := ["loop.example/linksandframes/impl.errNoForm"], fn := fun _ => fun
  | [d, g1] => { results := [.lit (.bool true)], args := [d], vars := [g1] }
  | _ => none }
def fnUnpackFieldsRow : OpenClaim := { program := "ythogkhifgkgplaadoor", sum := "c874ddc033c82249151ab8c5794fa7df836934934a555e877704cfc1030685a2", func := "loop.example/linksandframes/laws.FnUnpackFields", spec := "fnUnpackFields", inPlace := ["internal/reflectlite.ValueOf", "(internal/reflectlite.Value).Type", "(internal/reflectlite.Value).IsNil", "internal/reflectlite.TypeOf", "(internal/reflectlite.Value).Elem", "(internal/reflectlite.Value).Set"], unfollowed := true, recurses := true, named := ["loop.example/linksandframes/impl.errNoForm", "errors.errorType"], ifaces := true, apart := false, laid := [("errors.errorType", laid_errors_errorType), ("loop.example/linksandframes/impl.errNoForm", laid_loop_example_linksandframes_impl_errNoForm)] }
def FnUnpackFieldsSaid : Prop := fnUnpackFieldsRow.holds Tryd.pinned (OpenSpec.ofChange fnUnpackFieldsSpec)

/-- ITS FALSE NEIGHBOUR: 'it returns false'. Refute it at one input. -/
def fnUnpackFieldsWrong : ChangeSpec := { name := "fnUnpackFields", vars := ["loop.example/linksandframes/impl.errNoForm"], fn := fun _ => fun
  | [d, g1] => { results := [.lit (.bool false)], args := [d], vars := [g1] }
  | _ => none }
def FnUnpackFieldsWrongFalsely : Prop := fnUnpackFieldsRow.holds Tryd.pinned (OpenSpec.ofChange fnUnpackFieldsWrong)

/- THE SECOND FORM. 'bulk': how many values and letters a reading holds, each counted each time it is reached (what is shared counts as often as it is met; a slice's spare places count too). A statement '..UptoSaid' is the law's where the arguments, and the package variables that the reading takes, are together of bulk at most 1048576: NARROWER than '..Said'. Prove '..Said' where nothing that the law and all that it calls make is longer than what came in: it says more and counts as full. Else prove '..UptoSaid'. A law counts once. -/
mutual
def uptoBulk {H : Type} : DataW H → Nat
  | .lit (.string bytes) => bytes.length + 1
  | .lit _ => 1
  | .nil => 1
  | .ptr d => uptoBulk d + 1
  | .slice elems spare => uptoBulkAll elems + uptoBulkAll spare + 1
  | .agg parts => uptoBulkAll parts + 1
  | .iface _ d => uptoBulk d + 1
  | .map entries => uptoBulkEntries entries + 1
  | .held _ => 1
def uptoBulkAll {H : Type} : List (DataW H) → Nat
  | [] => 0
  | d :: r => uptoBulk d + uptoBulkAll r
def uptoBulkEntries {H : Type} : List (Lit × DataW H) → Nat
  | [] => 0
  | x :: r => uptoBulkEntry x + uptoBulkEntries r
def uptoBulkEntry {H : Type} : Lit × DataW H → Nat
  | (.string bytes, d) => bytes.length + uptoBulk d + 1
  | (_, d) => uptoBulk d + 1
 end
def uptoSmall : (H : Type) → List (DataW H) → Bool := fun _ ds => decide (uptoBulkAll ds ≤ 1048576)
def OpenSpec.upto (s : _root_.Go.ChangeSpec) : _root_.Go.OpenSpec := { _root_.Go.OpenSpec.ofChange s with cond := some uptoSmall }

/-- 'laws.FnExactUnpackFields', WHERE WHAT IT READS IS OF BULK AT MOST 1048576: true; the input reads as it did. -/
def fnExactUnpackFieldsUptoRow : OpenClaim := { program := "ythogkhifgkgplaadoor", sum := "c874ddc033c82249151ab8c5794fa7df836934934a555e877704cfc1030685a2", func := "loop.example/linksandframes/laws.FnExactUnpackFields", spec := "fnExactUnpackFields", inPlace := ["internal/reflectlite.ValueOf", "(internal/reflectlite.Value).Type", "(internal/reflectlite.Value).IsNil", "internal/reflectlite.TypeOf", "(internal/reflectlite.Value).Elem", "(internal/reflectlite.Value).Set"], unfollowed := true, recurses := true, named := ["loop.example/linksandframes/impl.errNoForm", "errors.errorType"], ifaces := true, apart := false, laid := [("errors.errorType", laid_errors_errorType), ("loop.example/linksandframes/impl.errNoForm", laid_loop_example_linksandframes_impl_errNoForm)], narrowed := true }
def FnExactUnpackFieldsUptoSaid : Prop := fnExactUnpackFieldsUptoRow.holds Tryd.pinned (OpenSpec.upto fnExactUnpackFieldsSpec)

/-- 'laws.FnPackFields', WHERE WHAT IT READS IS OF BULK AT MOST 1048576: true; the input reads as it did. -/
def fnPackFieldsUptoRow : OpenClaim := { program := "ythogkhifgkgplaadoor", sum := "c874ddc033c82249151ab8c5794fa7df836934934a555e877704cfc1030685a2", func := "loop.example/linksandframes/laws.FnPackFields", spec := "fnPackFields", inPlace := ["internal/reflectlite.ValueOf", "(internal/reflectlite.Value).Type", "(internal/reflectlite.Value).IsNil", "internal/reflectlite.TypeOf", "(internal/reflectlite.Value).Elem", "(internal/reflectlite.Value).Set"], unfollowed := true, recurses := true, named := ["loop.example/linksandframes/impl.errNoForm", "errors.errorType"], ifaces := true, apart := false, laid := [("errors.errorType", laid_errors_errorType), ("loop.example/linksandframes/impl.errNoForm", laid_loop_example_linksandframes_impl_errNoForm)], narrowed := true }
def FnPackFieldsUptoSaid : Prop := fnPackFieldsUptoRow.holds Tryd.pinned (OpenSpec.upto fnPackFieldsSpec)

/-- 'laws.FnUnpackFields', WHERE WHAT IT READS IS OF BULK AT MOST 1048576: true; the input reads as it did. -/
def fnUnpackFieldsUptoRow : OpenClaim := { program := "ythogkhifgkgplaadoor", sum := "c874ddc033c82249151ab8c5794fa7df836934934a555e877704cfc1030685a2", func := "loop.example/linksandframes/laws.FnUnpackFields", spec := "fnUnpackFields", inPlace := ["internal/reflectlite.ValueOf", "(internal/reflectlite.Value).Type", "(internal/reflectlite.Value).IsNil", "internal/reflectlite.TypeOf", "(internal/reflectlite.Value).Elem", "(internal/reflectlite.Value).Set"], unfollowed := true, recurses := true, named := ["loop.example/linksandframes/impl.errNoForm", "errors.errorType"], ifaces := true, apart := false, laid := [("errors.errorType", laid_errors_errorType), ("loop.example/linksandframes/impl.errNoForm", laid_loop_example_linksandframes_impl_errNoForm)], narrowed := true }
def FnUnpackFieldsUptoSaid : Prop := fnUnpackFieldsUptoRow.holds Tryd.pinned (OpenSpec.upto fnUnpackFieldsSpec)

end Rows
end Go.Proofs.YthogkhifgkgplaaDoor
