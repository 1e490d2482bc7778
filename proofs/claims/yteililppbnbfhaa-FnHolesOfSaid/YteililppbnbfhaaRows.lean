/-
  No cell of these rows narrows 'for every input' (looked for: loops, veiled, ifaces, maps, wideKeys, modest, calm, conditions, laid).
  DERIVED. THE GIVEN ROWS OF THIS SEAT. 6 by the template 'for every input the law returns true; each argument reads behind the call as it read before'; 0 by the template 'total and deterministic' (their statements: YteililppbnbfhaaTotals.lean).
  GIVEN WITH THE SEED: the statements are not yours to turn. If you find one false, say at which input.
  Laid BY PROGRAM, IN A SANDBOX (cutbox-rows.mjs): the forced cells as the released guide's own fill.sh prints them over the translation a26f26ae53785a59… (all of the seat's roots in one cut). By AI agents, Wed Nov 11 2026. No macro, syntax, notation, axiom, sorry.
-/
import Derived.Test.YteililppbnbfhaaChecked
import GoSem.Claim
import GoSem.ClaimJoined
import GoSem.ClaimMapViews
import Derived.JoinedTies
import Derived.KernelRfl
namespace Go.Proofs.Yteililppbnbfhaa
/- THE CELL 'sum', in the pinned program and in every row, IS THE sha256 OF THE DUMP (.gsa) THAT YteililppbnbfhaaProg.lean LOADS. Nothing in Lean hashes anything: it is a label: what it is worth is what the hold of that sum in a sandbox is worth. -/
noncomputable def Try.pinned : Pinned := { name := "yteililppbnbfhaa", sum := "a26f26ae53785a59ec80a293c8a838c22f50be5e61af0dc4eafc669702259652", checked := Try.checked }
namespace Rows
def none {H : Type} : Left H := { results := [], args := [] }

/-- 'laws.FnExactHolesOf': WHATEVER THE INPUT: true; the input reads as it did. -/
def fnExactHolesOfSpec : ChangeSpec := { name := "fnExactHolesOf", fn := fun _ => fun
  | [d1, d2] => { results := [.lit (.bool true)], args := [d1, d2] }
  | _ => none }
def fnExactHolesOfRow : OpenClaim := { program := "yteililppbnbfhaa", sum := "a26f26ae53785a59ec80a293c8a838c22f50be5e61af0dc4eafc669702259652", func := "loop.example/linksandframes/laws.FnExactHolesOf", spec := "fnExactHolesOf", unfollowed := true, recurses := true, apart := false }
def FnExactHolesOfSaid : Prop := fnExactHolesOfRow.holds Try.pinned (OpenSpec.ofChange fnExactHolesOfSpec)

/-- ITS FALSE NEIGHBOUR: 'it returns false'. Refute it at one input. -/
def fnExactHolesOfWrong : ChangeSpec := { name := "fnExactHolesOf", fn := fun _ => fun
  | [d1, d2] => { results := [.lit (.bool false)], args := [d1, d2] }
  | _ => none }
def FnExactHolesOfWrongFalsely : Prop := fnExactHolesOfRow.holds Try.pinned (OpenSpec.ofChange fnExactHolesOfWrong)

/-- 'laws.FnExactIsWhole': WHATEVER THE INPUT: true; the input reads as it did. -/
def fnExactIsWholeSpec : ChangeSpec := { name := "fnExactIsWhole", fn := fun _ => fun
  | [d] => { results := [.lit (.bool true)], args := [d] }
  | _ => none }
def fnExactIsWholeRow : OpenClaim := { program := "yteililppbnbfhaa", sum := "a26f26ae53785a59ec80a293c8a838c22f50be5e61af0dc4eafc669702259652", func := "loop.example/linksandframes/laws.FnExactIsWhole", spec := "fnExactIsWhole", unfollowed := true, recurses := true, apart := false }
def FnExactIsWholeSaid : Prop := fnExactIsWholeRow.holds Try.pinned (OpenSpec.ofChange fnExactIsWholeSpec)

/-- ITS FALSE NEIGHBOUR: 'it returns false'. Refute it at one input. -/
def fnExactIsWholeWrong : ChangeSpec := { name := "fnExactIsWhole", fn := fun _ => fun
  | [d] => { results := [.lit (.bool false)], args := [d] }
  | _ => none }
def FnExactIsWholeWrongFalsely : Prop := fnExactIsWholeRow.holds Try.pinned (OpenSpec.ofChange fnExactIsWholeWrong)

/-- 'laws.FnExactWholeAt': WHATEVER THE INPUT: true; the input reads as it did. -/
def fnExactWholeAtSpec : ChangeSpec := { name := "fnExactWholeAt", fn := fun _ => fun
  | [d] => { results := [.lit (.bool true)], args := [d] }
  | _ => none }
def fnExactWholeAtRow : OpenClaim := { program := "yteililppbnbfhaa", sum := "a26f26ae53785a59ec80a293c8a838c22f50be5e61af0dc4eafc669702259652", func := "loop.example/linksandframes/laws.FnExactWholeAt", spec := "fnExactWholeAt", unfollowed := true, recurses := true, apart := false }
def FnExactWholeAtSaid : Prop := fnExactWholeAtRow.holds Try.pinned (OpenSpec.ofChange fnExactWholeAtSpec)

/-- ITS FALSE NEIGHBOUR: 'it returns false'. Refute it at one input. -/
def fnExactWholeAtWrong : ChangeSpec := { name := "fnExactWholeAt", fn := fun _ => fun
  | [d] => { results := [.lit (.bool false)], args := [d] }
  | _ => none }
def FnExactWholeAtWrongFalsely : Prop := fnExactWholeAtRow.holds Try.pinned (OpenSpec.ofChange fnExactWholeAtWrong)

/-- 'laws.FnHolesOf': WHATEVER THE INPUT: true; the input reads as it did. -/
def fnHolesOfSpec : ChangeSpec := { name := "fnHolesOf", fn := fun _ => fun
  | [d] => { results := [.lit (.bool true)], args := [d] }
  | _ => none }
def fnHolesOfRow : OpenClaim := { program := "yteililppbnbfhaa", sum := "a26f26ae53785a59ec80a293c8a838c22f50be5e61af0dc4eafc669702259652", func := "loop.example/linksandframes/laws.FnHolesOf", spec := "fnHolesOf", unfollowed := true, recurses := true, apart := false }
def FnHolesOfSaid : Prop := fnHolesOfRow.holds Try.pinned (OpenSpec.ofChange fnHolesOfSpec)

/-- ITS FALSE NEIGHBOUR: 'it returns false'. Refute it at one input. -/
def fnHolesOfWrong : ChangeSpec := { name := "fnHolesOf", fn := fun _ => fun
  | [d] => { results := [.lit (.bool false)], args := [d] }
  | _ => none }
def FnHolesOfWrongFalsely : Prop := fnHolesOfRow.holds Try.pinned (OpenSpec.ofChange fnHolesOfWrong)

/-- 'laws.FnIsWhole': WHATEVER THE INPUT: true; the input reads as it did. -/
def fnIsWholeSpec : ChangeSpec := { name := "fnIsWhole", fn := fun _ => fun
  | [d] => { results := [.lit (.bool true)], args := [d] }
  | _ => none }
def fnIsWholeRow : OpenClaim := { program := "yteililppbnbfhaa", sum := "a26f26ae53785a59ec80a293c8a838c22f50be5e61af0dc4eafc669702259652", func := "loop.example/linksandframes/laws.FnIsWhole", spec := "fnIsWhole", unfollowed := true, recurses := true, apart := false }
def FnIsWholeSaid : Prop := fnIsWholeRow.holds Try.pinned (OpenSpec.ofChange fnIsWholeSpec)

/-- ITS FALSE NEIGHBOUR: 'it returns false'. Refute it at one input. -/
def fnIsWholeWrong : ChangeSpec := { name := "fnIsWhole", fn := fun _ => fun
  | [d] => { results := [.lit (.bool false)], args := [d] }
  | _ => none }
def FnIsWholeWrongFalsely : Prop := fnIsWholeRow.holds Try.pinned (OpenSpec.ofChange fnIsWholeWrong)

/-- 'laws.FnWholeAt': WHATEVER THE INPUT: true; the input reads as it did. -/
def fnWholeAtSpec : ChangeSpec := { name := "fnWholeAt", fn := fun _ => fun
  | [d] => { results := [.lit (.bool true)], args := [d] }
  | _ => none }
def fnWholeAtRow : OpenClaim := { program := "yteililppbnbfhaa", sum := "a26f26ae53785a59ec80a293c8a838c22f50be5e61af0dc4eafc669702259652", func := "loop.example/linksandframes/laws.FnWholeAt", spec := "fnWholeAt", unfollowed := true, recurses := true, apart := false }
def FnWholeAtSaid : Prop := fnWholeAtRow.holds Try.pinned (OpenSpec.ofChange fnWholeAtSpec)

/-- ITS FALSE NEIGHBOUR: 'it returns false'. Refute it at one input. -/
def fnWholeAtWrong : ChangeSpec := { name := "fnWholeAt", fn := fun _ => fun
  | [d] => { results := [.lit (.bool false)], args := [d] }
  | _ => none }
def FnWholeAtWrongFalsely : Prop := fnWholeAtRow.holds Try.pinned (OpenSpec.ofChange fnWholeAtWrong)

/- THE SECOND FORM. 'bulk': how many values and letters a reading holds, each counted each time it is reached (what is shared counts as often as it is met; a slice's spare places count too). A statement '..UptoSaid' is the law's where the arguments, and the package variables that the reading takes, are together of bulk at most 1048576: NARROWER than '..Said'. Prove '..Said' where nothing that the law and all that it calls make is longer than what came in: it says more and counts as full. Else prove '..UptoSaid'. A law counts once. -/
mutual
def uptoBulk {H : Type} : DataW H → Nat
  | .lit (.string bytes) => bytes.length + 1
  | .lit _ => 1
  | .nil => 1
  | .ptr d => uptoBulk d + 1
  | .slice elems spare => uptoBulkAll elems + uptoBulkAll spare + 1
  | .agg parts => uptoBulkAll parts + 1
  | .iface _ d => uptoBulk d + 1
  | .map entries => uptoBulkEntries entries + 1
  | .held _ => 1
def uptoBulkAll {H : Type} : List (DataW H) → Nat
  | [] => 0
  | d :: r => uptoBulk d + uptoBulkAll r
def uptoBulkEntries {H : Type} : List (Lit × DataW H) → Nat
  | [] => 0
  | x :: r => uptoBulkEntry x + uptoBulkEntries r
def uptoBulkEntry {H : Type} : Lit × DataW H → Nat
  | (.string bytes, d) => bytes.length + uptoBulk d + 1
  | (_, d) => uptoBulk d + 1
 end
def uptoSmall : (H : Type) → List (DataW H) → Bool := fun _ ds => decide (uptoBulkAll ds ≤ 1048576)
def OpenSpec.upto (s : _root_.Go.ChangeSpec) : _root_.Go.OpenSpec := { _root_.Go.OpenSpec.ofChange s with cond := some uptoSmall }

/-- 'laws.FnExactHolesOf', WHERE WHAT IT READS IS OF BULK AT MOST 1048576: true; the input reads as it did. -/
def fnExactHolesOfUptoRow : OpenClaim := { program := "yteililppbnbfhaa", sum := "a26f26ae53785a59ec80a293c8a838c22f50be5e61af0dc4eafc669702259652", func := "loop.example/linksandframes/laws.FnExactHolesOf", spec := "fnExactHolesOf", unfollowed := true, recurses := true, apart := false, narrowed := true }
def FnExactHolesOfUptoSaid : Prop := fnExactHolesOfUptoRow.holds Try.pinned (OpenSpec.upto fnExactHolesOfSpec)

/-- 'laws.FnExactIsWhole', WHERE WHAT IT READS IS OF BULK AT MOST 1048576: true; the input reads as it did. -/
def fnExactIsWholeUptoRow : OpenClaim := { program := "yteililppbnbfhaa", sum := "a26f26ae53785a59ec80a293c8a838c22f50be5e61af0dc4eafc669702259652", func := "loop.example/linksandframes/laws.FnExactIsWhole", spec := "fnExactIsWhole", unfollowed := true, recurses := true, apart := false, narrowed := true }
def FnExactIsWholeUptoSaid : Prop := fnExactIsWholeUptoRow.holds Try.pinned (OpenSpec.upto fnExactIsWholeSpec)

/-- 'laws.FnExactWholeAt', WHERE WHAT IT READS IS OF BULK AT MOST 1048576: true; the input reads as it did. -/
def fnExactWholeAtUptoRow : OpenClaim := { program := "yteililppbnbfhaa", sum := "a26f26ae53785a59ec80a293c8a838c22f50be5e61af0dc4eafc669702259652", func := "loop.example/linksandframes/laws.FnExactWholeAt", spec := "fnExactWholeAt", unfollowed := true, recurses := true, apart := false, narrowed := true }
def FnExactWholeAtUptoSaid : Prop := fnExactWholeAtUptoRow.holds Try.pinned (OpenSpec.upto fnExactWholeAtSpec)

/-- 'laws.FnHolesOf', WHERE WHAT IT READS IS OF BULK AT MOST 1048576: true; the input reads as it did. -/
def fnHolesOfUptoRow : OpenClaim := { program := "yteililppbnbfhaa", sum := "a26f26ae53785a59ec80a293c8a838c22f50be5e61af0dc4eafc669702259652", func := "loop.example/linksandframes/laws.FnHolesOf", spec := "fnHolesOf", unfollowed := true, recurses := true, apart := false, narrowed := true }
def FnHolesOfUptoSaid : Prop := fnHolesOfUptoRow.holds Try.pinned (OpenSpec.upto fnHolesOfSpec)

/-- 'laws.FnIsWhole', WHERE WHAT IT READS IS OF BULK AT MOST 1048576: true; the input reads as it did. -/
def fnIsWholeUptoRow : OpenClaim := { program := "yteililppbnbfhaa", sum := "a26f26ae53785a59ec80a293c8a838c22f50be5e61af0dc4eafc669702259652", func := "loop.example/linksandframes/laws.FnIsWhole", spec := "fnIsWhole", unfollowed := true, recurses := true, apart := false, narrowed := true }
def FnIsWholeUptoSaid : Prop := fnIsWholeUptoRow.holds Try.pinned (OpenSpec.upto fnIsWholeSpec)

/-- 'laws.FnWholeAt', WHERE WHAT IT READS IS OF BULK AT MOST 1048576: true; the input reads as it did. -/
def fnWholeAtUptoRow : OpenClaim := { program := "yteililppbnbfhaa", sum := "a26f26ae53785a59ec80a293c8a838c22f50be5e61af0dc4eafc669702259652", func := "loop.example/linksandframes/laws.FnWholeAt", spec := "fnWholeAt", unfollowed := true, recurses := true, apart := false, narrowed := true }
def FnWholeAtUptoSaid : Prop := fnWholeAtUptoRow.holds Try.pinned (OpenSpec.upto fnWholeAtSpec)

end Rows
end Go.Proofs.Yteililppbnbfhaa
