/-
  No cell of these rows narrows 'for every input' (looked for: loops, veiled, ifaces, maps, wideKeys, modest, calm, conditions, laid).
  DERIVED. THE GIVEN ROWS OF THIS SEAT. 3 by the template 'for every input the law returns true; each argument reads behind the call as it read before'; 0 by the template 'total and deterministic' (their statements: YthogkhifgkgplaaTotals.lean).
  GIVEN WITH THE SEED: the statements are not yours to turn. If you find one false, say at which input.
  Laid BY PROGRAM, IN A SANDBOX (cutbox-rows.mjs): the forced cells as the released guide's own fill.sh prints them over the translation d7e2b6f7ff8b33ed… (all of the seat's roots in one cut). By AI agents, Wed Nov 11 2026. No macro, syntax, notation, axiom, sorry.
-/
import Derived.Test.YthogkhifgkgplaaChecked
import GoSem.Claim
import GoSem.ClaimJoined
import GoSem.ClaimMapViews
import Derived.JoinedTies
import Derived.KernelRfl
namespace Go.Proofs.Ythogkhifgkgplaa
/- THE CELL 'sum', in the pinned program and in every row, IS THE sha256 OF THE DUMP (.gsa) THAT YthogkhifgkgplaaProg.lean LOADS. Nothing in Lean hashes anything: it is a label: what it is worth is what the hold of that sum in a sandbox is worth. -/
noncomputable def Try.pinned : Pinned := { name := "ythogkhifgkgplaa", sum := "d7e2b6f7ff8b33ed6ba7c122532140a32e6fc79cdfc222153e966df943d74df2", checked := Try.checked }
namespace Rows
def none {H : Type} : Left H := { results := [], args := [] }

/-- 'laws.FnExactPackFields': WHATEVER THE INPUT: true; the input reads as it did. -/
def fnExactPackFieldsSpec : ChangeSpec := { name := "fnExactPackFields", fn := fun _ => fun
  | [d] => { results := [.lit (.bool true)], args := [d] }
  | _ => none }
def fnExactPackFieldsRow : OpenClaim := { program := "ythogkhifgkgplaa", sum := "d7e2b6f7ff8b33ed6ba7c122532140a32e6fc79cdfc222153e966df943d74df2", func := "loop.example/linksandframes/laws.FnExactPackFields", spec := "fnExactPackFields", apart := false }
def FnExactPackFieldsSaid : Prop := fnExactPackFieldsRow.holds Try.pinned (OpenSpec.ofChange fnExactPackFieldsSpec)

/-- ITS FALSE NEIGHBOUR: 'it returns false'. Refute it at one input. -/
def fnExactPackFieldsWrong : ChangeSpec := { name := "fnExactPackFields", fn := fun _ => fun
  | [d] => { results := [.lit (.bool false)], args := [d] }
  | _ => none }
def FnExactPackFieldsWrongFalsely : Prop := fnExactPackFieldsRow.holds Try.pinned (OpenSpec.ofChange fnExactPackFieldsWrong)

/-- 'laws.FnExactLastOf': WHATEVER THE INPUT: true; the input reads as it did. -/
def fnExactLastOfSpec : ChangeSpec := { name := "fnExactLastOf", fn := fun _ => fun
  | [d1, d2] => { results := [.lit (.bool true)], args := [d1, d2] }
  | _ => none }
def fnExactLastOfRow : OpenClaim := { program := "ythogkhifgkgplaa", sum := "d7e2b6f7ff8b33ed6ba7c122532140a32e6fc79cdfc222153e966df943d74df2", func := "loop.example/linksandframes/laws.FnExactLastOf", spec := "fnExactLastOf", apart := false }
def FnExactLastOfSaid : Prop := fnExactLastOfRow.holds Try.pinned (OpenSpec.ofChange fnExactLastOfSpec)

/-- ITS FALSE NEIGHBOUR: 'it returns false'. Refute it at one input. -/
def fnExactLastOfWrong : ChangeSpec := { name := "fnExactLastOf", fn := fun _ => fun
  | [d1, d2] => { results := [.lit (.bool false)], args := [d1, d2] }
  | _ => none }
def FnExactLastOfWrongFalsely : Prop := fnExactLastOfRow.holds Try.pinned (OpenSpec.ofChange fnExactLastOfWrong)

/-- 'laws.FnLastOf': WHATEVER THE INPUT: true; the input reads as it did. -/
def fnLastOfSpec : ChangeSpec := { name := "fnLastOf", fn := fun _ => fun
  | [d] => { results := [.lit (.bool true)], args := [d] }
  | _ => none }
def fnLastOfRow : OpenClaim := { program := "ythogkhifgkgplaa", sum := "d7e2b6f7ff8b33ed6ba7c122532140a32e6fc79cdfc222153e966df943d74df2", func := "loop.example/linksandframes/laws.FnLastOf", spec := "fnLastOf", apart := false }
def FnLastOfSaid : Prop := fnLastOfRow.holds Try.pinned (OpenSpec.ofChange fnLastOfSpec)

/-- ITS FALSE NEIGHBOUR: 'it returns false'. Refute it at one input. -/
def fnLastOfWrong : ChangeSpec := { name := "fnLastOf", fn := fun _ => fun
  | [d] => { results := [.lit (.bool false)], args := [d] }
  | _ => none }
def FnLastOfWrongFalsely : Prop := fnLastOfRow.holds Try.pinned (OpenSpec.ofChange fnLastOfWrong)

/- THE SECOND FORM. 'bulk': how many values and letters a reading holds, each counted each time it is reached (what is shared counts as often as it is met; a slice's spare places count too). A statement '..UptoSaid' is the law's where the arguments, and the package variables that the reading takes, are together of bulk at most 1048576: NARROWER than '..Said'. Prove '..Said' where nothing that the law and all that it calls make is longer than what came in: it says more and counts as full. Else prove '..UptoSaid'. A law counts once. -/
mutual
def uptoBulk {H : Type} : DataW H → Nat
  | .lit (.string bytes) => bytes.length + 1
  | .lit _ => 1
  | .nil => 1
  | .ptr d => uptoBulk d + 1
  | .slice elems spare => uptoBulkAll elems + uptoBulkAll spare + 1
  | .agg parts => uptoBulkAll parts + 1
  | .iface _ d => uptoBulk d + 1
  | .map entries => uptoBulkEntries entries + 1
  | .held _ => 1
def uptoBulkAll {H : Type} : List (DataW H) → Nat
  | [] => 0
  | d :: r => uptoBulk d + uptoBulkAll r
def uptoBulkEntries {H : Type} : List (Lit × DataW H) → Nat
  | [] => 0
  | x :: r => uptoBulkEntry x + uptoBulkEntries r
def uptoBulkEntry {H : Type} : Lit × DataW H → Nat
  | (.string bytes, d) => bytes.length + uptoBulk d + 1
  | (_, d) => uptoBulk d + 1
 end
def uptoSmall : (H : Type) → List (DataW H) → Bool := fun _ ds => decide (uptoBulkAll ds ≤ 1048576)
def OpenSpec.upto (s : _root_.Go.ChangeSpec) : _root_.Go.OpenSpec := { _root_.Go.OpenSpec.ofChange s with cond := some uptoSmall }

/-- 'laws.FnExactPackFields', WHERE WHAT IT READS IS OF BULK AT MOST 1048576: true; the input reads as it did. -/
def fnExactPackFieldsUptoRow : OpenClaim := { program := "ythogkhifgkgplaa", sum := "d7e2b6f7ff8b33ed6ba7c122532140a32e6fc79cdfc222153e966df943d74df2", func := "loop.example/linksandframes/laws.FnExactPackFields", spec := "fnExactPackFields", apart := false, narrowed := true }
def FnExactPackFieldsUptoSaid : Prop := fnExactPackFieldsUptoRow.holds Try.pinned (OpenSpec.upto fnExactPackFieldsSpec)

/-- 'laws.FnExactLastOf', WHERE WHAT IT READS IS OF BULK AT MOST 1048576: true; the input reads as it did. -/
def fnExactLastOfUptoRow : OpenClaim := { program := "ythogkhifgkgplaa", sum := "d7e2b6f7ff8b33ed6ba7c122532140a32e6fc79cdfc222153e966df943d74df2", func := "loop.example/linksandframes/laws.FnExactLastOf", spec := "fnExactLastOf", apart := false, narrowed := true }
def FnExactLastOfUptoSaid : Prop := fnExactLastOfUptoRow.holds Try.pinned (OpenSpec.upto fnExactLastOfSpec)

/-- 'laws.FnLastOf', WHERE WHAT IT READS IS OF BULK AT MOST 1048576: true; the input reads as it did. -/
def fnLastOfUptoRow : OpenClaim := { program := "ythogkhifgkgplaa", sum := "d7e2b6f7ff8b33ed6ba7c122532140a32e6fc79cdfc222153e966df943d74df2", func := "loop.example/linksandframes/laws.FnLastOf", spec := "fnLastOf", apart := false, narrowed := true }
def FnLastOfUptoSaid : Prop := fnLastOfUptoRow.holds Try.pinned (OpenSpec.upto fnLastOfSpec)

end Rows
end Go.Proofs.Ythogkhifgkgplaa
