/-
  No cell of these rows narrows 'for every input' (looked for: loops, veiled, ifaces, maps, wideKeys, modest, calm, conditions, laid).
  DERIVED. THE GIVEN ROWS OF THIS SEAT. 4 by the template 'for every input the law returns true; each argument reads behind the call as it read before'; 0 by the template 'total and deterministic' (their statements: YtpneopldbeefhaaTotals.lean).
  GIVEN WITH THE SEED: the statements are not yours to turn. If you find one false, say at which input.
  Laid BY PROGRAM, IN A SANDBOX (cutbox-rows.mjs): the forced cells as the released guide's own fill.sh prints them over the translation 0683ca4c3686681d… (all of the seat's roots in one cut). By AI agents, Wed Nov 11 2026. No macro, syntax, notation, axiom, sorry.
-/
import Derived.Test.YtpneopldbeefhaaChecked
import GoSem.Claim
import GoSem.ClaimJoined
import GoSem.ClaimMapViews
import Derived.JoinedTies
import Derived.KernelRfl
namespace Go.Proofs.Ytpneopldbeefhaa
/- THE CELL 'sum', in the pinned program and in every row, IS THE sha256 OF THE DUMP (.gsa) THAT YtpneopldbeefhaaProg.lean LOADS. Nothing in Lean hashes anything: it is a label: what it is worth is what the hold of that sum in a sandbox is worth. -/
noncomputable def Try.pinned : Pinned := { name := "ytpneopldbeefhaa", sum := "0683ca4c3686681d99a66a2005e5a978c0a63b8eb02066747a7e87498a3a5006", checked := Try.checked }
namespace Rows
def none {H : Type} : Left H := { results := [], args := [] }

/-- 'laws.FnExactCycleOf': WHATEVER THE INPUT: true; the input reads as it did. -/
def fnExactCycleOfSpec : ChangeSpec := { name := "fnExactCycleOf", fn := fun _ => fun
  | [d] => { results := [.lit (.bool true)], args := [d] }
  | _ => none }
def fnExactCycleOfRow : OpenClaim := { program := "ytpneopldbeefhaa", sum := "0683ca4c3686681d99a66a2005e5a978c0a63b8eb02066747a7e87498a3a5006", func := "loop.example/linksandframes/laws.FnExactCycleOf", spec := "fnExactCycleOf", apart := false }
def FnExactCycleOfSaid : Prop := fnExactCycleOfRow.holds Try.pinned (OpenSpec.ofChange fnExactCycleOfSpec)

/-- ITS FALSE NEIGHBOUR: 'it returns false'. Refute it at one input. -/
def fnExactCycleOfWrong : ChangeSpec := { name := "fnExactCycleOf", fn := fun _ => fun
  | [d] => { results := [.lit (.bool false)], args := [d] }
  | _ => none }
def FnExactCycleOfWrongFalsely : Prop := fnExactCycleOfRow.holds Try.pinned (OpenSpec.ofChange fnExactCycleOfWrong)

/-- 'laws.FnExactBlindOf': WHATEVER THE INPUT: true; the input reads as it did. -/
def fnExactBlindOfSpec : ChangeSpec := { name := "fnExactBlindOf", fn := fun _ => fun
  | [d1, d2] => { results := [.lit (.bool true)], args := [d1, d2] }
  | _ => none }
def fnExactBlindOfRow : OpenClaim := { program := "ytpneopldbeefhaa", sum := "0683ca4c3686681d99a66a2005e5a978c0a63b8eb02066747a7e87498a3a5006", func := "loop.example/linksandframes/laws.FnExactBlindOf", spec := "fnExactBlindOf", apart := false }
def FnExactBlindOfSaid : Prop := fnExactBlindOfRow.holds Try.pinned (OpenSpec.ofChange fnExactBlindOfSpec)

/-- ITS FALSE NEIGHBOUR: 'it returns false'. Refute it at one input. -/
def fnExactBlindOfWrong : ChangeSpec := { name := "fnExactBlindOf", fn := fun _ => fun
  | [d1, d2] => { results := [.lit (.bool false)], args := [d1, d2] }
  | _ => none }
def FnExactBlindOfWrongFalsely : Prop := fnExactBlindOfRow.holds Try.pinned (OpenSpec.ofChange fnExactBlindOfWrong)

/-- 'laws.FnBlindOf': WHATEVER THE INPUT: true; the input reads as it did. -/
def fnBlindOfSpec : ChangeSpec := { name := "fnBlindOf", fn := fun _ => fun
  | [d] => { results := [.lit (.bool true)], args := [d] }
  | _ => none }
def fnBlindOfRow : OpenClaim := { program := "ytpneopldbeefhaa", sum := "0683ca4c3686681d99a66a2005e5a978c0a63b8eb02066747a7e87498a3a5006", func := "loop.example/linksandframes/laws.FnBlindOf", spec := "fnBlindOf", apart := false }
def FnBlindOfSaid : Prop := fnBlindOfRow.holds Try.pinned (OpenSpec.ofChange fnBlindOfSpec)

/-- ITS FALSE NEIGHBOUR: 'it returns false'. Refute it at one input. -/
def fnBlindOfWrong : ChangeSpec := { name := "fnBlindOf", fn := fun _ => fun
  | [d] => { results := [.lit (.bool false)], args := [d] }
  | _ => none }
def FnBlindOfWrongFalsely : Prop := fnBlindOfRow.holds Try.pinned (OpenSpec.ofChange fnBlindOfWrong)

/-- 'laws.FnCycleOf': WHATEVER THE INPUT: true; the input reads as it did. -/
def fnCycleOfSpec : ChangeSpec := { name := "fnCycleOf", fn := fun _ => fun
  | [d] => { results := [.lit (.bool true)], args := [d] }
  | _ => none }
def fnCycleOfRow : OpenClaim := { program := "ytpneopldbeefhaa", sum := "0683ca4c3686681d99a66a2005e5a978c0a63b8eb02066747a7e87498a3a5006", func := "loop.example/linksandframes/laws.FnCycleOf", spec := "fnCycleOf", apart := false }
def FnCycleOfSaid : Prop := fnCycleOfRow.holds Try.pinned (OpenSpec.ofChange fnCycleOfSpec)

/-- ITS FALSE NEIGHBOUR: 'it returns false'. Refute it at one input. -/
def fnCycleOfWrong : ChangeSpec := { name := "fnCycleOf", fn := fun _ => fun
  | [d] => { results := [.lit (.bool false)], args := [d] }
  | _ => none }
def FnCycleOfWrongFalsely : Prop := fnCycleOfRow.holds Try.pinned (OpenSpec.ofChange fnCycleOfWrong)

/- THE SECOND FORM. 'bulk': how many values and letters a reading holds, each counted each time it is reached (what is shared counts as often as it is met; a slice's spare places count too). A statement '..UptoSaid' is the law's where the arguments, and the package variables that the reading takes, are together of bulk at most 1048576: NARROWER than '..Said'. Prove '..Said' where nothing that the law and all that it calls make is longer than what came in: it says more and counts as full. Else prove '..UptoSaid'. A law counts once. -/
mutual
def uptoBulk {H : Type} : DataW H → Nat
  | .lit (.string bytes) => bytes.length + 1
  | .lit _ => 1
  | .nil => 1
  | .ptr d => uptoBulk d + 1
  | .slice elems spare => uptoBulkAll elems + uptoBulkAll spare + 1
  | .agg parts => uptoBulkAll parts + 1
  | .iface _ d => uptoBulk d + 1
  | .map entries => uptoBulkEntries entries + 1
  | .held _ => 1
def uptoBulkAll {H : Type} : List (DataW H) → Nat
  | [] => 0
  | d :: r => uptoBulk d + uptoBulkAll r
def uptoBulkEntries {H : Type} : List (Lit × DataW H) → Nat
  | [] => 0
  | x :: r => uptoBulkEntry x + uptoBulkEntries r
def uptoBulkEntry {H : Type} : Lit × DataW H → Nat
  | (.string bytes, d) => bytes.length + uptoBulk d + 1
  | (_, d) => uptoBulk d + 1
 end
def uptoSmall : (H : Type) → List (DataW H) → Bool := fun _ ds => decide (uptoBulkAll ds ≤ 1048576)
def OpenSpec.upto (s : _root_.Go.ChangeSpec) : _root_.Go.OpenSpec := { _root_.Go.OpenSpec.ofChange s with cond := some uptoSmall }

/-- 'laws.FnExactCycleOf', WHERE WHAT IT READS IS OF BULK AT MOST 1048576: true; the input reads as it did. -/
def fnExactCycleOfUptoRow : OpenClaim := { program := "ytpneopldbeefhaa", sum := "0683ca4c3686681d99a66a2005e5a978c0a63b8eb02066747a7e87498a3a5006", func := "loop.example/linksandframes/laws.FnExactCycleOf", spec := "fnExactCycleOf", apart := false, narrowed := true }
def FnExactCycleOfUptoSaid : Prop := fnExactCycleOfUptoRow.holds Try.pinned (OpenSpec.upto fnExactCycleOfSpec)

/-- 'laws.FnExactBlindOf', WHERE WHAT IT READS IS OF BULK AT MOST 1048576: true; the input reads as it did. -/
def fnExactBlindOfUptoRow : OpenClaim := { program := "ytpneopldbeefhaa", sum := "0683ca4c3686681d99a66a2005e5a978c0a63b8eb02066747a7e87498a3a5006", func := "loop.example/linksandframes/laws.FnExactBlindOf", spec := "fnExactBlindOf", apart := false, narrowed := true }
def FnExactBlindOfUptoSaid : Prop := fnExactBlindOfUptoRow.holds Try.pinned (OpenSpec.upto fnExactBlindOfSpec)

/-- 'laws.FnBlindOf', WHERE WHAT IT READS IS OF BULK AT MOST 1048576: true; the input reads as it did. -/
def fnBlindOfUptoRow : OpenClaim := { program := "ytpneopldbeefhaa", sum := "0683ca4c3686681d99a66a2005e5a978c0a63b8eb02066747a7e87498a3a5006", func := "loop.example/linksandframes/laws.FnBlindOf", spec := "fnBlindOf", apart := false, narrowed := true }
def FnBlindOfUptoSaid : Prop := fnBlindOfUptoRow.holds Try.pinned (OpenSpec.upto fnBlindOfSpec)

/-- 'laws.FnCycleOf', WHERE WHAT IT READS IS OF BULK AT MOST 1048576: true; the input reads as it did. -/
def fnCycleOfUptoRow : OpenClaim := { program := "ytpneopldbeefhaa", sum := "0683ca4c3686681d99a66a2005e5a978c0a63b8eb02066747a7e87498a3a5006", func := "loop.example/linksandframes/laws.FnCycleOf", spec := "fnCycleOf", apart := false, narrowed := true }
def FnCycleOfUptoSaid : Prop := fnCycleOfUptoRow.holds Try.pinned (OpenSpec.upto fnCycleOfSpec)

end Rows
end Go.Proofs.Ytpneopldbeefhaa
