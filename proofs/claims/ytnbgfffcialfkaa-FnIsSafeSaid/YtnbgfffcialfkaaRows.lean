/-
  No cell of these rows narrows 'for every input' (looked for: loops, veiled, ifaces, maps, wideKeys, modest, calm, conditions, laid).
  DERIVED. THE GIVEN ROWS OF THIS SEAT. 7 by the template 'for every input the law returns true; each argument reads behind the call as it read before'; 0 by the template 'total and deterministic' (their statements: YtnbgfffcialfkaaTotals.lean).
  GIVEN WITH THE SEED: the statements are not yours to turn. If you find one false, say at which input.
  Laid BY PROGRAM, IN A SANDBOX (cutbox-rows.mjs): the forced cells as the released guide's own fill.sh prints them over the translation f47bb586eea8a277… (all of the seat's roots in one cut). By AI agents, Wed Nov 11 2026. No macro, syntax, notation, axiom, sorry.
-/
import Derived.Test.YtnbgfffcialfkaaChecked
import GoSem.Claim
import GoSem.ClaimJoined
import GoSem.ClaimMapViews
import Derived.JoinedTies
import Derived.KernelRfl
namespace Go.Proofs.Ytnbgfffcialfkaa
/- THE CELL 'sum', in the pinned program and in every row, IS THE sha256 OF THE DUMP (.gsa) THAT YtnbgfffcialfkaaProg.lean LOADS. Nothing in Lean hashes anything: it is a label: what it is worth is what the hold of that sum in a sandbox is worth. -/
noncomputable def Try.pinned : Pinned := { name := "ytnbgfffcialfkaa", sum := "f47bb586eea8a277b246efe6e0db045596d13688f4b5868d4f952097f1cb9621", checked := Try.checked }
namespace Rows
def none {H : Type} : Left H := { results := [], args := [] }

/-- 'laws.FnExactIsSafe': WHATEVER THE INPUT: true; the input reads as it did. -/
def fnExactIsSafeSpec : ChangeSpec := { name := "fnExactIsSafe", fn := fun _ => fun
  | [d] => { results := [.lit (.bool true)], args := [d] }
  | _ => none }
def fnExactIsSafeRow : OpenClaim := { program := "ytnbgfffcialfkaa", sum := "f47bb586eea8a277b246efe6e0db045596d13688f4b5868d4f952097f1cb9621", func := "loop.example/linksandframes/laws.FnExactIsSafe", spec := "fnExactIsSafe", plainKeys := false, leaving := true, apart := false }
def FnExactIsSafeSaid : Prop := fnExactIsSafeRow.holds Try.pinned (OpenSpec.ofChange fnExactIsSafeSpec)

/-- ITS FALSE NEIGHBOUR: 'it returns false'. Refute it at one input. -/
def fnExactIsSafeWrong : ChangeSpec := { name := "fnExactIsSafe", fn := fun _ => fun
  | [d] => { results := [.lit (.bool false)], args := [d] }
  | _ => none }
def FnExactIsSafeWrongFalsely : Prop := fnExactIsSafeRow.holds Try.pinned (OpenSpec.ofChange fnExactIsSafeWrong)

/-- 'laws.FnExactLinksOf': WHATEVER THE INPUT: true; the input reads as it did. -/
def fnExactLinksOfSpec : ChangeSpec := { name := "fnExactLinksOf", fn := fun _ => fun
  | [d] => { results := [.lit (.bool true)], args := [d] }
  | _ => none }
def fnExactLinksOfRow : OpenClaim := { program := "ytnbgfffcialfkaa", sum := "f47bb586eea8a277b246efe6e0db045596d13688f4b5868d4f952097f1cb9621", func := "loop.example/linksandframes/laws.FnExactLinksOf", spec := "fnExactLinksOf", plainKeys := false, leaving := true, apart := false }
def FnExactLinksOfSaid : Prop := fnExactLinksOfRow.holds Try.pinned (OpenSpec.ofChange fnExactLinksOfSpec)

/-- ITS FALSE NEIGHBOUR: 'it returns false'. Refute it at one input. -/
def fnExactLinksOfWrong : ChangeSpec := { name := "fnExactLinksOf", fn := fun _ => fun
  | [d] => { results := [.lit (.bool false)], args := [d] }
  | _ => none }
def FnExactLinksOfWrongFalsely : Prop := fnExactLinksOfRow.holds Try.pinned (OpenSpec.ofChange fnExactLinksOfWrong)

/-- 'laws.FnExactRoundsOf': WHATEVER THE INPUT: true; the input reads as it did. -/
def fnExactRoundsOfSpec : ChangeSpec := { name := "fnExactRoundsOf", fn := fun _ => fun
  | [d1, d2] => { results := [.lit (.bool true)], args := [d1, d2] }
  | _ => none }
def fnExactRoundsOfRow : OpenClaim := { program := "ytnbgfffcialfkaa", sum := "f47bb586eea8a277b246efe6e0db045596d13688f4b5868d4f952097f1cb9621", func := "loop.example/linksandframes/laws.FnExactRoundsOf", spec := "fnExactRoundsOf", plainKeys := false, leaving := true, apart := false }
def FnExactRoundsOfSaid : Prop := fnExactRoundsOfRow.holds Try.pinned (OpenSpec.ofChange fnExactRoundsOfSpec)

/-- ITS FALSE NEIGHBOUR: 'it returns false'. Refute it at one input. -/
def fnExactRoundsOfWrong : ChangeSpec := { name := "fnExactRoundsOf", fn := fun _ => fun
  | [d1, d2] => { results := [.lit (.bool false)], args := [d1, d2] }
  | _ => none }
def FnExactRoundsOfWrongFalsely : Prop := fnExactRoundsOfRow.holds Try.pinned (OpenSpec.ofChange fnExactRoundsOfWrong)

/-- 'laws.FnRunLink': WHATEVER THE INPUT: true; the input reads as it did. -/
def fnRunLinkSpec : ChangeSpec := { name := "fnRunLink", fn := fun _ => fun
  | [d] => { results := [.lit (.bool true)], args := [d] }
  | _ => none }
def fnRunLinkRow : OpenClaim := { program := "ytnbgfffcialfkaa", sum := "f47bb586eea8a277b246efe6e0db045596d13688f4b5868d4f952097f1cb9621", func := "loop.example/linksandframes/laws.FnRunLink", spec := "fnRunLink", plainKeys := false, leaving := true, apart := false }
def FnRunLinkSaid : Prop := fnRunLinkRow.holds Try.pinned (OpenSpec.ofChange fnRunLinkSpec)

/-- ITS FALSE NEIGHBOUR: 'it returns false'. Refute it at one input. -/
def fnRunLinkWrong : ChangeSpec := { name := "fnRunLink", fn := fun _ => fun
  | [d] => { results := [.lit (.bool false)], args := [d] }
  | _ => none }
def FnRunLinkWrongFalsely : Prop := fnRunLinkRow.holds Try.pinned (OpenSpec.ofChange fnRunLinkWrong)

/-- 'laws.FnIsSafe': WHATEVER THE INPUT: true; the input reads as it did. -/
def fnIsSafeSpec : ChangeSpec := { name := "fnIsSafe", fn := fun _ => fun
  | [d] => { results := [.lit (.bool true)], args := [d] }
  | _ => none }
def fnIsSafeRow : OpenClaim := { program := "ytnbgfffcialfkaa", sum := "f47bb586eea8a277b246efe6e0db045596d13688f4b5868d4f952097f1cb9621", func := "loop.example/linksandframes/laws.FnIsSafe", spec := "fnIsSafe", plainKeys := false, leaving := true, apart := false }
def FnIsSafeSaid : Prop := fnIsSafeRow.holds Try.pinned (OpenSpec.ofChange fnIsSafeSpec)

/-- ITS FALSE NEIGHBOUR: 'it returns false'. Refute it at one input. -/
def fnIsSafeWrong : ChangeSpec := { name := "fnIsSafe", fn := fun _ => fun
  | [d] => { results := [.lit (.bool false)], args := [d] }
  | _ => none }
def FnIsSafeWrongFalsely : Prop := fnIsSafeRow.holds Try.pinned (OpenSpec.ofChange fnIsSafeWrong)

/-- 'laws.FnLinksOf': WHATEVER THE INPUT: true; the input reads as it did. -/
def fnLinksOfSpec : ChangeSpec := { name := "fnLinksOf", fn := fun _ => fun
  | [d] => { results := [.lit (.bool true)], args := [d] }
  | _ => none }
def fnLinksOfRow : OpenClaim := { program := "ytnbgfffcialfkaa", sum := "f47bb586eea8a277b246efe6e0db045596d13688f4b5868d4f952097f1cb9621", func := "loop.example/linksandframes/laws.FnLinksOf", spec := "fnLinksOf", plainKeys := false, leaving := true, apart := false }
def FnLinksOfSaid : Prop := fnLinksOfRow.holds Try.pinned (OpenSpec.ofChange fnLinksOfSpec)

/-- ITS FALSE NEIGHBOUR: 'it returns false'. Refute it at one input. -/
def fnLinksOfWrong : ChangeSpec := { name := "fnLinksOf", fn := fun _ => fun
  | [d] => { results := [.lit (.bool false)], args := [d] }
  | _ => none }
def FnLinksOfWrongFalsely : Prop := fnLinksOfRow.holds Try.pinned (OpenSpec.ofChange fnLinksOfWrong)

/-- 'laws.FnRoundsOf': WHATEVER THE INPUT: true; the input reads as it did. -/
def fnRoundsOfSpec : ChangeSpec := { name := "fnRoundsOf", fn := fun _ => fun
  | [d] => { results := [.lit (.bool true)], args := [d] }
  | _ => none }
def fnRoundsOfRow : OpenClaim := { program := "ytnbgfffcialfkaa", sum := "f47bb586eea8a277b246efe6e0db045596d13688f4b5868d4f952097f1cb9621", func := "loop.example/linksandframes/laws.FnRoundsOf", spec := "fnRoundsOf", plainKeys := false, leaving := true, apart := false }
def FnRoundsOfSaid : Prop := fnRoundsOfRow.holds Try.pinned (OpenSpec.ofChange fnRoundsOfSpec)

/-- ITS FALSE NEIGHBOUR: 'it returns false'. Refute it at one input. -/
def fnRoundsOfWrong : ChangeSpec := { name := "fnRoundsOf", fn := fun _ => fun
  | [d] => { results := [.lit (.bool false)], args := [d] }
  | _ => none }
def FnRoundsOfWrongFalsely : Prop := fnRoundsOfRow.holds Try.pinned (OpenSpec.ofChange fnRoundsOfWrong)

/- THE SECOND FORM. 'bulk': how many values and letters a reading holds, each counted each time it is reached (what is shared counts as often as it is met; a slice's spare places count too). A statement '..UptoSaid' is the law's where the arguments, and the package variables that the reading takes, are together of bulk at most 1048576: NARROWER than '..Said'. Prove '..Said' where nothing that the law and all that it calls make is longer than what came in: it says more and counts as full. Else prove '..UptoSaid'. A law counts once. -/
mutual
def uptoBulk {H : Type} : DataW H → Nat
  | .lit (.string bytes) => bytes.length + 1
  | .lit _ => 1
  | .nil => 1
  | .ptr d => uptoBulk d + 1
  | .slice elems spare => uptoBulkAll elems + uptoBulkAll spare + 1
  | .agg parts => uptoBulkAll parts + 1
  | .iface _ d => uptoBulk d + 1
  | .map entries => uptoBulkEntries entries + 1
  | .held _ => 1
def uptoBulkAll {H : Type} : List (DataW H) → Nat
  | [] => 0
  | d :: r => uptoBulk d + uptoBulkAll r
def uptoBulkEntries {H : Type} : List (Lit × DataW H) → Nat
  | [] => 0
  | x :: r => uptoBulkEntry x + uptoBulkEntries r
def uptoBulkEntry {H : Type} : Lit × DataW H → Nat
  | (.string bytes, d) => bytes.length + uptoBulk d + 1
  | (_, d) => uptoBulk d + 1
 end
def uptoSmall : (H : Type) → List (DataW H) → Bool := fun _ ds => decide (uptoBulkAll ds ≤ 1048576)
def OpenSpec.upto (s : _root_.Go.ChangeSpec) : _root_.Go.OpenSpec := { _root_.Go.OpenSpec.ofChange s with cond := some uptoSmall }

/-- 'laws.FnExactIsSafe', WHERE WHAT IT READS IS OF BULK AT MOST 1048576: true; the input reads as it did. -/
def fnExactIsSafeUptoRow : OpenClaim := { program := "ytnbgfffcialfkaa", sum := "f47bb586eea8a277b246efe6e0db045596d13688f4b5868d4f952097f1cb9621", func := "loop.example/linksandframes/laws.FnExactIsSafe", spec := "fnExactIsSafe", plainKeys := false, leaving := true, apart := false, narrowed := true }
def FnExactIsSafeUptoSaid : Prop := fnExactIsSafeUptoRow.holds Try.pinned (OpenSpec.upto fnExactIsSafeSpec)

/-- 'laws.FnExactLinksOf', WHERE WHAT IT READS IS OF BULK AT MOST 1048576: true; the input reads as it did. -/
def fnExactLinksOfUptoRow : OpenClaim := { program := "ytnbgfffcialfkaa", sum := "f47bb586eea8a277b246efe6e0db045596d13688f4b5868d4f952097f1cb9621", func := "loop.example/linksandframes/laws.FnExactLinksOf", spec := "fnExactLinksOf", plainKeys := false, leaving := true, apart := false, narrowed := true }
def FnExactLinksOfUptoSaid : Prop := fnExactLinksOfUptoRow.holds Try.pinned (OpenSpec.upto fnExactLinksOfSpec)

/-- 'laws.FnExactRoundsOf', WHERE WHAT IT READS IS OF BULK AT MOST 1048576: true; the input reads as it did. -/
def fnExactRoundsOfUptoRow : OpenClaim := { program := "ytnbgfffcialfkaa", sum := "f47bb586eea8a277b246efe6e0db045596d13688f4b5868d4f952097f1cb9621", func := "loop.example/linksandframes/laws.FnExactRoundsOf", spec := "fnExactRoundsOf", plainKeys := false, leaving := true, apart := false, narrowed := true }
def FnExactRoundsOfUptoSaid : Prop := fnExactRoundsOfUptoRow.holds Try.pinned (OpenSpec.upto fnExactRoundsOfSpec)

/-- 'laws.FnRunLink', WHERE WHAT IT READS IS OF BULK AT MOST 1048576: true; the input reads as it did. -/
def fnRunLinkUptoRow : OpenClaim := { program := "ytnbgfffcialfkaa", sum := "f47bb586eea8a277b246efe6e0db045596d13688f4b5868d4f952097f1cb9621", func := "loop.example/linksandframes/laws.FnRunLink", spec := "fnRunLink", plainKeys := false, leaving := true, apart := false, narrowed := true }
def FnRunLinkUptoSaid : Prop := fnRunLinkUptoRow.holds Try.pinned (OpenSpec.upto fnRunLinkSpec)

/-- 'laws.FnIsSafe', WHERE WHAT IT READS IS OF BULK AT MOST 1048576: true; the input reads as it did. -/
def fnIsSafeUptoRow : OpenClaim := { program := "ytnbgfffcialfkaa", sum := "f47bb586eea8a277b246efe6e0db045596d13688f4b5868d4f952097f1cb9621", func := "loop.example/linksandframes/laws.FnIsSafe", spec := "fnIsSafe", plainKeys := false, leaving := true, apart := false, narrowed := true }
def FnIsSafeUptoSaid : Prop := fnIsSafeUptoRow.holds Try.pinned (OpenSpec.upto fnIsSafeSpec)

/-- 'laws.FnLinksOf', WHERE WHAT IT READS IS OF BULK AT MOST 1048576: true; the input reads as it did. -/
def fnLinksOfUptoRow : OpenClaim := { program := "ytnbgfffcialfkaa", sum := "f47bb586eea8a277b246efe6e0db045596d13688f4b5868d4f952097f1cb9621", func := "loop.example/linksandframes/laws.FnLinksOf", spec := "fnLinksOf", plainKeys := false, leaving := true, apart := false, narrowed := true }
def FnLinksOfUptoSaid : Prop := fnLinksOfUptoRow.holds Try.pinned (OpenSpec.upto fnLinksOfSpec)

/-- 'laws.FnRoundsOf', WHERE WHAT IT READS IS OF BULK AT MOST 1048576: true; the input reads as it did. -/
def fnRoundsOfUptoRow : OpenClaim := { program := "ytnbgfffcialfkaa", sum := "f47bb586eea8a277b246efe6e0db045596d13688f4b5868d4f952097f1cb9621", func := "loop.example/linksandframes/laws.FnRoundsOf", spec := "fnRoundsOf", plainKeys := false, leaving := true, apart := false, narrowed := true }
def FnRoundsOfUptoSaid : Prop := fnRoundsOfUptoRow.holds Try.pinned (OpenSpec.upto fnRoundsOfSpec)

end Rows
end Go.Proofs.Ytnbgfffcialfkaa
