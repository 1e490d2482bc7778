/-
  No cell of these rows narrows 'for every input' (looked for: loops, veiled, ifaces, maps, wideKeys, modest, calm, conditions, laid).
  DERIVED. THE GIVEN ROWS OF THIS SEAT. 4 by the template 'for every input the law returns true; each argument reads behind the call as it read before'; 0 by the template 'total and deterministic' (their statements: YtimlmbbegeaakaaTotals.lean).
  GIVEN WITH THE SEED: the statements are not yours to turn. If you find one false, say at which input.
  Laid BY PROGRAM, IN A SANDBOX (cutbox-rows.mjs): the forced cells as the released guide's own fill.sh prints them over the translation b1facc3da9664ffe… (all of the seat's roots in one cut). By AI agents, Wed Nov 11 2026. No macro, syntax, notation, axiom, sorry.
-/
import Derived.Test.YtimlmbbegeaakaaChecked
import GoSem.Claim
import GoSem.ClaimJoined
import GoSem.ClaimMapViews
import Derived.JoinedTies
import Derived.KernelRfl
namespace Go.Proofs.Ytimlmbbegeaakaa
/- THE CELL 'sum', in the pinned program and in every row, IS THE sha256 OF THE DUMP (.gsa) THAT YtimlmbbegeaakaaProg.lean LOADS. Nothing in Lean hashes anything: it is a label: what it is worth is what the hold of that sum in a sandbox is worth. -/
noncomputable def Try.pinned : Pinned := { name := "ytimlmbbegeaakaa", sum := "b1facc3da9664ffec828362b4d235bf88218ae57bc6a333bcbcfb6166e00f836", checked := Try.checked }
namespace Rows
def none {H : Type} : Left H := { results := [], args := [] }

/-- 'laws.FnExactPointBytes': WHATEVER THE INPUT: true; the input reads as it did. -/
def fnExactPointBytesSpec : ChangeSpec := { name := "fnExactPointBytes", fn := fun _ => fun
  | [d] => { results := [.lit (.bool true)], args := [d] }
  | _ => none }
def fnExactPointBytesRow : OpenClaim := { program := "ytimlmbbegeaakaa", sum := "b1facc3da9664ffec828362b4d235bf88218ae57bc6a333bcbcfb6166e00f836", func := "loop.example/linksandframes/laws.FnExactPointBytes", spec := "fnExactPointBytes", apart := false }
def FnExactPointBytesSaid : Prop := fnExactPointBytesRow.holds Try.pinned (OpenSpec.ofChange fnExactPointBytesSpec)

/-- ITS FALSE NEIGHBOUR: 'it returns false'. Refute it at one input. -/
def fnExactPointBytesWrong : ChangeSpec := { name := "fnExactPointBytes", fn := fun _ => fun
  | [d] => { results := [.lit (.bool false)], args := [d] }
  | _ => none }
def FnExactPointBytesWrongFalsely : Prop := fnExactPointBytesRow.holds Try.pinned (OpenSpec.ofChange fnExactPointBytesWrong)

/-- 'laws.FnExactUnpointBytes': WHATEVER THE INPUT: true; the input reads as it did. -/
def fnExactUnpointBytesSpec : ChangeSpec := { name := "fnExactUnpointBytes", fn := fun _ => fun
  | [d] => { results := [.lit (.bool true)], args := [d] }
  | _ => none }
def fnExactUnpointBytesRow : OpenClaim := { program := "ytimlmbbegeaakaa", sum := "b1facc3da9664ffec828362b4d235bf88218ae57bc6a333bcbcfb6166e00f836", func := "loop.example/linksandframes/laws.FnExactUnpointBytes", spec := "fnExactUnpointBytes", apart := false }
def FnExactUnpointBytesSaid : Prop := fnExactUnpointBytesRow.holds Try.pinned (OpenSpec.ofChange fnExactUnpointBytesSpec)

/-- ITS FALSE NEIGHBOUR: 'it returns false'. Refute it at one input. -/
def fnExactUnpointBytesWrong : ChangeSpec := { name := "fnExactUnpointBytes", fn := fun _ => fun
  | [d] => { results := [.lit (.bool false)], args := [d] }
  | _ => none }
def FnExactUnpointBytesWrongFalsely : Prop := fnExactUnpointBytesRow.holds Try.pinned (OpenSpec.ofChange fnExactUnpointBytesWrong)

/-- 'laws.FnPointBytes': WHATEVER THE INPUT: true; the input reads as it did. -/
def fnPointBytesSpec : ChangeSpec := { name := "fnPointBytes", fn := fun _ => fun
  | [d] => { results := [.lit (.bool true)], args := [d] }
  | _ => none }
def fnPointBytesRow : OpenClaim := { program := "ytimlmbbegeaakaa", sum := "b1facc3da9664ffec828362b4d235bf88218ae57bc6a333bcbcfb6166e00f836", func := "loop.example/linksandframes/laws.FnPointBytes", spec := "fnPointBytes", apart := false }
def FnPointBytesSaid : Prop := fnPointBytesRow.holds Try.pinned (OpenSpec.ofChange fnPointBytesSpec)

/-- ITS FALSE NEIGHBOUR: 'it returns false'. Refute it at one input. -/
def fnPointBytesWrong : ChangeSpec := { name := "fnPointBytes", fn := fun _ => fun
  | [d] => { results := [.lit (.bool false)], args := [d] }
  | _ => none }
def FnPointBytesWrongFalsely : Prop := fnPointBytesRow.holds Try.pinned (OpenSpec.ofChange fnPointBytesWrong)

/-- 'laws.FnUnpointBytes': WHATEVER THE INPUT: true; the input reads as it did. -/
def fnUnpointBytesSpec : ChangeSpec := { name := "fnUnpointBytes", fn := fun _ => fun
  | [d] => { results := [.lit (.bool true)], args := [d] }
  | _ => none }
def fnUnpointBytesRow : OpenClaim := { program := "ytimlmbbegeaakaa", sum := "b1facc3da9664ffec828362b4d235bf88218ae57bc6a333bcbcfb6166e00f836", func := "loop.example/linksandframes/laws.FnUnpointBytes", spec := "fnUnpointBytes", apart := false }
def FnUnpointBytesSaid : Prop := fnUnpointBytesRow.holds Try.pinned (OpenSpec.ofChange fnUnpointBytesSpec)

/-- ITS FALSE NEIGHBOUR: 'it returns false'. Refute it at one input. -/
def fnUnpointBytesWrong : ChangeSpec := { name := "fnUnpointBytes", fn := fun _ => fun
  | [d] => { results := [.lit (.bool false)], args := [d] }
  | _ => none }
def FnUnpointBytesWrongFalsely : Prop := fnUnpointBytesRow.holds Try.pinned (OpenSpec.ofChange fnUnpointBytesWrong)

/- THE SECOND FORM. 'bulk': how many values and letters a reading holds, each counted each time it is reached (what is shared counts as often as it is met; a slice's spare places count too). A statement '..UptoSaid' is the law's where the arguments, and the package variables that the reading takes, are together of bulk at most 1048576: NARROWER than '..Said'. Prove '..Said' where nothing that the law and all that it calls make is longer than what came in: it says more and counts as full. Else prove '..UptoSaid'. A law counts once. -/
mutual
def uptoBulk {H : Type} : DataW H → Nat
  | .lit (.string bytes) => bytes.length + 1
  | .lit _ => 1
  | .nil => 1
  | .ptr d => uptoBulk d + 1
  | .slice elems spare => uptoBulkAll elems + uptoBulkAll spare + 1
  | .agg parts => uptoBulkAll parts + 1
  | .iface _ d => uptoBulk d + 1
  | .map entries => uptoBulkEntries entries + 1
  | .held _ => 1
def uptoBulkAll {H : Type} : List (DataW H) → Nat
  | [] => 0
  | d :: r => uptoBulk d + uptoBulkAll r
def uptoBulkEntries {H : Type} : List (Lit × DataW H) → Nat
  | [] => 0
  | x :: r => uptoBulkEntry x + uptoBulkEntries r
def uptoBulkEntry {H : Type} : Lit × DataW H → Nat
  | (.string bytes, d) => bytes.length + uptoBulk d + 1
  | (_, d) => uptoBulk d + 1
 end
def uptoSmall : (H : Type) → List (DataW H) → Bool := fun _ ds => decide (uptoBulkAll ds ≤ 1048576)
def OpenSpec.upto (s : _root_.Go.ChangeSpec) : _root_.Go.OpenSpec := { _root_.Go.OpenSpec.ofChange s with cond := some uptoSmall }

/-- 'laws.FnExactPointBytes', WHERE WHAT IT READS IS OF BULK AT MOST 1048576: true; the input reads as it did. -/
def fnExactPointBytesUptoRow : OpenClaim := { program := "ytimlmbbegeaakaa", sum := "b1facc3da9664ffec828362b4d235bf88218ae57bc6a333bcbcfb6166e00f836", func := "loop.example/linksandframes/laws.FnExactPointBytes", spec := "fnExactPointBytes", apart := false, narrowed := true }
def FnExactPointBytesUptoSaid : Prop := fnExactPointBytesUptoRow.holds Try.pinned (OpenSpec.upto fnExactPointBytesSpec)

/-- 'laws.FnExactUnpointBytes', WHERE WHAT IT READS IS OF BULK AT MOST 1048576: true; the input reads as it did. -/
def fnExactUnpointBytesUptoRow : OpenClaim := { program := "ytimlmbbegeaakaa", sum := "b1facc3da9664ffec828362b4d235bf88218ae57bc6a333bcbcfb6166e00f836", func := "loop.example/linksandframes/laws.FnExactUnpointBytes", spec := "fnExactUnpointBytes", apart := false, narrowed := true }
def FnExactUnpointBytesUptoSaid : Prop := fnExactUnpointBytesUptoRow.holds Try.pinned (OpenSpec.upto fnExactUnpointBytesSpec)

/-- 'laws.FnPointBytes', WHERE WHAT IT READS IS OF BULK AT MOST 1048576: true; the input reads as it did. -/
def fnPointBytesUptoRow : OpenClaim := { program := "ytimlmbbegeaakaa", sum := "b1facc3da9664ffec828362b4d235bf88218ae57bc6a333bcbcfb6166e00f836", func := "loop.example/linksandframes/laws.FnPointBytes", spec := "fnPointBytes", apart := false, narrowed := true }
def FnPointBytesUptoSaid : Prop := fnPointBytesUptoRow.holds Try.pinned (OpenSpec.upto fnPointBytesSpec)

/-- 'laws.FnUnpointBytes', WHERE WHAT IT READS IS OF BULK AT MOST 1048576: true; the input reads as it did. -/
def fnUnpointBytesUptoRow : OpenClaim := { program := "ytimlmbbegeaakaa", sum := "b1facc3da9664ffec828362b4d235bf88218ae57bc6a333bcbcfb6166e00f836", func := "loop.example/linksandframes/laws.FnUnpointBytes", spec := "fnUnpointBytes", apart := false, narrowed := true }
def FnUnpointBytesUptoSaid : Prop := fnUnpointBytesUptoRow.holds Try.pinned (OpenSpec.upto fnUnpointBytesSpec)

end Rows
end Go.Proofs.Ytimlmbbegeaakaa
