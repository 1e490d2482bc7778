/-
  No cell of these rows narrows 'for every input' (looked for: loops, veiled, ifaces, maps, wideKeys, modest, calm, conditions, laid).
  DERIVED. THE GIVEN ROWS OF THIS SEAT. 8 by the template 'for every input the law returns true; each argument reads behind the call as it read before'; 0 by the template 'total and deterministic' (their statements: YtgoafhmmaepcjaaTotals.lean).
  GIVEN WITH THE SEED: the statements are not yours to turn. If you find one false, say at which input.
  Laid BY PROGRAM, IN A SANDBOX (cutbox-rows.mjs): the forced cells as the released guide's own fill.sh prints them over the translation fa28c955a886deb3… (all of the seat's roots in one cut). By AI agents, Wed Nov 11 2026. No macro, syntax, notation, axiom, sorry.
-/
import Derived.Test.YtgoafhmmaepcjaaChecked
import GoSem.Claim
import GoSem.ClaimJoined
import GoSem.ClaimMapViews
import Derived.JoinedTies
import Derived.KernelRfl
namespace Go.Proofs.Ytgoafhmmaepcjaa
/- THE CELL 'sum', in the pinned program and in every row, IS THE sha256 OF THE DUMP (.gsa) THAT YtgoafhmmaepcjaaProg.lean LOADS. Nothing in Lean hashes anything: it is a label: what it is worth is what the hold of that sum in a sandbox is worth. -/
noncomputable def Try.pinned : Pinned := { name := "ytgoafhmmaepcjaa", sum := "fa28c955a886deb31fdaf18a25b2a59e3d84225a0d31d25a5d3978be7bbf43c0", checked := Try.checked }
namespace Rows
def none {H : Type} : Left H := { results := [], args := [] }

/-- 'laws.FnExactFoldSign': WHATEVER THE INPUT: true; the input reads as it did. -/
def fnExactFoldSignSpec : ChangeSpec := { name := "fnExactFoldSign", fn := fun _ => fun
  | [d] => { results := [.lit (.bool true)], args := [d] }
  | _ => none }
def fnExactFoldSignRow : OpenClaim := { program := "ytgoafhmmaepcjaa", sum := "fa28c955a886deb31fdaf18a25b2a59e3d84225a0d31d25a5d3978be7bbf43c0", func := "loop.example/linksandframes/laws.FnExactFoldSign", spec := "fnExactFoldSign", apart := false }
def FnExactFoldSignSaid : Prop := fnExactFoldSignRow.holds Try.pinned (OpenSpec.ofChange fnExactFoldSignSpec)

/-- ITS FALSE NEIGHBOUR: 'it returns false'. Refute it at one input. -/
def fnExactFoldSignWrong : ChangeSpec := { name := "fnExactFoldSign", fn := fun _ => fun
  | [d] => { results := [.lit (.bool false)], args := [d] }
  | _ => none }
def FnExactFoldSignWrongFalsely : Prop := fnExactFoldSignRow.holds Try.pinned (OpenSpec.ofChange fnExactFoldSignWrong)

/-- 'laws.FnExactUnfoldSign': WHATEVER THE INPUT: true; the input reads as it did. -/
def fnExactUnfoldSignSpec : ChangeSpec := { name := "fnExactUnfoldSign", fn := fun _ => fun
  | [d] => { results := [.lit (.bool true)], args := [d] }
  | _ => none }
def fnExactUnfoldSignRow : OpenClaim := { program := "ytgoafhmmaepcjaa", sum := "fa28c955a886deb31fdaf18a25b2a59e3d84225a0d31d25a5d3978be7bbf43c0", func := "loop.example/linksandframes/laws.FnExactUnfoldSign", spec := "fnExactUnfoldSign", apart := false }
def FnExactUnfoldSignSaid : Prop := fnExactUnfoldSignRow.holds Try.pinned (OpenSpec.ofChange fnExactUnfoldSignSpec)

/-- ITS FALSE NEIGHBOUR: 'it returns false'. Refute it at one input. -/
def fnExactUnfoldSignWrong : ChangeSpec := { name := "fnExactUnfoldSign", fn := fun _ => fun
  | [d] => { results := [.lit (.bool false)], args := [d] }
  | _ => none }
def FnExactUnfoldSignWrongFalsely : Prop := fnExactUnfoldSignRow.holds Try.pinned (OpenSpec.ofChange fnExactUnfoldSignWrong)

/-- 'laws.FnFoldSign': WHATEVER THE INPUT: true; the input reads as it did. -/
def fnFoldSignSpec : ChangeSpec := { name := "fnFoldSign", fn := fun _ => fun
  | [d] => { results := [.lit (.bool true)], args := [d] }
  | _ => none }
def fnFoldSignRow : OpenClaim := { program := "ytgoafhmmaepcjaa", sum := "fa28c955a886deb31fdaf18a25b2a59e3d84225a0d31d25a5d3978be7bbf43c0", func := "loop.example/linksandframes/laws.FnFoldSign", spec := "fnFoldSign", apart := false }
def FnFoldSignSaid : Prop := fnFoldSignRow.holds Try.pinned (OpenSpec.ofChange fnFoldSignSpec)

/-- ITS FALSE NEIGHBOUR: 'it returns false'. Refute it at one input. -/
def fnFoldSignWrong : ChangeSpec := { name := "fnFoldSign", fn := fun _ => fun
  | [d] => { results := [.lit (.bool false)], args := [d] }
  | _ => none }
def FnFoldSignWrongFalsely : Prop := fnFoldSignRow.holds Try.pinned (OpenSpec.ofChange fnFoldSignWrong)

/-- 'laws.FnUnfoldSign': WHATEVER THE INPUT: true; the input reads as it did. -/
def fnUnfoldSignSpec : ChangeSpec := { name := "fnUnfoldSign", fn := fun _ => fun
  | [d] => { results := [.lit (.bool true)], args := [d] }
  | _ => none }
def fnUnfoldSignRow : OpenClaim := { program := "ytgoafhmmaepcjaa", sum := "fa28c955a886deb31fdaf18a25b2a59e3d84225a0d31d25a5d3978be7bbf43c0", func := "loop.example/linksandframes/laws.FnUnfoldSign", spec := "fnUnfoldSign", apart := false }
def FnUnfoldSignSaid : Prop := fnUnfoldSignRow.holds Try.pinned (OpenSpec.ofChange fnUnfoldSignSpec)

/-- ITS FALSE NEIGHBOUR: 'it returns false'. Refute it at one input. -/
def fnUnfoldSignWrong : ChangeSpec := { name := "fnUnfoldSign", fn := fun _ => fun
  | [d] => { results := [.lit (.bool false)], args := [d] }
  | _ => none }
def FnUnfoldSignWrongFalsely : Prop := fnUnfoldSignRow.holds Try.pinned (OpenSpec.ofChange fnUnfoldSignWrong)

/-- 'laws.FnExactValidOffer': WHATEVER THE INPUT: true; the input reads as it did. -/
def fnExactValidOfferSpec : ChangeSpec := { name := "fnExactValidOffer", fn := fun _ => fun
  | [d] => { results := [.lit (.bool true)], args := [d] }
  | _ => none }
def fnExactValidOfferRow : OpenClaim := { program := "ytgoafhmmaepcjaa", sum := "fa28c955a886deb31fdaf18a25b2a59e3d84225a0d31d25a5d3978be7bbf43c0", func := "loop.example/linksandframes/laws.FnExactValidOffer", spec := "fnExactValidOffer", apart := false }
def FnExactValidOfferSaid : Prop := fnExactValidOfferRow.holds Try.pinned (OpenSpec.ofChange fnExactValidOfferSpec)

/-- ITS FALSE NEIGHBOUR: 'it returns false'. Refute it at one input. -/
def fnExactValidOfferWrong : ChangeSpec := { name := "fnExactValidOffer", fn := fun _ => fun
  | [d] => { results := [.lit (.bool false)], args := [d] }
  | _ => none }
def FnExactValidOfferWrongFalsely : Prop := fnExactValidOfferRow.holds Try.pinned (OpenSpec.ofChange fnExactValidOfferWrong)

/-- 'laws.FnValidOffer': WHATEVER THE INPUT: true; the input reads as it did. -/
def fnValidOfferSpec : ChangeSpec := { name := "fnValidOffer", fn := fun _ => fun
  | [d] => { results := [.lit (.bool true)], args := [d] }
  | _ => none }
def fnValidOfferRow : OpenClaim := { program := "ytgoafhmmaepcjaa", sum := "fa28c955a886deb31fdaf18a25b2a59e3d84225a0d31d25a5d3978be7bbf43c0", func := "loop.example/linksandframes/laws.FnValidOffer", spec := "fnValidOffer", apart := false }
def FnValidOfferSaid : Prop := fnValidOfferRow.holds Try.pinned (OpenSpec.ofChange fnValidOfferSpec)

/-- ITS FALSE NEIGHBOUR: 'it returns false'. Refute it at one input. -/
def fnValidOfferWrong : ChangeSpec := { name := "fnValidOffer", fn := fun _ => fun
  | [d] => { results := [.lit (.bool false)], args := [d] }
  | _ => none }
def FnValidOfferWrongFalsely : Prop := fnValidOfferRow.holds Try.pinned (OpenSpec.ofChange fnValidOfferWrong)

/-- 'laws.FnExactAgree': WHATEVER THE INPUT: true; the input reads as it did. -/
def fnExactAgreeSpec : ChangeSpec := { name := "fnExactAgree", fn := fun _ => fun
  | [d1, d2] => { results := [.lit (.bool true)], args := [d1, d2] }
  | _ => none }
def fnExactAgreeRow : OpenClaim := { program := "ytgoafhmmaepcjaa", sum := "fa28c955a886deb31fdaf18a25b2a59e3d84225a0d31d25a5d3978be7bbf43c0", func := "loop.example/linksandframes/laws.FnExactAgree", spec := "fnExactAgree", apart := false }
def FnExactAgreeSaid : Prop := fnExactAgreeRow.holds Try.pinned (OpenSpec.ofChange fnExactAgreeSpec)

/-- ITS FALSE NEIGHBOUR: 'it returns false'. Refute it at one input. -/
def fnExactAgreeWrong : ChangeSpec := { name := "fnExactAgree", fn := fun _ => fun
  | [d1, d2] => { results := [.lit (.bool false)], args := [d1, d2] }
  | _ => none }
def FnExactAgreeWrongFalsely : Prop := fnExactAgreeRow.holds Try.pinned (OpenSpec.ofChange fnExactAgreeWrong)

/-- 'laws.FnAgree': WHATEVER THE INPUT: true; the input reads as it did. -/
def fnAgreeSpec : ChangeSpec := { name := "fnAgree", fn := fun _ => fun
  | [d] => { results := [.lit (.bool true)], args := [d] }
  | _ => none }
def fnAgreeRow : OpenClaim := { program := "ytgoafhmmaepcjaa", sum := "fa28c955a886deb31fdaf18a25b2a59e3d84225a0d31d25a5d3978be7bbf43c0", func := "loop.example/linksandframes/laws.FnAgree", spec := "fnAgree", apart := false }
def FnAgreeSaid : Prop := fnAgreeRow.holds Try.pinned (OpenSpec.ofChange fnAgreeSpec)

/-- ITS FALSE NEIGHBOUR: 'it returns false'. Refute it at one input. -/
def fnAgreeWrong : ChangeSpec := { name := "fnAgree", fn := fun _ => fun
  | [d] => { results := [.lit (.bool false)], args := [d] }
  | _ => none }
def FnAgreeWrongFalsely : Prop := fnAgreeRow.holds Try.pinned (OpenSpec.ofChange fnAgreeWrong)

/- THE SECOND FORM. 'bulk': how many values and letters a reading holds, each counted each time it is reached (what is shared counts as often as it is met; a slice's spare places count too). A statement '..UptoSaid' is the law's where the arguments, and the package variables that the reading takes, are together of bulk at most 1048576: NARROWER than '..Said'. Prove '..Said' where nothing that the law and all that it calls make is longer than what came in: it says more and counts as full. Else prove '..UptoSaid'. A law counts once. -/
mutual
def uptoBulk {H : Type} : DataW H → Nat
  | .lit (.string bytes) => bytes.length + 1
  | .lit _ => 1
  | .nil => 1
  | .ptr d => uptoBulk d + 1
  | .slice elems spare => uptoBulkAll elems + uptoBulkAll spare + 1
  | .agg parts => uptoBulkAll parts + 1
  | .iface _ d => uptoBulk d + 1
  | .map entries => uptoBulkEntries entries + 1
  | .held _ => 1
def uptoBulkAll {H : Type} : List (DataW H) → Nat
  | [] => 0
  | d :: r => uptoBulk d + uptoBulkAll r
def uptoBulkEntries {H : Type} : List (Lit × DataW H) → Nat
  | [] => 0
  | x :: r => uptoBulkEntry x + uptoBulkEntries r
def uptoBulkEntry {H : Type} : Lit × DataW H → Nat
  | (.string bytes, d) => bytes.length + uptoBulk d + 1
  | (_, d) => uptoBulk d + 1
 end
def uptoSmall : (H : Type) → List (DataW H) → Bool := fun _ ds => decide (uptoBulkAll ds ≤ 1048576)
def OpenSpec.upto (s : _root_.Go.ChangeSpec) : _root_.Go.OpenSpec := { _root_.Go.OpenSpec.ofChange s with cond := some uptoSmall }

/-- 'laws.FnExactFoldSign', WHERE WHAT IT READS IS OF BULK AT MOST 1048576: true; the input reads as it did. -/
def fnExactFoldSignUptoRow : OpenClaim := { program := "ytgoafhmmaepcjaa", sum := "fa28c955a886deb31fdaf18a25b2a59e3d84225a0d31d25a5d3978be7bbf43c0", func := "loop.example/linksandframes/laws.FnExactFoldSign", spec := "fnExactFoldSign", apart := false, narrowed := true }
def FnExactFoldSignUptoSaid : Prop := fnExactFoldSignUptoRow.holds Try.pinned (OpenSpec.upto fnExactFoldSignSpec)

/-- 'laws.FnExactUnfoldSign', WHERE WHAT IT READS IS OF BULK AT MOST 1048576: true; the input reads as it did. -/
def fnExactUnfoldSignUptoRow : OpenClaim := { program := "ytgoafhmmaepcjaa", sum := "fa28c955a886deb31fdaf18a25b2a59e3d84225a0d31d25a5d3978be7bbf43c0", func := "loop.example/linksandframes/laws.FnExactUnfoldSign", spec := "fnExactUnfoldSign", apart := false, narrowed := true }
def FnExactUnfoldSignUptoSaid : Prop := fnExactUnfoldSignUptoRow.holds Try.pinned (OpenSpec.upto fnExactUnfoldSignSpec)

/-- 'laws.FnFoldSign', WHERE WHAT IT READS IS OF BULK AT MOST 1048576: true; the input reads as it did. -/
def fnFoldSignUptoRow : OpenClaim := { program := "ytgoafhmmaepcjaa", sum := "fa28c955a886deb31fdaf18a25b2a59e3d84225a0d31d25a5d3978be7bbf43c0", func := "loop.example/linksandframes/laws.FnFoldSign", spec := "fnFoldSign", apart := false, narrowed := true }
def FnFoldSignUptoSaid : Prop := fnFoldSignUptoRow.holds Try.pinned (OpenSpec.upto fnFoldSignSpec)

/-- 'laws.FnUnfoldSign', WHERE WHAT IT READS IS OF BULK AT MOST 1048576: true; the input reads as it did. -/
def fnUnfoldSignUptoRow : OpenClaim := { program := "ytgoafhmmaepcjaa", sum := "fa28c955a886deb31fdaf18a25b2a59e3d84225a0d31d25a5d3978be7bbf43c0", func := "loop.example/linksandframes/laws.FnUnfoldSign", spec := "fnUnfoldSign", apart := false, narrowed := true }
def FnUnfoldSignUptoSaid : Prop := fnUnfoldSignUptoRow.holds Try.pinned (OpenSpec.upto fnUnfoldSignSpec)

/-- 'laws.FnExactValidOffer', WHERE WHAT IT READS IS OF BULK AT MOST 1048576: true; the input reads as it did. -/
def fnExactValidOfferUptoRow : OpenClaim := { program := "ytgoafhmmaepcjaa", sum := "fa28c955a886deb31fdaf18a25b2a59e3d84225a0d31d25a5d3978be7bbf43c0", func := "loop.example/linksandframes/laws.FnExactValidOffer", spec := "fnExactValidOffer", apart := false, narrowed := true }
def FnExactValidOfferUptoSaid : Prop := fnExactValidOfferUptoRow.holds Try.pinned (OpenSpec.upto fnExactValidOfferSpec)

/-- 'laws.FnValidOffer', WHERE WHAT IT READS IS OF BULK AT MOST 1048576: true; the input reads as it did. -/
def fnValidOfferUptoRow : OpenClaim := { program := "ytgoafhmmaepcjaa", sum := "fa28c955a886deb31fdaf18a25b2a59e3d84225a0d31d25a5d3978be7bbf43c0", func := "loop.example/linksandframes/laws.FnValidOffer", spec := "fnValidOffer", apart := false, narrowed := true }
def FnValidOfferUptoSaid : Prop := fnValidOfferUptoRow.holds Try.pinned (OpenSpec.upto fnValidOfferSpec)

/-- 'laws.FnExactAgree', WHERE WHAT IT READS IS OF BULK AT MOST 1048576: true; the input reads as it did. -/
def fnExactAgreeUptoRow : OpenClaim := { program := "ytgoafhmmaepcjaa", sum := "fa28c955a886deb31fdaf18a25b2a59e3d84225a0d31d25a5d3978be7bbf43c0", func := "loop.example/linksandframes/laws.FnExactAgree", spec := "fnExactAgree", apart := false, narrowed := true }
def FnExactAgreeUptoSaid : Prop := fnExactAgreeUptoRow.holds Try.pinned (OpenSpec.upto fnExactAgreeSpec)

/-- 'laws.FnAgree', WHERE WHAT IT READS IS OF BULK AT MOST 1048576: true; the input reads as it did. -/
def fnAgreeUptoRow : OpenClaim := { program := "ytgoafhmmaepcjaa", sum := "fa28c955a886deb31fdaf18a25b2a59e3d84225a0d31d25a5d3978be7bbf43c0", func := "loop.example/linksandframes/laws.FnAgree", spec := "fnAgree", apart := false, narrowed := true }
def FnAgreeUptoSaid : Prop := fnAgreeUptoRow.holds Try.pinned (OpenSpec.upto fnAgreeSpec)

end Rows
end Go.Proofs.Ytgoafhmmaepcjaa
