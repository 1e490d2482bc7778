/-
  No cell of these rows narrows 'for every input' (looked for: loops, veiled, ifaces, maps, wideKeys, modest, calm, conditions, laid).
  DERIVED. THE GIVEN ROWS OF THIS SEAT. 8 by the template 'for every input the law returns true; each argument reads behind the call as it read before'; 0 by the template 'total and deterministic' (their statements: YthmhjkflgokmgaaTotals.lean).
  GIVEN WITH THE SEED: the statements are not yours to turn. If you find one false, say at which input.
  Laid BY PROGRAM, IN A SANDBOX (cutbox-rows.mjs): the forced cells as the released guide's own fill.sh prints them over the translation 928c3f4c544b7f47… (all of the seat's roots in one cut). By AI agents, Wed Nov 11 2026. No macro, syntax, notation, axiom, sorry.
-/
import Derived.Test.YthmhjkflgokmgaaChecked
import GoSem.Claim
import GoSem.ClaimJoined
import GoSem.ClaimMapViews
import Derived.JoinedTies
import Derived.KernelRfl
namespace Go.Proofs.Ythmhjkflgokmgaa
/- THE CELL 'sum', in the pinned program and in every row, IS THE sha256 OF THE DUMP (.gsa) THAT YthmhjkflgokmgaaProg.lean LOADS. Nothing in Lean hashes anything: it is a label: what it is worth is what the hold of that sum in a sandbox is worth. -/
noncomputable def Try.pinned : Pinned := { name := "ythmhjkflgokmgaa", sum := "928c3f4c544b7f4795b449fdee4cdfb3ef8dc4bc315aaf39f3a7ba7d4a0bf61b", checked := Try.checked }
namespace Rows
def none {H : Type} : Left H := { results := [], args := [] }

/-- 'laws.FnExactValidPoly': WHATEVER THE INPUT: true; the input reads as it did. -/
def fnExactValidPolySpec : ChangeSpec := { name := "fnExactValidPoly", fn := fun _ => fun
  | [d] => { results := [.lit (.bool true)], args := [d] }
  | _ => none }
def fnExactValidPolyRow : OpenClaim := { program := "ythmhjkflgokmgaa", sum := "928c3f4c544b7f4795b449fdee4cdfb3ef8dc4bc315aaf39f3a7ba7d4a0bf61b", func := "loop.example/linksandframes/laws.FnExactValidPoly", spec := "fnExactValidPoly", apart := false }
def FnExactValidPolySaid : Prop := fnExactValidPolyRow.holds Try.pinned (OpenSpec.ofChange fnExactValidPolySpec)

/-- ITS FALSE NEIGHBOUR: 'it returns false'. Refute it at one input. -/
def fnExactValidPolyWrong : ChangeSpec := { name := "fnExactValidPoly", fn := fun _ => fun
  | [d] => { results := [.lit (.bool false)], args := [d] }
  | _ => none }
def FnExactValidPolyWrongFalsely : Prop := fnExactValidPolyRow.holds Try.pinned (OpenSpec.ofChange fnExactValidPolyWrong)

/-- 'laws.FnExactRestOf': WHATEVER THE INPUT: true; the input reads as it did. -/
def fnExactRestOfSpec : ChangeSpec := { name := "fnExactRestOf", fn := fun _ => fun
  | [d1, d2] => { results := [.lit (.bool true)], args := [d1, d2] }
  | _ => none }
def fnExactRestOfRow : OpenClaim := { program := "ythmhjkflgokmgaa", sum := "928c3f4c544b7f4795b449fdee4cdfb3ef8dc4bc315aaf39f3a7ba7d4a0bf61b", func := "loop.example/linksandframes/laws.FnExactRestOf", spec := "fnExactRestOf", apart := false }
def FnExactRestOfSaid : Prop := fnExactRestOfRow.holds Try.pinned (OpenSpec.ofChange fnExactRestOfSpec)

/-- ITS FALSE NEIGHBOUR: 'it returns false'. Refute it at one input. -/
def fnExactRestOfWrong : ChangeSpec := { name := "fnExactRestOf", fn := fun _ => fun
  | [d1, d2] => { results := [.lit (.bool false)], args := [d1, d2] }
  | _ => none }
def FnExactRestOfWrongFalsely : Prop := fnExactRestOfRow.holds Try.pinned (OpenSpec.ofChange fnExactRestOfWrong)

/-- 'laws.FnExactSealBits': WHATEVER THE INPUT: true; the input reads as it did. -/
def fnExactSealBitsSpec : ChangeSpec := { name := "fnExactSealBits", fn := fun _ => fun
  | [d1, d2] => { results := [.lit (.bool true)], args := [d1, d2] }
  | _ => none }
def fnExactSealBitsRow : OpenClaim := { program := "ythmhjkflgokmgaa", sum := "928c3f4c544b7f4795b449fdee4cdfb3ef8dc4bc315aaf39f3a7ba7d4a0bf61b", func := "loop.example/linksandframes/laws.FnExactSealBits", spec := "fnExactSealBits", apart := false }
def FnExactSealBitsSaid : Prop := fnExactSealBitsRow.holds Try.pinned (OpenSpec.ofChange fnExactSealBitsSpec)

/-- ITS FALSE NEIGHBOUR: 'it returns false'. Refute it at one input. -/
def fnExactSealBitsWrong : ChangeSpec := { name := "fnExactSealBits", fn := fun _ => fun
  | [d1, d2] => { results := [.lit (.bool false)], args := [d1, d2] }
  | _ => none }
def FnExactSealBitsWrongFalsely : Prop := fnExactSealBitsRow.holds Try.pinned (OpenSpec.ofChange fnExactSealBitsWrong)

/-- 'laws.FnExactIsSealed': WHATEVER THE INPUT: true; the input reads as it did. -/
def fnExactIsSealedSpec : ChangeSpec := { name := "fnExactIsSealed", fn := fun _ => fun
  | [d1, d2] => { results := [.lit (.bool true)], args := [d1, d2] }
  | _ => none }
def fnExactIsSealedRow : OpenClaim := { program := "ythmhjkflgokmgaa", sum := "928c3f4c544b7f4795b449fdee4cdfb3ef8dc4bc315aaf39f3a7ba7d4a0bf61b", func := "loop.example/linksandframes/laws.FnExactIsSealed", spec := "fnExactIsSealed", apart := false }
def FnExactIsSealedSaid : Prop := fnExactIsSealedRow.holds Try.pinned (OpenSpec.ofChange fnExactIsSealedSpec)

/-- ITS FALSE NEIGHBOUR: 'it returns false'. Refute it at one input. -/
def fnExactIsSealedWrong : ChangeSpec := { name := "fnExactIsSealed", fn := fun _ => fun
  | [d1, d2] => { results := [.lit (.bool false)], args := [d1, d2] }
  | _ => none }
def FnExactIsSealedWrongFalsely : Prop := fnExactIsSealedRow.holds Try.pinned (OpenSpec.ofChange fnExactIsSealedWrong)

/-- 'laws.FnValidPoly': WHATEVER THE INPUT: true; the input reads as it did. -/
def fnValidPolySpec : ChangeSpec := { name := "fnValidPoly", fn := fun _ => fun
  | [d] => { results := [.lit (.bool true)], args := [d] }
  | _ => none }
def fnValidPolyRow : OpenClaim := { program := "ythmhjkflgokmgaa", sum := "928c3f4c544b7f4795b449fdee4cdfb3ef8dc4bc315aaf39f3a7ba7d4a0bf61b", func := "loop.example/linksandframes/laws.FnValidPoly", spec := "fnValidPoly", apart := false }
def FnValidPolySaid : Prop := fnValidPolyRow.holds Try.pinned (OpenSpec.ofChange fnValidPolySpec)

/-- ITS FALSE NEIGHBOUR: 'it returns false'. Refute it at one input. -/
def fnValidPolyWrong : ChangeSpec := { name := "fnValidPoly", fn := fun _ => fun
  | [d] => { results := [.lit (.bool false)], args := [d] }
  | _ => none }
def FnValidPolyWrongFalsely : Prop := fnValidPolyRow.holds Try.pinned (OpenSpec.ofChange fnValidPolyWrong)

/-- 'laws.FnRestOf': WHATEVER THE INPUT: true; the input reads as it did. -/
def fnRestOfSpec : ChangeSpec := { name := "fnRestOf", fn := fun _ => fun
  | [d] => { results := [.lit (.bool true)], args := [d] }
  | _ => none }
def fnRestOfRow : OpenClaim := { program := "ythmhjkflgokmgaa", sum := "928c3f4c544b7f4795b449fdee4cdfb3ef8dc4bc315aaf39f3a7ba7d4a0bf61b", func := "loop.example/linksandframes/laws.FnRestOf", spec := "fnRestOf", apart := false }
def FnRestOfSaid : Prop := fnRestOfRow.holds Try.pinned (OpenSpec.ofChange fnRestOfSpec)

/-- ITS FALSE NEIGHBOUR: 'it returns false'. Refute it at one input. -/
def fnRestOfWrong : ChangeSpec := { name := "fnRestOf", fn := fun _ => fun
  | [d] => { results := [.lit (.bool false)], args := [d] }
  | _ => none }
def FnRestOfWrongFalsely : Prop := fnRestOfRow.holds Try.pinned (OpenSpec.ofChange fnRestOfWrong)

/-- 'laws.FnSealBits': WHATEVER THE INPUT: true; the input reads as it did. -/
def fnSealBitsSpec : ChangeSpec := { name := "fnSealBits", fn := fun _ => fun
  | [d] => { results := [.lit (.bool true)], args := [d] }
  | _ => none }
def fnSealBitsRow : OpenClaim := { program := "ythmhjkflgokmgaa", sum := "928c3f4c544b7f4795b449fdee4cdfb3ef8dc4bc315aaf39f3a7ba7d4a0bf61b", func := "loop.example/linksandframes/laws.FnSealBits", spec := "fnSealBits", apart := false }
def FnSealBitsSaid : Prop := fnSealBitsRow.holds Try.pinned (OpenSpec.ofChange fnSealBitsSpec)

/-- ITS FALSE NEIGHBOUR: 'it returns false'. Refute it at one input. -/
def fnSealBitsWrong : ChangeSpec := { name := "fnSealBits", fn := fun _ => fun
  | [d] => { results := [.lit (.bool false)], args := [d] }
  | _ => none }
def FnSealBitsWrongFalsely : Prop := fnSealBitsRow.holds Try.pinned (OpenSpec.ofChange fnSealBitsWrong)

/-- 'laws.FnIsSealed': WHATEVER THE INPUT: true; the input reads as it did. -/
def fnIsSealedSpec : ChangeSpec := { name := "fnIsSealed", fn := fun _ => fun
  | [d] => { results := [.lit (.bool true)], args := [d] }
  | _ => none }
def fnIsSealedRow : OpenClaim := { program := "ythmhjkflgokmgaa", sum := "928c3f4c544b7f4795b449fdee4cdfb3ef8dc4bc315aaf39f3a7ba7d4a0bf61b", func := "loop.example/linksandframes/laws.FnIsSealed", spec := "fnIsSealed", apart := false }
def FnIsSealedSaid : Prop := fnIsSealedRow.holds Try.pinned (OpenSpec.ofChange fnIsSealedSpec)

/-- ITS FALSE NEIGHBOUR: 'it returns false'. Refute it at one input. -/
def fnIsSealedWrong : ChangeSpec := { name := "fnIsSealed", fn := fun _ => fun
  | [d] => { results := [.lit (.bool false)], args := [d] }
  | _ => none }
def FnIsSealedWrongFalsely : Prop := fnIsSealedRow.holds Try.pinned (OpenSpec.ofChange fnIsSealedWrong)

/- THE SECOND FORM. 'bulk': how many values and letters a reading holds, each counted each time it is reached (what is shared counts as often as it is met; a slice's spare places count too). A statement '..UptoSaid' is the law's where the arguments, and the package variables that the reading takes, are together of bulk at most 1048576: NARROWER than '..Said'. Prove '..Said' where nothing that the law and all that it calls make is longer than what came in: it says more and counts as full. Else prove '..UptoSaid'. A law counts once. -/
mutual
def uptoBulk {H : Type} : DataW H → Nat
  | .lit (.string bytes) => bytes.length + 1
  | .lit _ => 1
  | .nil => 1
  | .ptr d => uptoBulk d + 1
  | .slice elems spare => uptoBulkAll elems + uptoBulkAll spare + 1
  | .agg parts => uptoBulkAll parts + 1
  | .iface _ d => uptoBulk d + 1
  | .map entries => uptoBulkEntries entries + 1
  | .held _ => 1
def uptoBulkAll {H : Type} : List (DataW H) → Nat
  | [] => 0
  | d :: r => uptoBulk d + uptoBulkAll r
def uptoBulkEntries {H : Type} : List (Lit × DataW H) → Nat
  | [] => 0
  | x :: r => uptoBulkEntry x + uptoBulkEntries r
def uptoBulkEntry {H : Type} : Lit × DataW H → Nat
  | (.string bytes, d) => bytes.length + uptoBulk d + 1
  | (_, d) => uptoBulk d + 1
 end
def uptoSmall : (H : Type) → List (DataW H) → Bool := fun _ ds => decide (uptoBulkAll ds ≤ 1048576)
def OpenSpec.upto (s : _root_.Go.ChangeSpec) : _root_.Go.OpenSpec := { _root_.Go.OpenSpec.ofChange s with cond := some uptoSmall }

/-- 'laws.FnExactValidPoly', WHERE WHAT IT READS IS OF BULK AT MOST 1048576: true; the input reads as it did. -/
def fnExactValidPolyUptoRow : OpenClaim := { program := "ythmhjkflgokmgaa", sum := "928c3f4c544b7f4795b449fdee4cdfb3ef8dc4bc315aaf39f3a7ba7d4a0bf61b", func := "loop.example/linksandframes/laws.FnExactValidPoly", spec := "fnExactValidPoly", apart := false, narrowed := true }
def FnExactValidPolyUptoSaid : Prop := fnExactValidPolyUptoRow.holds Try.pinned (OpenSpec.upto fnExactValidPolySpec)

/-- 'laws.FnExactRestOf', WHERE WHAT IT READS IS OF BULK AT MOST 1048576: true; the input reads as it did. -/
def fnExactRestOfUptoRow : OpenClaim := { program := "ythmhjkflgokmgaa", sum := "928c3f4c544b7f4795b449fdee4cdfb3ef8dc4bc315aaf39f3a7ba7d4a0bf61b", func := "loop.example/linksandframes/laws.FnExactRestOf", spec := "fnExactRestOf", apart := false, narrowed := true }
def FnExactRestOfUptoSaid : Prop := fnExactRestOfUptoRow.holds Try.pinned (OpenSpec.upto fnExactRestOfSpec)

/-- 'laws.FnExactSealBits', WHERE WHAT IT READS IS OF BULK AT MOST 1048576: true; the input reads as it did. -/
def fnExactSealBitsUptoRow : OpenClaim := { program := "ythmhjkflgokmgaa", sum := "928c3f4c544b7f4795b449fdee4cdfb3ef8dc4bc315aaf39f3a7ba7d4a0bf61b", func := "loop.example/linksandframes/laws.FnExactSealBits", spec := "fnExactSealBits", apart := false, narrowed := true }
def FnExactSealBitsUptoSaid : Prop := fnExactSealBitsUptoRow.holds Try.pinned (OpenSpec.upto fnExactSealBitsSpec)

/-- 'laws.FnExactIsSealed', WHERE WHAT IT READS IS OF BULK AT MOST 1048576: true; the input reads as it did. -/
def fnExactIsSealedUptoRow : OpenClaim := { program := "ythmhjkflgokmgaa", sum := "928c3f4c544b7f4795b449fdee4cdfb3ef8dc4bc315aaf39f3a7ba7d4a0bf61b", func := "loop.example/linksandframes/laws.FnExactIsSealed", spec := "fnExactIsSealed", apart := false, narrowed := true }
def FnExactIsSealedUptoSaid : Prop := fnExactIsSealedUptoRow.holds Try.pinned (OpenSpec.upto fnExactIsSealedSpec)

/-- 'laws.FnValidPoly', WHERE WHAT IT READS IS OF BULK AT MOST 1048576: true; the input reads as it did. -/
def fnValidPolyUptoRow : OpenClaim := { program := "ythmhjkflgokmgaa", sum := "928c3f4c544b7f4795b449fdee4cdfb3ef8dc4bc315aaf39f3a7ba7d4a0bf61b", func := "loop.example/linksandframes/laws.FnValidPoly", spec := "fnValidPoly", apart := false, narrowed := true }
def FnValidPolyUptoSaid : Prop := fnValidPolyUptoRow.holds Try.pinned (OpenSpec.upto fnValidPolySpec)

/-- 'laws.FnRestOf', WHERE WHAT IT READS IS OF BULK AT MOST 1048576: true; the input reads as it did. -/
def fnRestOfUptoRow : OpenClaim := { program := "ythmhjkflgokmgaa", sum := "928c3f4c544b7f4795b449fdee4cdfb3ef8dc4bc315aaf39f3a7ba7d4a0bf61b", func := "loop.example/linksandframes/laws.FnRestOf", spec := "fnRestOf", apart := false, narrowed := true }
def FnRestOfUptoSaid : Prop := fnRestOfUptoRow.holds Try.pinned (OpenSpec.upto fnRestOfSpec)

/-- 'laws.FnSealBits', WHERE WHAT IT READS IS OF BULK AT MOST 1048576: true; the input reads as it did. -/
def fnSealBitsUptoRow : OpenClaim := { program := "ythmhjkflgokmgaa", sum := "928c3f4c544b7f4795b449fdee4cdfb3ef8dc4bc315aaf39f3a7ba7d4a0bf61b", func := "loop.example/linksandframes/laws.FnSealBits", spec := "fnSealBits", apart := false, narrowed := true }
def FnSealBitsUptoSaid : Prop := fnSealBitsUptoRow.holds Try.pinned (OpenSpec.upto fnSealBitsSpec)

/-- 'laws.FnIsSealed', WHERE WHAT IT READS IS OF BULK AT MOST 1048576: true; the input reads as it did. -/
def fnIsSealedUptoRow : OpenClaim := { program := "ythmhjkflgokmgaa", sum := "928c3f4c544b7f4795b449fdee4cdfb3ef8dc4bc315aaf39f3a7ba7d4a0bf61b", func := "loop.example/linksandframes/laws.FnIsSealed", spec := "fnIsSealed", apart := false, narrowed := true }
def FnIsSealedUptoSaid : Prop := fnIsSealedUptoRow.holds Try.pinned (OpenSpec.upto fnIsSealedSpec)

end Rows
end Go.Proofs.Ythmhjkflgokmgaa
