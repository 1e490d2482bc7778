/-
  Plain facts on a region that draws its order and holds calls that make memory: walked once, in the order of the text, where one condition on the world is kept by all of it. No condition.
-/
import Derived.Test.YteifojanklggmaaWbk
import Derived.BigQuiet
import Derived.Deep.QuietTactic
namespace Go.Proofs.Yteifojanklggmaa
open Go.RowKit
set_option linter.unusedVariables false

/-- A world that meets a condition. -/
structure Wld (S : World → Prop) where
  v : World
  h : S v
theorem Wld.ne {S : World → Prop} {w : World} (h : S w) : Nonempty (Wld S) := ⟨⟨w, h⟩⟩
theorem wp_region_heldq {P : Program} {id : Nat} {Q : Exit → Act → World → Prop} {a : Act} {w : World} {l : List Oper} (S : World → Prop) (hm : P.follows .mixedOrders = true) (hB : Region.lexB .any l.toArray = true) (h0 : S w.drew)
    (h : wpQuiet P l.toArray (fun w' => ∃ x : Wld S, w' = x.v) (fun a' => ∀ w', (∃ x : Wld S, w' = x.v) → Q .normal a' w') l a) : (Code.region id l.toArray true).wp P Q a w :=
  wp_region_quiet (C := fun w' => ∃ x : Wld S, w' = x.v) hm hB ⟨⟨w.drew, h0⟩, rfl⟩ (by simpa using h)
theorem held_same {S : World → Prop} {P : Program} {f : FuncId} {args : Array Value} {x : Wld S} {v : Value} (h : Calls P f args x.v fun e w' => e = .returned v ∧ x.v = w') :
    Calls P f args x.v fun e w'' => e = .returned v ∧ ∃ y : Wld S, w'' = y.v :=
  h.mono fun e w' ⟨he, hw⟩ => ⟨he, x, hw.symm⟩
theorem held_below {S : World → Prop} (keep : ∀ w w', S w → Below w.heap.size w w' → S w') {P : Program} {f : FuncId} {args : Array Value} {x : Wld S} {v : Value} (h : Calls P f args x.v fun e w' => e = .returned v ∧ Below x.v.heap.size x.v w') :
    Calls P f args x.v fun e w'' => e = .returned v ∧ ∃ y : Wld S, w'' = y.v :=
  h.mono fun e w' ⟨he, hw⟩ => ⟨he, ⟨w', keep _ _ x.h hw⟩, rfl⟩
end Go.Proofs.Yteifojanklggmaa
