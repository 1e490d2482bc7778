/-
  The walk of the law FnExactUnfoldSign: it returns true at every number. No condition.
-/
import Derived.Test.YtgoafhmmaepcjaaWfo
namespace Go.Proofs.Ytgoafhmmaepcjaa
open Go.RowKit
set_option linter.unusedVariables false

set_option maxHeartbeats 400000 in
theorem fnExactUnfoldSign_walk (x : Int) (w : World) :
    Calls Try.prog 4 #[.int .i64 x] w fun e w' => e = .returned (.bool true) ∧ Below w.heap.size w w' := by
  have HS := Lib.hid (sUN_any x w)
  have HI := Lib.hid (iUN_any x w)
  generalize unR x = r at HS HI
  generalize unB x = b at HS HI
  go_enter Try.func4, Try.ntmps4
  go_wp2_with fail
  refine HS.out.mono ?_
  rintro e w1 ⟨rfl, rfl⟩
  go_wp2_with fail
  refine HI.out.mono ?_
  rintro e w2 ⟨rfl, rfl⟩
  cases b <;> go_wp2
  all_goals go_ret
  all_goals exact ⟨rfl, Below.refl _ _⟩
end Go.Proofs.Ytgoafhmmaepcjaa
