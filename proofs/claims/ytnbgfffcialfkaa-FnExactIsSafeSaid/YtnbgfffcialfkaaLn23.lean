/-
  The model's first link: the sequential contract. No condition.
-/
import Derived.Test.YtnbgfffcialfkaaLn22
set_option linter.unusedSimpArgs false
set_option linter.unusedVariables false
namespace Go.Proofs.Ytnbgfffcialfkaa
open Go.RowKit
set_option linter.unusedVariables false

set_option maxHeartbeats 800000 in
theorem sst_any (w : World) : Calls Try.prog 29 #[] w fun e w' => e = .returned (lv newL) ∧ Below w.heap.size w w' := by
  go_enter Try.func29, Try.ntmps29
  go_wp2
  exact bodyPost_ret (v := lv newL) (by simp [results, Try.results29, go_sem, lv, newL]) rfl ⟨rfl, (by repeat (first | exact Below.refl _ _ | assumption | refine Below.alloc ?_ (by first | exact Nat.le_refl _ | (simp; done) | (simp; omega)) _ | refine Below.setCell ?_ (by first | (simp; done) | (simp; omega)) _))⟩
end Go.Proofs.Ytnbgfffcialfkaa
