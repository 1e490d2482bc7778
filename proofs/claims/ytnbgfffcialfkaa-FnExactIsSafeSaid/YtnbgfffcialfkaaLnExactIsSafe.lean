/-
  FnExactIsSafe: at every plan the program's IsSafe and the model's give the same answer, on every schedule. No condition.
-/
import Derived.Test.YtnbgfffcialfkaaLnJe
import Derived.Test.YtnbgfffcialfkaaLn27
import Derived.Test.YtnbgfffcialfkaaLn28
set_option linter.unusedSimpArgs false
set_option linter.unusedVariables false
namespace Go.Proofs.Ytnbgfffcialfkaa.fnExactIsSafe
open Go.RowKit
set_option linter.unusedVariables false

theorem sis : SisSaid := by
  intro n a k m
  cases hp : vpB ⟨n, a, k, m⟩ with
  | false => exact ⟨false, sIS_no n a k m hp, fun _ => rfl, fun h => by cases h⟩
  | true =>
    obtain ⟨l0, _, hg, _, hr⟩ := found hp
    refine ⟨l0.all (takR ⟨n, a, k, m⟩), sIS_yes n a k m _ hp fun w => (sre_any n a k m hp l0 hg hr w).mono ?_, fun h => (by cases h), fun _ l1 _ h1 => ?_⟩
    · rintro e w' ⟨g, ln, c, h, _, hb⟩
      exact ⟨_, h, hb⟩
    · rw [safe_iff hp hr, safe_iff hp h1]
theorem proved : Rows.FnExactIsSafeSaid := over sis
end Go.Proofs.Ytnbgfffcialfkaa.fnExactIsSafe
