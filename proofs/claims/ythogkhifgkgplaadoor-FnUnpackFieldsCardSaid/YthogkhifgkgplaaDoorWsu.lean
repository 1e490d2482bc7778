/-
  The walk of the model's reader of fields. Conditions: where the list lies, its length, and that its numbers are bytes.
-/
import Derived.Test.YthogkhifgkgplaaDoorWna
import Derived.Test.YthogkhifgkgplaaDoorWrs0
set_option linter.unusedSimpArgs false
namespace Go.Proofs.YthogkhifgkgplaaDoor
open Go.RowKit
set_option linter.unusedVariables false

theorem nf_zero {l : List Int} (h : nfN l = 0) : nf l = none := by
  cases hn : nf l with
  | none => rfl
  | some p =>
    obtain ⟨x, n⟩ := p
    obtain ⟨_, _, _, _, h5⟩ := nf_some hn
    unfold nfN at h
    rw [hn] at h
    simp at h
    omega
theorem nf_pos {l : List Int} (h : nfN l ≠ 0) : ∃ x n : Nat, nf l = some (x, n) ∧ nfA l = x ∧ nfN l = n ∧ x ≤ 1000000 ∧ 1 ≤ n ∧ n ≤ l.length := by
  cases hn : nf l with
  | none => exact absurd (by unfold nfN; rw [hn]) h
  | some p =>
    obtain ⟨x, n⟩ := p
    obtain ⟨_, h2, h3, _, h5⟩ := nf_some hn
    exact ⟨x, n, rfl, by unfold nfA; rw [hn], by unfold nfN; rw [hn], h2, by omega, h3⟩
/-- What the model's reader of fields leaves. -/
def SuPost (xs : List Int) (w : World) (e : Ending) (w' : World) : Prop :=
  ∃ (u : Value) (Q : List (Fd × Value)) (b : Bool), e = .returned (.tuple #[u, .bool b]) ∧ FOwn w' w.heap.size u Q ∧ Q.length ≤ xs.length ∧ Below w.heap.size w w' ∧
    ((unA xs = some (Q.map (·.1)) ∧ b = decide (Q.length ≤ 5)) ∨ (unA xs = none ∧ Q = [] ∧ b = false))
end Go.Proofs.YthogkhifgkgplaaDoor
