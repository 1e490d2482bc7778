/-
  The walks of the functions that say whether a plan is valid. No condition.
-/
import Derived.Test.YtpjefjomihnbhaaLk
import Derived.Test.YtpjefjomihnbhaaWbk
import Derived.Test.YtpjefjomihnbhaaRows
import Derived.WalkLawsBesides
import Derived.WalkSpells
import Derived.Outline
import Derived.BigQuiet
import Derived.Deep.QuietTactic
import Derived.Deep.RegionHeld3
import Derived.IntWalk
namespace Go.Proofs.Ytpjefjomihnbhaa
open Go.RowKit
set_option linter.unusedVariables false

/-- Whether a number is from the least up to the most one. -/
def wi (x lo hi : Int) : Bool := decide (lo ≤ x ∧ x ≤ hi)
theorem wi_yes {x lo hi : Int} (h : wi x lo hi = true) : lo ≤ x ∧ x ≤ hi := by simpa [wi] using h
theorem wi_no {x lo hi : Int} (h : wi x lo hi = false) : ¬ (lo ≤ x ∧ x ≤ hi) := by simpa [wi] using h
theorem vpB_eq (n a k m : Int) : vpB ⟨n, a, k, m⟩ = (wi n 2 4 && wi a 1 4 && wi k 1 4 && wi m 1 5) := by
  unfold vpB wi
  rw [Bool.eq_iff_iff]; simp; omega

theorem wit_any (x lo hi : Int) (w : World) : Calls Try.prog 22 #[.int .i64 x, .int .i64 lo, .int .i64 hi] w fun e w' => e = .returned (.bool (wi x lo hi)) ∧ w = w' := by
  unfold wi
  by_cases h1 : lo ≤ x
  · by_cases h2 : x ≤ hi
    · go_enter Try.func22, Try.ntmps22
      go_wp2
      go_ret
      exact ⟨ret_bool (by simp [h1, h2]), rfl⟩
    · have hd : decide (x ≤ hi) = false := by simpa using h2
      go_enter Try.func22, Try.ntmps22
      go_wp2
      go_ret
      exact ⟨ret_bool (by simp [h2]), rfl⟩
  · have hd : decide (lo ≤ x) = false := by simpa using h1
    go_enter Try.func22, Try.ntmps22
    go_wp2
    go_ret
    exact ⟨ret_bool (by simp [h1]), rfl⟩
theorem inr_any (x lo hi : Int) (w : World) : Calls Try.prog 21 #[.int .i64 x, .int .i64 lo, .int .i64 hi] w fun e w' => e = .returned (.bool (wi x lo hi)) ∧ w = w' := by
  unfold wi
  by_cases h1 : lo ≤ x
  · by_cases h2 : x ≤ hi
    · go_enter Try.func21, Try.ntmps21
      go_wp2
      go_ret
      exact ⟨ret_bool (by simp [h1, h2]), rfl⟩
    · have hd : decide (x ≤ hi) = false := by simpa using h2
      go_enter Try.func21, Try.ntmps21
      go_wp2
      go_ret
      exact ⟨ret_bool (by simp [h2]), rfl⟩
  · have hd : decide (lo ≤ x) = false := by simpa using h1
    go_enter Try.func21, Try.ntmps21
    go_wp2
    go_ret
    exact ⟨ret_bool (by simp [h1]), rfl⟩

set_option maxHeartbeats 800000 in
theorem ivp_any (n a k m : Int) (w : World) : Calls Try.prog 16 #[(.agg #[.int .i64 n, .int .i64 a, .int .i64 k, .int .i64 m])] w fun e w' => e = .returned (.bool (vpB ⟨n, a, k, m⟩)) ∧ Below w.heap.size w w' := by
  rw [vpB_eq]
  go_enter Try.func16, Try.ntmps16
  go_wp2
  all_goals
    go_ret
    exact ⟨ret_bool (by rw [Bool.eq_iff_iff]; simp [wi]; omega), (Below.refl _ _).alloc (Nat.le_refl _) _⟩
set_option maxHeartbeats 800000 in
theorem svp_any (n a k m : Int) (w : World) : Calls Try.prog 10 #[(.agg #[.int .i64 n, .int .i64 a, .int .i64 k, .int .i64 m])] w fun e w' => e = .returned (.bool (vpB ⟨n, a, k, m⟩)) ∧ Below w.heap.size w w' := by
  rw [vpB_eq]
  go_enter Try.func10, Try.ntmps10
  go_wp2
  all_goals
    go_ret
    exact ⟨ret_bool (by rw [Bool.eq_iff_iff]; simp [wi]; omega), (Below.refl _ _).alloc (Nat.le_refl _) _⟩
end Go.Proofs.Ytpjefjomihnbhaa
