/-
  The walk of the model's function that says whether a link is one of a plan. No condition but that the plan is valid.
-/
import Derived.Test.YtnbgfffcialfkaaLn08
import Derived.Test.YtnbgfffcialfkaaLn10
set_option linter.unusedSimpArgs false
set_option linter.unusedVariables false
namespace Go.Proofs.Ytnbgfffcialfkaa
open Go.RowKit
set_option linter.unusedVariables false

/-- Whether the bits held up to j are where they may be. -/
def hbB (h e : Int) : Nat → Bool
  | 0 => true
  | j + 1 => hbB h e j && !(decide (h / 2 ^ j % 2 = 1) && (decide (j = 0) || decide (e ≤ (j : Int))))
theorem hbB_false {h e : Int} : ∀ {K j : Nat}, j ≤ K → hbB h e j = false → hbB h e K = false
  | 0, j, hj, hb => by obtain rfl : j = 0 := by omega
                       exact hb
  | K + 1, j, hj, hb => by
    rcases Nat.lt_or_ge j (K + 1) with h1 | h1
    · unfold hbB; rw [hbB_false (K := K) (by omega) hb]; rfl
    · obtain rfl : j = K + 1 := by omega
      exact hb
theorem hb_fin : ∀ (K : Fin 4) (h : Fin 16) (e : Fin 6), (wi ((h.val : Nat) : Int) 0 (2 ^ (K.val + 1) - 1) && hbB ((h.val : Nat) : Int) ((e.val : Nat) : Int) (K.val + 1)) =
    (decide (((h.val : Nat) : Int) % 2 = 0) && wi ((h.val : Nat) : Int) 0 (2 ^ (min (((K.val + 1 : Nat) : Int)) ((e.val : Nat) : Int)).toNat - 1)) := by decide +kernel
theorem hb_eq (h d s : Int) (K : Nat) (hK : 1 ≤ K ∧ K ≤ 4) (hd : 0 ≤ d ∧ d ≤ s ∧ s ≤ 5) :
    (wi h 0 (2 ^ K - 1) && hbB h (s - d) K) = (decide (h % 2 = 0) && wi h 0 (2 ^ (min (K : Int) (s - d)).toNat - 1)) := by
  have hp := pow_16 K hK.2
  by_cases hh : 0 ≤ h ∧ h ≤ 2 ^ K - 1
  · have := hb_fin ⟨K - 1, by omega⟩ ⟨h.toNat, by omega⟩ ⟨(s - d).toNat, by omega⟩
    simp only at this
    rw [show K - 1 + 1 = K from by omega, Int.toNat_of_nonneg hh.1, Int.toNat_of_nonneg (show 0 ≤ s - d by omega)] at this
    exact this
  · have hm : (min (K : Int) (s - d)).toNat ≤ K := by omega
    have h2 := pow_mono hm
    have e1 : wi h 0 (2 ^ K - 1) = false := by simp [wi]; omega
    have e2 : wi h 0 (2 ^ (min (K : Int) (s - d)).toNat - 1) = false := by simp [wi]; omega
    rw [e1, e2]; simp
theorem spow_at (K : Nat) (v : Int) (hK : K ≤ 4) (hv : 2 ^ K = v) (w : World) : Calls Try.prog 40 #[.int .i64 (K : Int)] w fun e w' => e = .returned (.int .i64 v) ∧ w = w' := by
  rw [← hv]; exact spow_any K hK w
theorem inr_at (x lo hi : Int) (b : Bool) (hb : wi x lo hi = b) (w : World) : Calls Try.prog 28 #[.int .i64 x, .int .i64 lo, .int .i64 hi] w fun e w' => e = .returned (.bool b) ∧ w = w' := by
  rw [← hb]; exact inr_any x lo hi w

end Go.Proofs.Ytnbgfffcialfkaa
