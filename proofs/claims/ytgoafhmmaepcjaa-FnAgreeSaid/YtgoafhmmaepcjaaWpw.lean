/-
  The walks of the functions that give powers of two and bits of numbers. Conditions: the bounds that are typed.
-/
import Derived.Test.YtgoafhmmaepcjaaWbas
namespace Go.Proofs.Ytgoafhmmaepcjaa
open Go.RowKit
set_option linter.unusedVariables false

/-- A power of two. -/
def p2 (j : Nat) : Int := ((2 ^ j : Nat) : Int)
/-- A bit of a number. -/
def bt (x j : Nat) : Int := ((x / 2 ^ j % 2 : Nat) : Int)
theorem bt_eq (x j : Nat) : bt x j = (x : Int) / p2 j % 2 := by unfold bt p2; simp
theorem pw_s (i : Nat) : (2 : Int) * p2 i = p2 (i + 1) := by unfold p2; rw [Nat.pow_succ]; omega
theorem pw_64 (i : Nat) (h : i ≤ 6) : 1 ≤ p2 i ∧ p2 i ≤ 64 := by
  rcases (show i = 0 ∨ i = 1 ∨ i = 2 ∨ i = 3 ∨ i = 4 ∨ i = 5 ∨ i = 6 from by omega) with rfl | rfl | rfl | rfl | rfl | rfl | rfl <;> decide
theorem spw_any (j : Nat) (hj : j ≤ 6) (w : World) : Calls Try.prog 41 #[.int .i64 (j : Int)] w fun e w' => e = .returned (.int .i64 (p2 j)) ∧ w = w' := by
  go_enter Try.func41, Try.ntmps41
  go_wp2
  go_loop [0, 3] (fun a b => ∃ i : Nat, i ≤ j ∧ a = .int .i64 ((j : Int) - i) ∧ b = .int .i64 (p2 i)) (fun a _ => (intOf a).toNat)
  case atStart => exact ⟨0, Nat.zero_le _, by simp, rfl⟩
  case round =>
    obtain ⟨i, hi, rfl, rfl⟩ := hrel
    have hp := pw_64 i (by omega)
    have hs := Lib.hid (pw_s i)
    by_cases hlt : i < j
    · have h1 : (0 : Int) < (j : Int) - i := by omega
      generalize p2 i = x at *
      go_wp2
      go_round
      case rel => exact ⟨i + 1, by omega, by rw [show (j : Int) - ((i + 1 : Nat) : Int) = (j : Int) - i - 1 from by omega], by rw [hs.out]⟩
      case measure => simp [intOf]; omega
    · obtain rfl : i = j := by omega
      have h1 : ¬ (0 : Int) < (i : Int) - i := by omega
      go_wp2
      go_ret
      exact ⟨rfl, rfl⟩
theorem sbt_any (x j : Nat) (hj : j ≤ 6) (hx : x ≤ 1000) (w : World) : Calls Try.prog 43 #[.int .i64 (x : Int), .int .i64 (j : Int)] w fun e w' => e = .returned (.int .i64 (bt x j)) ∧ w = w' := by
  have hp := pw_64 j hj
  have HP := Lib.hid (fun W => spw_any j hj W)
  have hd := bt_eq x j
  have hd0 : 0 ≤ (x : Int) / p2 j := Int.ediv_nonneg (by omega) (by omega)
  have hd1 : (x : Int) / p2 j ≤ x := Int.ediv_le_self _ (by omega)
  rw [hd]
  generalize p2 j = y at *
  clear hd
  go_enter Try.func43, Try.ntmps43
  go_wp2_with (go_at_call 41; refine (HP.out _).mono ?_; rintro e w' ⟨rfl, rfl⟩)
  go_ret
  exact ⟨rfl, rfl⟩
theorem lpw_any (j : Nat) (hj : j ≤ 6) (w : World) : Calls Try.prog 27 #[.int .i64 (j : Int)] w fun e w' => e = .returned (.int .i64 (p2 j)) ∧ w = w' := by
  go_enter Try.func27, Try.ntmps27
  go_wp2
  go_loop [0, 3] (fun a b => ∃ i : Nat, i ≤ j ∧ a = .int .i64 ((j : Int) - i) ∧ b = .int .i64 (p2 i)) (fun a _ => (intOf a).toNat)
  case atStart => exact ⟨0, Nat.zero_le _, by simp, rfl⟩
  case round =>
    obtain ⟨i, hi, rfl, rfl⟩ := hrel
    have hp := pw_64 i (by omega)
    have hs := Lib.hid (pw_s i)
    by_cases hlt : i < j
    · have h1 : (0 : Int) < (j : Int) - i := by omega
      generalize p2 i = x at *
      go_wp2
      go_round
      case rel => exact ⟨i + 1, by omega, by rw [show (j : Int) - ((i + 1 : Nat) : Int) = (j : Int) - i - 1 from by omega], by rw [hs.out]⟩
      case measure => simp [intOf]; omega
    · obtain rfl : i = j := by omega
      have h1 : ¬ (0 : Int) < (i : Int) - i := by omega
      go_wp2
      go_ret
      exact ⟨rfl, rfl⟩
theorem lbt_any (x j : Nat) (hj : j ≤ 6) (hx : x ≤ 1000) (w : World) : Calls Try.prog 26 #[.int .i64 (x : Int), .int .i64 (j : Int)] w fun e w' => e = .returned (.int .i64 (bt x j)) ∧ w = w' := by
  have hp := pw_64 j hj
  have HP := Lib.hid (fun W => lpw_any j hj W)
  have hd := bt_eq x j
  have hd0 : 0 ≤ (x : Int) / p2 j := Int.ediv_nonneg (by omega) (by omega)
  have hd1 : (x : Int) / p2 j ≤ x := Int.ediv_le_self _ (by omega)
  rw [hd]
  generalize p2 j = y at *
  clear hd
  go_enter Try.func26, Try.ntmps26
  go_wp2_with (go_at_call 27; refine (HP.out _).mono ?_; rintro e w' ⟨rfl, rfl⟩)
  go_ret
  exact ⟨rfl, rfl⟩
end Go.Proofs.Ytgoafhmmaepcjaa
