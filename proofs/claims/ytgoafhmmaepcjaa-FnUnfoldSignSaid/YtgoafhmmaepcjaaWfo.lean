/-
  The walks of the functions that fold and unfold signs. No condition.
-/
import Derived.Test.YtgoafhmmaepcjaaWlw
namespace Go.Proofs.Ytgoafhmmaepcjaa
open Go.RowKit
set_option linter.unusedVariables false

/-- A folded sign. -/
def fsR (x : Int) : Int := if (decide (-1000000 ≤ x) && decide (x ≤ 1000000)) = true then (if x < 0 then -2 * x - 1 else 2 * x) else -1
def unB (x : Int) : Bool := decide (0 ≤ x) && decide (x ≤ 2000000)
/-- An unfolded sign. -/
def unR (x : Int) : Int := if unB x = true then (if x % 2 = 1 then -((x + 1) / 2) else x / 2) else 0
theorem un_fs {x : Int} (h : 0 ≤ fsR x) : unB (fsR x) = true ∧ unR (fsR x) = x := by
  unfold fsR at h ⊢
  split at h <;> rename_i hc
  · rw [if_pos hc]
    simp only [Bool.and_eq_true, decide_eq_true_eq] at hc
    split <;> rename_i hn
    · have hb : unB (-2 * x - 1) = true := by simp only [unB, Bool.and_eq_true, decide_eq_true_eq]; omega
      refine ⟨hb, ?_⟩
      unfold unR; rw [if_pos hb, if_pos (by omega)]; omega
    · have hb : unB (2 * x) = true := by simp only [unB, Bool.and_eq_true, decide_eq_true_eq]; omega
      refine ⟨hb, ?_⟩
      unfold unR; rw [if_pos hb, if_neg (by omega)]; omega
  · omega
theorem fs_un {x : Int} (h : unB x = true) : fsR (unR x) = x := by
  have hb := h
  simp only [unB, Bool.and_eq_true, decide_eq_true_eq] at hb
  unfold unR; rw [if_pos h]
  split <;> rename_i ho
  · unfold fsR
    rw [if_pos (by simp only [Bool.and_eq_true, decide_eq_true_eq]; omega), if_pos (by omega)]; omega
  · unfold fsR
    rw [if_pos (by simp only [Bool.and_eq_true, decide_eq_true_eq]; omega), if_neg (by omega)]; omega

set_option maxHeartbeats 400000 in
theorem sFS_any (x : Int) (w : World) :
    Calls Try.prog 11 #[.int .i64 x] w fun e w' => e = .returned (.int .i64 (fsR x)) ∧ w = w' := by
  have hc := inr_any w x (-1000000) 1000000
  cases hb : (decide (-1000000 ≤ x) && decide (x ≤ 1000000))
  · have e : fsR x = -1 := by unfold fsR; rw [hb]; rfl
    rw [hb] at hc
    rw [e]
    have H := Lib.hid hc
    clear hc e hb
    go_enter Try.func11, Try.ntmps11
    go_wp2_with (go_at_call 28; refine H.out.mono ?_; rintro e w' ⟨rfl, rfl⟩)
    go_ret
    exact ⟨rfl, rfl⟩
  · have hx := hb
    simp only [Bool.and_eq_true, decide_eq_true_eq] at hx
    obtain ⟨x0, x1⟩ := hx
    rw [hb] at hc
    have H := Lib.hid hc
    by_cases h0 : x < 0
    · have e : fsR x = -2 * x - 1 := by unfold fsR; rw [if_pos hb, if_pos h0]
      rw [e]
      clear hc e hb
      go_enter Try.func11, Try.ntmps11
      go_wp2_with (go_at_call 28; refine H.out.mono ?_; rintro e w' ⟨rfl, rfl⟩)
      go_ret
      exact ⟨ret_int (by omega), rfl⟩
    · have e : fsR x = 2 * x := by unfold fsR; rw [if_pos hb, if_neg h0]
      rw [e]
      clear hc e hb
      go_enter Try.func11, Try.ntmps11
      go_wp2_with (go_at_call 28; refine H.out.mono ?_; rintro e w' ⟨rfl, rfl⟩)
      go_ret
      exact ⟨ret_int (by omega), rfl⟩

set_option maxHeartbeats 400000 in
theorem sUN_any (x : Int) (w : World) :
    Calls Try.prog 13 #[.int .i64 x] w fun e w' => e = .returned (.tuple #[.int .i64 (unR x), .bool (unB x)]) ∧ w = w' := by
  have hc : Calls Try.prog 28 #[.int .i64 x, .int .i64 0, .int .i64 2000000] w fun e w' => e = .returned (.bool (unB x)) ∧ w = w' := inr_any w x 0 2000000
  cases hb : unB x
  · have e : unR x = 0 := by unfold unR; rw [hb]; rfl
    rw [hb] at hc
    rw [e]
    have H := Lib.hid hc
    clear hc e hb
    go_enter Try.func13, Try.ntmps13
    go_wp2_with (go_at_call 28; refine H.out.mono ?_; rintro e w' ⟨rfl, rfl⟩)
    go_ret2
    exact ⟨rfl, rfl⟩
  · have hx := hb
    simp only [unB, Bool.and_eq_true, decide_eq_true_eq] at hx
    obtain ⟨x0, x1⟩ := hx
    rw [hb] at hc
    have H := Lib.hid hc
    by_cases h0 : x % 2 = 1
    · have e : unR x = -((x + 1) / 2) := by unfold unR; rw [if_pos hb, if_pos h0]
      have h1 : (x % 2 == 1) = true := by simpa using h0
      have h3 : (-(x + 1)).tdiv 2 = -((x + 1) / 2) := by
        rw [Int.neg_tdiv, Int.tdiv_eq_ediv_of_nonneg (by omega)]
      rw [e]
      clear hc e hb h0
      go_enter Try.func13, Try.ntmps13
      go_wp2_with (go_at_call 28; refine H.out.mono ?_; rintro e w' ⟨rfl, rfl⟩)
      go_ret2
      exact ⟨rfl, rfl⟩
    · have e : unR x = x / 2 := by unfold unR; rw [if_pos hb, if_neg h0]
      have h1 : (x % 2 == 1) = false := by simpa using h0
      rw [e]
      clear hc e hb h0
      go_enter Try.func13, Try.ntmps13
      go_wp2_with (go_at_call 28; refine H.out.mono ?_; rintro e w' ⟨rfl, rfl⟩)
      go_ret2
      exact ⟨rfl, rfl⟩

set_option maxHeartbeats 400000 in
theorem iFS_any (x : Int) (w : World) :
    Calls Try.prog 12 #[.int .i64 x] w fun e w' => e = .returned (.int .i64 (fsR x)) ∧ w = w' := by
  have hc := wit_any w x (-1000000) 1000000
  cases hb : (decide (-1000000 ≤ x) && decide (x ≤ 1000000))
  · have e : fsR x = -1 := by unfold fsR; rw [hb]; rfl
    rw [hb] at hc
    rw [e]
    have H := Lib.hid hc
    clear hc e hb
    go_enter Try.func12, Try.ntmps12
    go_wp2_with (go_at_call 29; refine H.out.mono ?_; rintro e w' ⟨rfl, rfl⟩)
    go_ret
    exact ⟨rfl, rfl⟩
  · have hx := hb
    simp only [Bool.and_eq_true, decide_eq_true_eq] at hx
    obtain ⟨x0, x1⟩ := hx
    rw [hb] at hc
    have H := Lib.hid hc
    by_cases h0 : x < 0
    · have e : fsR x = -2 * x - 1 := by unfold fsR; rw [if_pos hb, if_pos h0]
      rw [e]
      clear hc e hb
      go_enter Try.func12, Try.ntmps12
      go_wp2_with (go_at_call 29; refine H.out.mono ?_; rintro e w' ⟨rfl, rfl⟩)
      go_ret
      exact ⟨ret_int (by omega), rfl⟩
    · have e : fsR x = 2 * x := by unfold fsR; rw [if_pos hb, if_neg h0]
      rw [e]
      clear hc e hb
      go_enter Try.func12, Try.ntmps12
      go_wp2_with (go_at_call 29; refine H.out.mono ?_; rintro e w' ⟨rfl, rfl⟩)
      go_ret
      exact ⟨ret_int (by omega), rfl⟩

set_option maxHeartbeats 400000 in
theorem iUN_any (x : Int) (w : World) :
    Calls Try.prog 14 #[.int .i64 x] w fun e w' => e = .returned (.tuple #[.int .i64 (unR x), .bool (unB x)]) ∧ w = w' := by
  have hc : Calls Try.prog 29 #[.int .i64 x, .int .i64 0, .int .i64 2000000] w fun e w' => e = .returned (.bool (unB x)) ∧ w = w' := wit_any w x 0 2000000
  cases hb : unB x
  · have e : unR x = 0 := by unfold unR; rw [hb]; rfl
    rw [hb] at hc
    rw [e]
    have H := Lib.hid hc
    clear hc e hb
    go_enter Try.func14, Try.ntmps14
    go_wp2_with (go_at_call 29; refine H.out.mono ?_; rintro e w' ⟨rfl, rfl⟩)
    go_ret2
    exact ⟨rfl, rfl⟩
  · have hx := hb
    simp only [unB, Bool.and_eq_true, decide_eq_true_eq] at hx
    obtain ⟨x0, x1⟩ := hx
    rw [hb] at hc
    have H := Lib.hid hc
    by_cases h0 : x % 2 = 1
    · have e : unR x = -((x + 1) / 2) := by unfold unR; rw [if_pos hb, if_pos h0]
      have h1 : (x % 2 == 1) = true := by simpa using h0
      have h3 : (-(x + 1)).tdiv 2 = -((x + 1) / 2) := by
        rw [Int.neg_tdiv, Int.tdiv_eq_ediv_of_nonneg (by omega)]
      rw [e]
      clear hc e hb h0
      go_enter Try.func14, Try.ntmps14
      go_wp2_with (go_at_call 29; refine H.out.mono ?_; rintro e w' ⟨rfl, rfl⟩)
      go_ret2
      exact ⟨rfl, rfl⟩
    · have e : unR x = x / 2 := by unfold unR; rw [if_pos hb, if_neg h0]
      have h1 : (x % 2 == 1) = false := by simpa using h0
      rw [e]
      clear hc e hb h0
      go_enter Try.func14, Try.ntmps14
      go_wp2_with (go_at_call 29; refine H.out.mono ?_; rintro e w' ⟨rfl, rfl⟩)
      go_ret2
      exact ⟨rfl, rfl⟩

end Go.Proofs.Ytgoafhmmaepcjaa
