/-
  The walks of the program's small functions on links. Conditions: the bounds that are typed.
-/
import Derived.Test.YtpjefjomihnbhaaWvp
import Derived.Test.YtpjefjomihnbhaaWhq
namespace Go.Proofs.Ytpjefjomihnbhaa
open Go.RowKit
set_option linter.unusedVariables false

set_option maxHeartbeats 400000 in
theorem ims_any (n a k m kn : Int) (w : World) (ha : 1 ≤ a ∧ a ≤ 4) (hm : 1 ≤ m ∧ m ≤ 5) (hk : 0 ≤ kn ∧ kn ≤ 5) :
    Calls Try.prog 23 #[(.agg #[.int .i64 n, .int .i64 a, .int .i64 k, .int .i64 m]), .int .i64 kn] w fun e w' => e = .returned (.int .i64 (min m (kn + a))) ∧ w' = w.alloc (.cells #[.int .i64 n, .int .i64 a, .int .i64 k, .int .i64 m] 24) := by
  go_enter Try.func23, Try.ntmps23
  go_wp2
  all_goals
    go_ret
    exact ⟨ret_int (by omega), rfl⟩

theorem irs_any (n a k m x y : Int) (w : World) (hn : 2 ≤ n ∧ n ≤ 4) (hx : 0 ≤ x ∧ x ≤ 100) (hy : 0 ≤ y ∧ y ≤ 100) :
    Calls Try.prog 33 #[(.agg #[.int .i64 n, .int .i64 a, .int .i64 k, .int .i64 m]), .int .i64 x, .int .i64 y] w fun e w' => e = .returned (.bool (decide (x % n = y % n))) ∧ ∃ q, w' = (w.alloc (.cells #[.int .i64 n, .int .i64 a, .int .i64 k, .int .i64 m] 24)).drewN q := by
  go_enter Try.func33, Try.ntmps33
  go_wp2
  go_quiet (fail)
  go_wp2
  go_ret
  exact ⟨ret_bool (by rfl), _, rfl⟩

theorem isa_any (kn s d h da wo x : Int) (w : World) (hk : 0 ≤ kn ∧ kn ≤ 5) (hx : 0 ≤ x ∧ x ≤ 9) :
    Calls Try.prog 28 #[(.agg #[.int .i64 kn, .int .i64 s, .int .i64 d, .int .i64 h, .int .i64 da, .int .i64 wo]), .int .i64 x] w fun e w' => e = .returned (if da = -1 ∧ kn + x < s then .agg #[.int .i64 kn, .int .i64 s, .int .i64 d, .int .i64 h, .int .i64 (kn + x), .int .i64 wo] else (.agg #[.int .i64 kn, .int .i64 s, .int .i64 d, .int .i64 h, .int .i64 da, .int .i64 wo])) ∧ Below w.heap.size w w' := by
  by_cases h1 : da = -1
  · subst h1
    by_cases h2 : kn + x < s
    · rw [if_pos ⟨rfl, h2⟩]
      go_enter Try.func28, Try.ntmps28
      go_wp2
      exact bodyPost_ret (v := .agg #[.int .i64 kn, .int .i64 s, .int .i64 d, .int .i64 h, .int .i64 (kn + x), .int .i64 wo]) (by simp [results, Try.results28, go_sem]) rfl ⟨rfl, (by repeat (first | exact Below.refl _ _ | assumption | refine belowD ?_ _ | refine Below.alloc ?_ (by first | exact Nat.le_refl _ | (simp; done) | (simp; omega)) _ | refine Below.setCell ?_ (by first | (simp; done) | (simp; omega)) _))⟩
    · rw [if_neg (by omega)]
      have hd : decide (kn + x < s) = false := by simpa using h2
      go_enter Try.func28, Try.ntmps28
      go_wp2
      exact bodyPost_ret (v := .agg #[.int .i64 kn, .int .i64 s, .int .i64 d, .int .i64 h, .int .i64 (-1), .int .i64 wo]) (by simp [results, Try.results28, go_sem]) rfl ⟨rfl, (by repeat (first | exact Below.refl _ _ | assumption | refine belowD ?_ _ | refine Below.alloc ?_ (by first | exact Nat.le_refl _ | (simp; done) | (simp; omega)) _ | refine Below.setCell ?_ (by first | (simp; done) | (simp; omega)) _))⟩
  · rw [if_neg (by omega)]
    have hd : (da == -1) = false := by simpa using h1
    go_enter Try.func28, Try.ntmps28
    go_wp2
    exact bodyPost_ret (v := (.agg #[.int .i64 kn, .int .i64 s, .int .i64 d, .int .i64 h, .int .i64 da, .int .i64 wo])) (by simp [results, Try.results28, go_sem]) rfl ⟨rfl, (by repeat (first | exact Below.refl _ _ | assumption | refine belowD ?_ _ | refine Below.alloc ?_ (by first | exact Nat.le_refl _ | (simp; done) | (simp; omega)) _ | refine Below.setCell ?_ (by first | (simp; done) | (simp; omega)) _))⟩

theorem same_l {P : Program} {f : FuncId} {args : Array Value} {w : World} {v : Value} (h : Calls P f args w fun e w' => e = .returned v ∧ w = w') : Calls P f args w fun e w' => e = .returned v ∧ w' = w :=
  h.mono fun _ _ ⟨he, hw⟩ => ⟨he, hw.symm⟩
theorem wpow (j : Nat) (h : j ≤ 5) : wrap64 (wrap64 (2 ^ j) - 1) = 2 ^ j - 1 := by
  rcases (show j = 0 ∨ j = 1 ∨ j = 2 ∨ j = 3 ∨ j = 4 ∨ j = 5 from by omega) with rfl | rfl | rfl | rfl | rfl | rfl <;> decide +kernel
set_option maxHeartbeats 800000 in
theorem ivh_any (n a k m kn s d h da wo : Int) (w : World) (hk : 1 ≤ k ∧ k ≤ 4) (hd : 0 ≤ d ∧ d ≤ s ∧ s ≤ 5) :
    Calls Try.prog 24 #[(.agg #[.int .i64 n, .int .i64 a, .int .i64 k, .int .i64 m]), (.agg #[.int .i64 kn, .int .i64 s, .int .i64 d, .int .i64 h, .int .i64 da, .int .i64 wo])] w fun e w' => e = .returned (.bool (decide (h % 2 = 0) && wi h 0 (2 ^ (min k (s - d)).toNat - 1))) ∧ Below w.heap.size w w' := by
  by_cases h2 : h % 2 = 0
  · have h3 : h.tmod 2 = 0 := by rw [Int.tmod_eq_emod]; split <;> omega
    have e2 : decide (h % 2 = 0) = true := by simpa using h2
    rw [e2, Bool.true_and]
    by_cases hmn : s - d < k
    · have hj : (min k (s - d)).toNat = (s - d).toNat := by omega
      rw [hj, ← wpow (s - d).toNat (by omega)]
      clear hj h2 e2
      go_enter Try.func24, Try.ntmps24
      go_wp2
      go_quiet ((go_at_call 22; exact Calls.quiet_of_same (same_l (wit_any _ _ _ _))))
      go_wp2
      go_ret
      exact ⟨rfl, (by repeat (first | exact Below.refl _ _ | assumption | refine belowD ?_ _ | refine Below.alloc ?_ (by first | exact Nat.le_refl _ | (simp; done) | (simp; omega)) _ | refine Below.setCell ?_ (by first | (simp; done) | (simp; omega)) _))⟩
    · have hj : (min k (s - d)).toNat = k.toNat := by omega
      rw [hj, ← wpow k.toNat (by omega)]
      clear hj h2 e2
      go_enter Try.func24, Try.ntmps24
      go_wp2
      go_quiet ((go_at_call 22; exact Calls.quiet_of_same (same_l (wit_any _ _ _ _))))
      go_wp2
      go_ret
      exact ⟨rfl, (by repeat (first | exact Below.refl _ _ | assumption | refine belowD ?_ _ | refine Below.alloc ?_ (by first | exact Nat.le_refl _ | (simp; done) | (simp; omega)) _ | refine Below.setCell ?_ (by first | (simp; done) | (simp; omega)) _))⟩
  · have h3 : (h.tmod 2 == 0) = false := by
      have : h.tmod 2 ≠ 0 := by rw [Int.tmod_eq_emod]; split <;> omega
      simpa using this
    have e2 : decide (h % 2 = 0) = false := by simpa using h2
    rw [e2, Bool.false_and]
    clear h2 e2
    go_enter Try.func24, Try.ntmps24
    go_wp2
    go_quiet ((go_at_call 22; exact Calls.quiet_of_same (same_l (wit_any _ _ _ _))))
    go_wp2
    go_ret
    exact ⟨rfl, (by repeat (first | exact Below.refl _ _ | assumption | refine belowD ?_ _ | refine Below.alloc ?_ (by first | exact Nat.le_refl _ | (simp; done) | (simp; omega)) _ | refine Below.setCell ?_ (by first | (simp; done) | (simp; omega)) _))⟩
end Go.Proofs.Ytpjefjomihnbhaa
