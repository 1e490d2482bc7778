/-
  The walk of the model's function that says which numbers pieces have, at any list. Conditions: where the list lies, and that its pieces are valid.
-/
import Derived.Test.YteililppbnbfhaaWcov
import Derived.Test.YteililppbnbfhaaWeq
namespace Go.Proofs.Yteililppbnbfhaa
open Go.RowKit
set_option linter.unusedVariables false

set_option maxHeartbeats 800000 in
theorem cov_nil (w : World) (A : Option Addr) (c : Nat) :
    Calls Try.prog 41 #[.slice A 0 c] w
      fun e w' => e = .returned (.slice (some ⟨w.heap.size, 0, none⟩) 60 60) ∧ OwnB w' w.heap.size w.heap.size (hasB []) ∧ Below w.heap.size w w' := by
  obtain ⟨i0, hi, hz0, hz1, hz2⟩ := info_parts infoB
  have HI := Lib.hid hi
  have HZ0 := Lib.hid hz0
  have HZ1 := Lib.hid hz1
  have HZ2 := Lib.hid hz2
  clear hi hz0 hz1 hz2
  go_enter Try.func41, Try.ntmps41
  go_wp2_with (at_make; refine wpList_make_full _ rfl _ _ 56 rfl w.heap.size 4 i0 (.bool false) 1 Try.underlying56 HI.out HZ0.out HZ1.out _ _ _ _ 60 rfl rfl rfl rfl (by rw [HZ2.out]; omega) (by unfold maxLen; omega) (Nat.le_refl _) ?_; intro w1 hown1 hg1; have hb1 := (Below.refl w.heap.size w).grown hg1 (Nat.le_refl _) (fun k hk => by cases hk))
  have ho1 : OwnB w1 w.heap.size w.heap.size (hasB []) := by
    unfold OwnB
    have e : bls (hasB []) = (madeCells (Value.bool false).cells (60 * 1)).toList := by
      rw [show (Value.bool false).cells = #[.bool false] from rfl, toList_madeCells_one]
      apply List.ext_getElem?
      intro j
      by_cases hj : j < 60
      · rw [bls_get _ _ hj, show (60 * 1) = 60 from rfl, List.getElem?_replicate, if_pos hj]; rfl
      · rw [List.getElem?_eq_none (by rw [bls_len]; omega), List.getElem?_eq_none (by simp; omega)]
    rw [e]; exact hown1
  have HO1 := Lib.hid ho1
  clear ho1 hown1 hg1
  refine wp_loop_rounds 1 ?_
  rw [rounds_succ]
  go_wp2
  go_ret
  exact ⟨rfl, HO1.out, hb1⟩
theorem cov_any (w : World) (v : Value) (ps : List Pc) (h : PRds w v ps) (hn2 : ps.length ≤ 1000) (hv : ps.all pcB = true) :
    Calls Try.prog 41 #[v] w
      fun e w' => e = .returned (.slice (some ⟨w.heap.size, 0, none⟩) 60 60) ∧ OwnB w' w.heap.size w.heap.size (hasB ps) ∧ Below w.heap.size w w' := by
  obtain ⟨A, c, rfl, h1⟩ := h
  rcases Nat.eq_zero_or_pos ps.length with h0 | h0
  · obtain rfl : ps = [] := List.eq_nil_of_length_eq_zero h0
    exact cov_nil w A c
  · obtain ⟨b, off, rfl, ha⟩ := h1 h0
    exact cov_at w b off c ps.length ps rfl hn2 hv ha

theorem okE_valid {ps : List Pc} (h : okE ps = true) : ps.all pcB = true ∧ ps.length ≤ 20 ∧ endR ps = fE ps := by
  have h' := h
  simp only [okE, vpB, lpB, Bool.and_eq_true, decide_eq_true_eq] at h'
  exact ⟨h'.1.1, by omega, by simp [endR, h]⟩
theorem inn_bd {ps : List Pc} (h : ps.all pcB = true) {k : Int} (hk : Inn ps k) : 0 ≤ k ∧ k < 60 := by
  obtain ⟨p, hp, h1, h2⟩ := hk
  have := pc_yes (List.all_eq_true.1 h p hp)
  unfold Pc.e at h2
  omega
end Go.Proofs.Yteililppbnbfhaa
