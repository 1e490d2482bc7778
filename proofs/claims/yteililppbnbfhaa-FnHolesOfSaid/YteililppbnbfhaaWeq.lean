/-
  The walk of the model's EndOf. Conditions: where the list lies, and its length.
-/
import Derived.Test.YteililppbnbfhaaWes
namespace Go.Proofs.Yteililppbnbfhaa
open Go.RowKit
set_option linter.unusedVariables false

set_option maxHeartbeats 400000 in
theorem se_nil (w : World) (A : Option Addr) (c : Nat) :
    Calls Try.prog 46 #[.slice A 0 c] w fun e w' => e = .returned (.int .i64 (-1)) ∧ ∃ m, w' = w.drewN m := by
  go_enter Try.func46, Try.ntmps46
  go_wp2
  refine wp_loop_rounds 1 ?_
  rw [rounds_succ]
  go_wp2
  refine wp_loop_rounds 1 ?_
  rw [rounds_succ]
  go_wp2
  go_ret
  exact ⟨rfl, 0, rfl⟩
theorem se_any (w : World) (v : Value) (ps : List Pc) (h : PRds w v ps) (hn : ps.length ≤ 1048576) (hv : ps.all pcB = true) :
    Calls Try.prog 46 #[v] w fun e w' => e = .returned (.int .i64 (endS ps)) ∧ ∃ m, w' = w.drewN m := by
  obtain ⟨A, c, rfl, h1⟩ := h
  rcases Nat.eq_zero_or_pos ps.length with h0 | h0
  · obtain rfl : ps = [] := List.eq_nil_of_length_eq_zero h0
    exact se_nil w A c
  · obtain ⟨b, off, rfl, ha⟩ := h1 h0
    exact se_at w b off c ps.length ps rfl hn hv ha
set_option maxHeartbeats 800000 in
theorem sEO_any (w : World) (v : Value) (ps : List Pc) (h : PRds w v ps) (hn : ps.length ≤ 1048576) :
    Calls Try.prog 35 #[v] w fun e w' => e = .returned (.tuple #[.int .i64 (endR ps), .bool (okE ps)]) ∧ ∃ m, w' = w.drewN m := by
  have hv := svp_any w v ps h hn
  have hs : ps.all pcB = true → ∀ m, Calls Try.prog 46 #[v] (w.drewN m) fun e w' => e = .returned (.int .i64 (endS ps)) ∧ ∃ m', w' = (w.drewN m).drewN m' := fun ha m => se_any (w.drewN m) v ps (h.drewN m) hn ha
  obtain ⟨A, c, rfl, _⟩ := h
  cases hb : vpB ps
  · have e1 : endR ps = -1 := by simp [endR, okE, hb]
    have e2 : okE ps = false := by simp [okE, hb]
    rw [e1, e2]
    rw [hb] at hv
    have HV := Lib.hid hv
    clear hv hb e1 e2 hs
    go_enter Try.func35, Try.ntmps35
    go_wp2_with (go_at_call 25; refine HV.out.mono ?_; rintro e w' ⟨rfl, m, rfl⟩)
    go_ret2
    exact ⟨rfl, m, rfl⟩
  · have hall : ps.all pcB = true := by simp only [vpB, Bool.and_eq_true] at hb; exact hb.1
    have hS := hs hall
    rw [hb] at hv
    have hbd := fE_bd hall
    cases hg : ps.all (gw (fE ps))
    · have e1 : endR ps = -1 := by simp [endR, okE, hg]
      have e2 : okE ps = false := by simp [okE, hg]
      have e3 : endS ps = -2 := by simp [endS, hg]
      rw [e1, e2]
      rw [e3] at hS
      have HV := Lib.hid hv
      have HS := Lib.hid hS
      clear hv hb e1 e2 e3 hs hS hall hg hbd
      go_enter Try.func35, Try.ntmps35
      go_wp2_with (first | (go_at_call 25; refine HV.out.mono ?_; rintro e w' ⟨rfl, m, rfl⟩) | (go_at_call 46; refine (HS.out _).mono ?_; rintro e w' ⟨rfl, m', rfl⟩))
      go_ret2
      exact ⟨rfl, _, rfl⟩
    · have e1 : endR ps = fE ps := by simp [endR, okE, hg, hb]
      have e2 : okE ps = true := by simp [okE, hg, hb]
      have e3 : endS ps = fE ps := by simp [endS, hg]
      rw [e1, e2]
      rw [e3] at hS
      generalize fE ps = E at *
      have hE : decide (-2 < E) = true := by simp; omega
      have hm : max E (-1) = E := by omega
      have HV := Lib.hid hv
      have HS := Lib.hid hS
      clear hv hb e1 e2 e3 hs hS hall hg
      go_enter Try.func35, Try.ntmps35
      go_wp2_with (first | (go_at_call 25; refine HV.out.mono ?_; rintro e w' ⟨rfl, m, rfl⟩) | (go_at_call 46; refine (HS.out _).mono ?_; rintro e w' ⟨rfl, m', rfl⟩))
      all_goals
        go_ret2
        exact ⟨by first | rfl | (congr 3; omega), _, rfl⟩
end Go.Proofs.Yteililppbnbfhaa
