/-
  The walk of the laws' own comparison of lists. Conditions: where the lists lie, and the lengths that are typed.
-/
import Derived.Test.YthogkhifgkgplaaDoorIrow
namespace Go.Proofs.YthogkhifgkgplaaDoor
open Go.RowKit
set_option linter.unusedVariables false

set_option maxHeartbeats 800000 in
theorem eqL_at (w : World) (b off c b2 off2 c2 n : Nat) (xs ys : List Int) (hx : xs.length = n) (hy : ys.length = n) (hn2 : n ≤ 1048576) (h : At w b off xs) (h2 : At w b2 off2 ys) :
    Calls Tryd.prog 16 #[.slice (some ⟨b, off, none⟩) n c, .slice (some ⟨b2, off2, none⟩) n c2] w
      fun e w' => e = .returned (.bool (decide (xs = ys))) ∧ ∃ m, w' = w.drewN m := by
  have HX := Lib.hid hx
  have HY := Lib.hid hy
  have HC := Lib.hid h.2
  have HC2 := Lib.hid h2.2
  clear h h2 hx hy
  go_enter Tryd.func16, Tryd.ntmps16
  go_wp2
  go_loopw [5] (fun i wr => ∃ k m : Nat, k ≤ n ∧ i = .int .i64 k ∧ wr = w.drewN m ∧ ∀ j, j < k → xs.getD j 0 = ys.getD j 0) (fun i _ => n - (intOf i).toNat)
  case atStart => exact ⟨0, 0, Nat.zero_le _, rfl, rfl, fun j hj => absurd hj (by omega)⟩
  case round =>
    obtain ⟨k, m, hk, rfl, rfl, hall⟩ := hrel
    have HA := Lib.hid hall
    clear hall
    by_cases hlt : k < n
    · have hc1 := HC.out k (by have := HX.out; omega)
      have hc2 := HC2.out k (by have := HY.out; omega)
      have hk0 : (0 : Int) ≤ (k : Int) := by omega
      have hkn : (k : Int) < (n : Int) := by omega
      by_cases he : xs.getD k 0 = ys.getD k 0
      · have HE := Lib.hid he
        rw [← he] at hc2
        clear he
        generalize xs.getD k 0 = x at hc1 hc2
        go_wp2
        go_quiet (fail)
        go_wp2
        go_roundw
        case rel =>
          refine ⟨k + 1, m + nq, by omega, by go_num, rfl, fun j hj => ?_⟩
          rcases (show j < k ∨ j = k from by omega) with h | h
          · exact HA.out j h
          · rw [h]; exact HE.out
        case measure => simp [intOf]; omega
      · have HE := Lib.hid he
        have hxy : (xs.getD k 0 != ys.getD k 0) = true := by simpa using he
        clear he
        generalize xs.getD k 0 = x at hc1 hxy
        generalize ys.getD k 0 = y at hc2 hxy
        go_wp2
        go_quiet (fail)
        go_wp2
        go_ret
        exact ⟨ret_bool (by symm; simp; intro e; exact HE.out (by rw [e])), m + nq, by rw [World.drewN_drewN]⟩
    · go_wp2
      go_ret
      have e : xs = ys := getD_ext (HX.out.trans HY.out.symm) (fun j hj => HA.out j (by have := HX.out; omega))
      exact ⟨ret_bool (by simp [e]), m, rfl⟩

set_option maxHeartbeats 400000 in
theorem eqL_nil (w : World) (A A2 : Option Addr) (c c2 : Nat) :
    Calls Tryd.prog 16 #[.slice A 0 c, .slice A2 0 c2] w fun e w' => e = .returned (.bool true) ∧ w' = w := by
  go_enter Tryd.func16, Tryd.ntmps16
  go_wp2
  refine wp_loop_rounds 1 ?_
  rw [rounds_succ]
  go_wp2
  go_ret
  exact ⟨rfl, rfl⟩

/-- Two lists of the same numbers are found equal. -/
theorem eqL_same (w : World) (v u : Value) (xs : List Int) (h : Rds w v xs) (h2 : Rds w u xs) (hn : xs.length ≤ 1048576) :
    Calls Tryd.prog 16 #[v, u] w fun e w' => e = .returned (.bool true) ∧ ∃ m, w' = w.drewN m := by
  obtain ⟨A, c, rfl, h1⟩ := h
  obtain ⟨A2, c2, rfl, h3⟩ := h2
  rcases Nat.eq_zero_or_pos xs.length with h0 | h0
  · rw [h0]
    exact (eqL_nil w A A2 c c2).mono fun e w' ⟨h1, h2⟩ => ⟨h1, 0, h2⟩
  · obtain ⟨b, off, rfl, ha⟩ := h1 h0
    obtain ⟨b2, off2, rfl, ha2⟩ := h3 h0
    have := eqL_at w b off c b2 off2 c2 xs.length xs xs rfl rfl hn ha ha2
    simpa using this

theorem own_fits' {w : World} {B e n : Nat} {v : Value} {xs : List Value} (h : w.ownsRow B e 1 v n xs) : ∀ A m c, v = .slice A m c → m ≤ c := by
  intro A m c hv
  rcases h.2 with ⟨rfl, _⟩ | ⟨g, cap, cur, rfl, _, _, hnc, _⟩
  · cases hv; omega
  · cases hv; exact hnc
end Go.Proofs.YthogkhifgkgplaaDoor
