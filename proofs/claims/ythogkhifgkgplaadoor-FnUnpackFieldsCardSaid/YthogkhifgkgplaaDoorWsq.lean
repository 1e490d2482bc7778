/-
  The walk of the library's own comparison of two lists of numbers. Conditions: where the lists lie, and the lengths that are typed.
-/
import Derived.Test.YthogkhifgkgplaaDoorIrow
namespace Go.Proofs.YthogkhifgkgplaaDoor
open Go.RowKit
set_option linter.unusedVariables false

set_option maxHeartbeats 800000 in
theorem sq_at (w : World) (b off c b2 off2 c2 n : Nat) (xs ys : List Int) (hx : xs.length = n) (hy : ys.length = n) (hn2 : n ≤ 1048576) (h : At w b off xs) (h2 : At w b2 off2 ys) :
    Calls Tryd.prog 60 #[.slice (some ⟨b, off, none⟩) n c, .slice (some ⟨b2, off2, none⟩) n c2] w
      fun e w' => e = .returned (.bool (decide (xs = ys))) ∧ ∃ m, w' = w.drewN m := by
  have HX := Lib.hid hx
  have HY := Lib.hid hy
  have HC := Lib.hid h.2
  have HC2 := Lib.hid h2.2
  clear h h2 hx hy
  go_enter Tryd.func60, Tryd.ntmps60
  go_wp2
  go_loopw [5, 13] (fun _ i wr => ∃ k m : Nat, k ≤ n ∧ i = .int .i64 k ∧ wr = w.drewN m ∧ ∀ j, j < k → xs.getD j 0 = ys.getD j 0) (fun _ i _ => n - (intOf i).toNat)
  case atStart => exact ⟨0, 0, Nat.zero_le _, rfl, rfl, fun j hj => absurd hj (by omega)⟩
  case round =>
    obtain ⟨k, m, hk, rfl, rfl, hall⟩ := hrel
    have HA := Lib.hid hall
    clear hall
    by_cases hlt : k < n
    · have hc1 := HC.out k (by have := HX.out; omega)
      have hc2 := HC2.out k (by have := HY.out; omega)
      have hk0 : (0 : Int) ≤ (k : Int) := by omega
      have hkn : (k : Int) < (n : Int) := by omega
      by_cases he : xs.getD k 0 = ys.getD k 0
      · have HE := Lib.hid he
        rw [← he] at hc2
        clear he
        generalize xs.getD k 0 = x at hc1 hc2
        go_wp2
        go_quiet (fail)
        go_wp2
        go_roundw
        case rel =>
          refine ⟨k + 1, m + nq, by omega, by go_num, rfl, fun j hj => ?_⟩
          rcases (show j < k ∨ j = k from by omega) with h | h
          · exact HA.out j h
          · rw [h]; exact HE.out
        case measure => simp [intOf]; omega
      · have HE := Lib.hid he
        have hxy : (xs.getD k 0 != ys.getD k 0) = true := by simpa using he
        clear he
        generalize xs.getD k 0 = x at hc1 hxy
        generalize ys.getD k 0 = y at hc2 hxy
        go_wp2
        go_quiet (fail)
        go_wp2
        go_ret
        exact ⟨ret_bool (by symm; simp; intro e; exact HE.out (by rw [e])), m + nq, by rw [World.drewN_drewN]⟩
    · go_wp2
      go_ret
      have e : xs = ys := getD_ext (HX.out.trans HY.out.symm) (fun j hj => HA.out j (by have := HX.out; omega))
      exact ⟨ret_bool (by simp [e]), m, rfl⟩
set_option maxHeartbeats 400000 in
theorem sq_len (w : World) (A A2 : Option Addr) (n n2 c c2 : Nat) (h : n ≠ n2) :
    Calls Tryd.prog 60 #[.slice A n c, .slice A2 n2 c2] w fun e w' => e = .returned (.bool false) ∧ w' = w := by
  have h2 : ((n : Int) != (n2 : Int)) = true := by simp; omega
  go_enter Tryd.func60, Tryd.ntmps60
  go_wp2
  go_ret
  exact ⟨rfl, rfl⟩
/-- Two lists, the first of which is not empty, compared. -/
theorem sq_any (w : World) (v u : Value) (xs ys : List Int) (h : Rds w v xs) (h2 : Rds w u ys) (hn : xs.length ≤ 1048576) (hpos : 0 < xs.length) :
    Calls Tryd.prog 60 #[v, u] w fun e w' => e = .returned (.bool (decide (xs = ys))) ∧ ∃ m, w' = w.drewN m := by
  obtain ⟨A, c, rfl, h1⟩ := h
  obtain ⟨A2, c2, rfl, h3⟩ := h2
  by_cases hl : xs.length = ys.length
  · obtain ⟨b, off, rfl, ha⟩ := h1 hpos
    obtain ⟨b2, off2, rfl, ha2⟩ := h3 (by omega)
    rw [← hl]
    exact sq_at w b off c b2 off2 c2 xs.length xs ys rfl hl.symm hn ha ha2
  · refine (sq_len w A A2 _ _ c c2 hl).mono fun e w' ⟨e1, e2⟩ => ⟨?_, 0, e2⟩
    rw [e1]
    exact ret_bool (by symm; exact decide_eq_false (fun e => hl (by rw [e])))
end Go.Proofs.YthogkhifgkgplaaDoor
