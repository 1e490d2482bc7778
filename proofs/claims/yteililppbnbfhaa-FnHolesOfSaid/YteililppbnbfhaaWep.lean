/-
  The walk of the laws' function that compares lists of pieces. Conditions: where the lists lie, and their length.
-/
import Derived.Test.YteililppbnbfhaaPrw
import Derived.Test.YteililppbnbfhaaWes
namespace Go.Proofs.Yteililppbnbfhaa
open Go.RowKit
set_option linter.unusedVariables false

set_option maxHeartbeats 1600000 in
theorem eqL_at (w : World) (b off c b2 off2 c2 n : Nat) (ps : List Pc) (hn : ps.length = n) (hn2 : n ≤ 1048576) (h : PAt w b off ps) (h2 : PAt w b2 off2 ps) :
    Calls Try.prog 21 #[.slice (some ⟨b, off, none⟩) n c, .slice (some ⟨b2, off2, none⟩) n c2] w fun e w' => e = .returned (.bool true) ∧ ∃ m, w' = w.drewN m := by
  have HN := Lib.hid hn
  have HC := Lib.hid h
  have HC2 := Lib.hid h2
  clear h h2 hn
  go_enter Try.func21, Try.ntmps21
  go_wp2
  go_loopw [5] (fun iv wr => ∃ k m : Nat, k ≤ n ∧ iv = .int .i64 k ∧ wr = w.drewN m) (fun iv _ => n - (intOf iv).toNat)
  case atStart => exact ⟨0, 0, Nat.zero_le _, rfl, rfl⟩
  case round =>
    obtain ⟨k, m, hk, rfl, hwr⟩ := hrel
    by_cases hlt : k < n
    · obtain ⟨c0, c1, c2'⟩ := HC.out.2 k (by have := HN.out; omega)
      obtain ⟨d0', d1', d2'⟩ := HC2.out.2 k (by have := HN.out; omega)
      generalize ps.getD k d0 = q at *
      obtain ⟨x, y, z⟩ := q
      simp only at c0 c1 c2' d0' d1' d2'
      have k0 : (0 : Int) ≤ (k : Int) := by omega
      have k1 : (k : Int) < (n : Int) := by omega
      subst hwr
      go_wp2
      go_quiet (fail)
      go_wp2
      go_roundw
      case rel => exact ⟨k + 1, m + nq, by omega, by go_num, by first | rfl | (simp [World.drewN])⟩
      case measure => simp [intOf]; omega
    · subst hwr
      go_wp2
      go_ret
      exact ⟨rfl, m, rfl⟩
set_option maxHeartbeats 400000 in
theorem eqL_nil (w : World) (A A2 : Option Addr) (c c2 : Nat) :
    Calls Try.prog 21 #[.slice A 0 c, .slice A2 0 c2] w fun e w' => e = .returned (.bool true) ∧ ∃ m, w' = w.drewN m := by
  go_enter Try.func21, Try.ntmps21
  go_wp2
  refine wp_loop_rounds 1 ?_
  rw [rounds_succ]
  go_wp2
  go_ret
  exact ⟨rfl, 0, rfl⟩
theorem eqL_same (w : World) (v u : Value) (ps : List Pc) (h : PRds w v ps) (h2 : PRds w u ps) (hn : ps.length ≤ 1048576) :
    Calls Try.prog 21 #[v, u] w fun e w' => e = .returned (.bool true) ∧ ∃ m, w' = w.drewN m := by
  obtain ⟨A, c, rfl, h1⟩ := h
  obtain ⟨A2, c2, rfl, h3⟩ := h2
  rcases Nat.eq_zero_or_pos ps.length with h0 | h0
  · rw [h0]
    exact eqL_nil w A A2 c c2
  · obtain ⟨b, off, rfl, ha⟩ := h1 h0
    obtain ⟨b2, off2, rfl, ha2⟩ := h3 h0
    exact eqL_at w b off c b2 off2 c2 ps.length ps rfl hn ha ha2
end Go.Proofs.Yteililppbnbfhaa
