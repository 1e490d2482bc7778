/-
  The walk of the laws' function that compares lists of texts. Conditions: where the lists lie, and their length.
-/
import Derived.Test.YtogoedjcacnfcaaDoorSrow
import Derived.Test.YtogoedjcacnfcaaDoorWmkt
namespace Go.Proofs.YtogoedjcacnfcaaDoor
open Go.RowKit
set_option linter.unusedVariables false

set_option maxHeartbeats 800000 in
theorem eqT_at (w : World) (b off c b2 off2 c2 n : Nat) (xs : List ByteArray) (hx : xs.length = n) (hn2 : n ≤ 1048576) (h : AtS w b off xs) (h2 : AtS w b2 off2 xs) :
    Calls Tryd.prog 14 #[.slice (some ⟨b, off, none⟩) n c, .slice (some ⟨b2, off2, none⟩) n c2] w
      fun e w' => e = .returned (.bool true) ∧ ∃ m, w' = w.drewN m := by
  have HX := Lib.hid hx
  have HC := Lib.hid h.2
  have HC2 := Lib.hid h2.2
  clear h h2 hx
  go_enter Tryd.func14, Tryd.ntmps14
  go_wp2
  go_loopw [5] (fun i wr => ∃ k m : Nat, k ≤ n ∧ i = .int .i64 k ∧ wr = w.drewN m) (fun i _ => n - (intOf i).toNat)
  case atStart => exact ⟨0, 0, Nat.zero_le _, rfl, rfl⟩
  case round =>
    obtain ⟨k, m, hk, rfl, rfl⟩ := hrel
    by_cases hlt : k < n
    · have hc1 := HC.out k (by have := HX.out; omega)
      have hc2 := HC2.out k (by have := HX.out; omega)
      have hk0 : (0 : Int) ≤ (k : Int) := by omega
      have hkn : (k : Int) < (n : Int) := by omega
      generalize xs.getD k ByteArray.empty = x at hc1 hc2
      go_wp2
      go_quiet (fail)
      go_wp2
      go_roundw
      case rel => exact ⟨k + 1, m + nq, by omega, by go_num, rfl⟩
      case measure => simp [intOf]; omega
    · go_wp2
      go_ret
      exact ⟨rfl, m, rfl⟩
set_option maxHeartbeats 400000 in
theorem eqT_nil (w : World) (A A2 : Option Addr) (c c2 : Nat) :
    Calls Tryd.prog 14 #[.slice A 0 c, .slice A2 0 c2] w fun e w' => e = .returned (.bool true) ∧ w' = w := by
  go_enter Tryd.func14, Tryd.ntmps14
  go_wp2
  refine wp_loop_rounds 1 ?_
  rw [rounds_succ]
  go_wp2
  go_ret
  exact ⟨rfl, rfl⟩
theorem eqT_same (w : World) (v u : Value) (xs : List ByteArray) (h : Rss w v xs) (h2 : Rss w u xs) (hn : xs.length ≤ 1048576) :
    Calls Tryd.prog 14 #[v, u] w fun e w' => e = .returned (.bool true) ∧ ∃ m, w' = w.drewN m := by
  obtain ⟨A, c, rfl, h1⟩ := h
  obtain ⟨A2, c2, rfl, h3⟩ := h2
  rcases Nat.eq_zero_or_pos xs.length with h0 | h0
  · rw [h0]
    exact (eqT_nil w A A2 c c2).mono fun e w' ⟨h1, h2⟩ => ⟨h1, 0, h2⟩
  · obtain ⟨b, off, rfl, ha⟩ := h1 h0
    obtain ⟨b2, off2, rfl, ha2⟩ := h3 h0
    exact eqT_at w b off c b2 off2 c2 xs.length xs rfl hn ha ha2

end Go.Proofs.YtogoedjcacnfcaaDoor
