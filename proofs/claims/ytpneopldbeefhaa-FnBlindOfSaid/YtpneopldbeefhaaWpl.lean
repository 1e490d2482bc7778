/-
  The walk of the laws' own comparison of lists of pairs. Conditions: where the lists lie, and the lengths that are typed.
-/
import Derived.Test.YtpneopldbeefhaaWpr
import Derived.Test.YtpneopldbeefhaaWeql
namespace Go.Proofs.Ytpneopldbeefhaa
open Go.RowKit
set_option linter.unusedVariables false

set_option maxHeartbeats 800000 in
theorem eqLL_any (w : World) (B B' : Nat) (v u : Value) (gs gs' : List Nat) (f : Nat → Int × Int) (h : PR w B v gs f) (h2 : PR w B' u gs' f) (hl : gs'.length = gs.length) (hn : gs.length ≤ 1000) :
    Calls Try.prog 15 #[v, u] w fun e w' => e = .returned (.bool true) ∧ ∃ m, w' = w.drewN m := by
  rcases Nat.eq_zero_or_pos gs.length with h0 | h0
  · obtain ⟨A, c, rfl⟩ := own_form h.own
    obtain ⟨A2, c2, rfl⟩ := own_form h2.own
    rw [hl, h0]
    go_enter Try.func15, Try.ntmps15
    go_wp2
    refine wp_loop_rounds 1 ?_
    rw [rounds_succ]
    go_wp2
    go_ret
    exact ⟨rfl, 0, rfl⟩
  · obtain ⟨g, c, rfl⟩ := own_form_some h.own h0
    obtain ⟨g2, c2, rfl⟩ := own_form_some h2.own (by omega)
    have HC : Hid (∀ k, k < gs.length → w.cell? ⟨g, k, none⟩ = some (.slice (some ⟨gs.getD k 0, 0, none⟩) 2 2)) := fun k hk => (h.own.cellAt k (by omega)).trans (pv_get gs k hk)
    have HC2 : Hid (∀ k, k < gs.length → w.cell? ⟨g2, k, none⟩ = some (.slice (some ⟨gs'.getD k 0, 0, none⟩) 2 2)) := fun k hk => (h2.own.cellAt k (by omega)).trans (pv_get gs' k (by omega))
    have HE : Hid (∀ k, k < gs.length → ∀ m q, Calls Try.prog 17 #[.slice (some ⟨gs.getD k 0, 0, none⟩) 2 2, .slice (some ⟨gs'.getD k 0, 0, none⟩) 2 2] ((w.drewN m).drewN q) fun e w' => e = .returned (.bool true) ∧ ∃ m', w' = ((w.drewN m).drewN q).drewN m') := (by
      intro k hk m q
      have := eqL_at ((w.drewN m).drewN q) (gs.getD k 0) 0 2 (gs'.getD k 0) 0 2 2 [(f k).1, (f k).2] [(f k).1, (f k).2] rfl rfl (by omega) (((h.drewN m).drewN q).at_ k hk) (((h2.drewN m).drewN q).at_ k (by omega))
      simpa using this)
    rw [hl]
    clear h h2 hl
    generalize gs.length = n at *
    go_enter Try.func15, Try.ntmps15
    go_wp2
    go_loopw [5] (fun i wr => ∃ k m : Nat, k ≤ n ∧ i = .int .i64 k ∧ wr = w.drewN m) (fun i _ => n - (intOf i).toNat)
    case atStart => exact ⟨0, 0, Nat.zero_le _, rfl, rfl⟩
    case round =>
      obtain ⟨k, m, hk, rfl, rfl⟩ := hrel
      by_cases hlt : k < n
      · have hc1 : (w.drewN m).cell? ⟨g, k, none⟩ = some (.slice (some ⟨gs.getD k 0, 0, none⟩) 2 2) := HC.out k hlt
        have hc2 : (w.drewN m).cell? ⟨g2, k, none⟩ = some (.slice (some ⟨gs'.getD k 0, 0, none⟩) 2 2) := HC2.out k hlt
        have he := HE.out k hlt m
        generalize hwj : w.drewN m = wj at hc1 hc2 he ⊢
        have HWJ := Lib.hid hwj
        clear hwj
        have hk0 : (0 : Int) ≤ (k : Int) := by omega
        have hkn : (k : Int) < (n : Int) := by omega
        generalize gs.getD k 0 = x at hc1 he
        generalize gs'.getD k 0 = y at hc2 he
        have HEE := Lib.hid he
        clear he
        go_wp2
        go_quiet ((go_at_call 17; exact Calls.quiet_of (HEE.out _)))
        go_wp2
        go_roundw
        case rel => exact ⟨k + 1, m + nq, by omega, by go_num, by rw [← HWJ.out, World.drewN_drewN]⟩
        case measure => simp [intOf]; omega
      · go_wp2
        go_ret
        exact ⟨rfl, m, rfl⟩

end Go.Proofs.Ytpneopldbeefhaa
