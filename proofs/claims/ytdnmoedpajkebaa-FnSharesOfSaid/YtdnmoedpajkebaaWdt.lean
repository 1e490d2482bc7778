/-
  The walks of the laws' own sums. Conditions: where the lists lie, and the bounds that are typed.
-/
import Derived.Test.YtdnmoedpajkebaaWlo
import Derived.Test.YtdnmoedpajkebaaFsm
namespace Go.Proofs.Ytdnmoedpajkebaa
open Go.RowKit
set_option linter.unusedVariables false

theorem sumI_take (xs : List Int) (k : Nat) (h : k < xs.length) : sumI (xs.take (k + 1)) = sumI (xs.take k) + xs.getD k 0 := by
  rw [take_snoc xs k h, sumI_app]
  simp [sumI]
theorem sumI_bd {xs : List Int} {m : Int} (hm : 0 ≤ m) (h : ∀ j, j < xs.length → 0 ≤ xs.getD j 0 ∧ xs.getD j 0 ≤ m) : ∀ k, k ≤ xs.length → 0 ≤ sumI (xs.take k) ∧ sumI (xs.take k) ≤ m * (k : Int)
  | 0, _ => by simp [sumI]
  | k + 1, hk => by
    have ih := sumI_bd hm h k (by omega)
    have := h k (by omega)
    rw [sumI_take xs k (by omega), Int.natCast_add, Int.mul_add]
    omega
set_option maxHeartbeats 800000 in
theorem tot_any (w : World) (v : Value) (xs : List Int) (m : Int) (hv : Rds w v xs) (hn : xs.length ≤ 1000) (hm : 0 ≤ m ∧ m ≤ 1000) (hb : ∀ j, j < xs.length → 0 ≤ xs.getD j 0 ∧ xs.getD j 0 ≤ m) :
    Calls Try.prog 13 #[v] w fun e w' => e = .returned (.int .i64 (sumI xs)) ∧ w = w' := by
  obtain ⟨A, c, rfl, hA⟩ := hv
  have HA := Lib.hid hA
  have HB := Lib.hid hb
  have HS := Lib.hid (sumI_bd hm.1 hb)
  clear hA hb
  go_enter Try.func13, Try.ntmps13
  go_wp2
  go_loop [3, 4] (fun sv iv => ∃ k : Nat, k ≤ xs.length ∧ iv = .int .i64 k ∧ sv = .int .i64 (sumI (xs.take k))) (fun _ iv => xs.length - (intOf iv).toNat)
  case atStart => exact ⟨0, Nat.zero_le _, rfl, rfl⟩
  case round =>
    obtain ⟨k, hk, rfl, rfl⟩ := hrel
    by_cases hlt : k < xs.length
    · obtain ⟨b, off, rfl, hat⟩ := HA.out (by omega)
      have hc1 := hat.2 k hlt
      have hx := HB.out k hlt
      have hs := (HS.out k hk).1
      have hs2 : sumI (xs.take k) ≤ 1000000 := by
        have h1 := (HS.out k hk).2
        have h2 : m * (k : Int) ≤ 1000 * (k : Int) := Int.mul_le_mul_of_nonneg_right hm.2 (by omega)
        omega
      have HT := Lib.hid (sumI_take xs k hlt)
      clear hat
      generalize xs.getD k 0 = x at *
      generalize sumI (xs.take k) = t at *
      go_wp2
      go_round
      case rel => exact ⟨k + 1, by omega, by go_num, by rw [HT.out]⟩
      case measure => simp [intOf]; omega
    · obtain rfl : k = xs.length := by omega
      go_wp2
      go_ret
      exact ⟨ret_int (by first | rfl | rw [List.take_length]), rfl⟩

theorem dv_bd {r : Int} {l : List Int} (hr : 0 ≤ r) (hl : okL l = true) : ∀ k, dv r l k ≤ 30 * k
  | 0 => by simp [dv]
  | k + 1 => by
    have := dv_bd hr hl k
    have := (vv_bd hr hl (k + 1)).2
    show max (dv r l k) (vv r l (k + 1)) ≤ _
    omega
/-- What holds of the greatest row so far. -/
def DpInv (r : Int) (l : List Int) (i k : Nat) (x : Int) : Prop := 0 ≤ x ∧ x ≤ dv r l l.length ∧ (∀ i' k', i' < i → i' ≤ k' → k' < l.length → seg r l i' k' ≤ x) ∧ ∀ k', i ≤ k' → k' < k → seg r l i k' ≤ x
theorem dp_step {r : Int} {l : List Int} {i k : Nat} {x : Int} (h : DpInv r l i k x) (hik : i ≤ k) (hk : k < l.length) : DpInv r l i (k + 1) (max x (seg r l i k)) := by
  obtain ⟨h1, h2, h3, h4⟩ := h
  have h5 := seg_le r l k i hik
  have h6 := dv_le r l l.length k hk
  refine ⟨by omega, by omega, fun i' k' a b c => by have := h3 i' k' a b c; omega, fun k' a b => ?_⟩
  rcases (show k' < k ∨ k' = k from by omega) with h | rfl
  · have := h4 k' a h; omega
  · omega
theorem dp_next {r : Int} {l : List Int} {i : Nat} {x : Int} (h : DpInv r l i l.length x) : DpInv r l (i + 1) (i + 1) x := by
  obtain ⟨h1, h2, h3, h4⟩ := h
  refine ⟨h1, h2, fun i' k' a b c => ?_, fun k' a b => absurd b (by omega)⟩
  rcases (show i' < i ∨ i' = i from by omega) with h | rfl
  · exact h3 i' k' h b c
  · exact h4 k' b c
theorem dp_end {r : Int} {l : List Int} {x : Int} (hr : 0 ≤ r) (h : DpInv r l l.length l.length x) : x = dv r l l.length :=
  dv_eq hr h.1 h.2.1 (fun i k hik hk => h.2.2.1 i k (by omega) hik hk)

end Go.Proofs.Ytdnmoedpajkebaa
