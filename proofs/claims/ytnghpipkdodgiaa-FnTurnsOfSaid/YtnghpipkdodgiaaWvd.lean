/-
  The walks of the functions that say whether numbers are loads. Conditions: where the lists lie, and the lengths that are typed.
-/
import Derived.Test.YtnghpipkdodgiaaWlo
import Derived.Test.YtnghpipkdodgiaaFbk
namespace Go.Proofs.Ytnghpipkdodgiaa
open Go.RowKit
set_option linter.unusedVariables false

def okM (m : Nat) (l : List Int) : Bool := l.all isLoad && decide (l.length ≤ m)
theorem okM_16 (l : List Int) : okM 16 l = okL l := rfl
theorem okM_bad {m : Nat} {l : List Int} (h : l.all isLoad = false) : okM m l = false := by simp [okM, h]
theorem okM_len {m : Nat} {l : List Int} (h : ¬ l.length ≤ m) : okM m l = false := by simp [okM, h]
theorem okM_ok {m : Nat} {l : List Int} (h : l.all isLoad = true) (hl : l.length ≤ m) : okM m l = true := by simp [okM, h, hl]
theorem okM_at {m : Nat} {l : List Int} (h : l.all isLoad = true) : okM m l = decide ((l.length : Int) ≤ (m : Int)) := by simp [okM, h]

set_option maxHeartbeats 800000 in
theorem iOnl_any (w : World) (v : Value) (l : List Int) (m : Nat) (hm : m ≤ 1000) (hv : Rds w v l) (hn : l.length ≤ 1048576) :
    Calls Try.prog 30 #[v, .int .i64 m] w fun e w' => e = .returned (.bool (okM m l)) ∧ w = w' := by
  obtain ⟨A, c, rfl, hA⟩ := hv
  by_cases hlm : l.length ≤ m
  · have HO := fun h => Lib.hid (okM_ok (m := m) h hlm)
    have HB := fun h => Lib.hid (okM_bad (m := m) (l := l) h)
    have HA := Lib.hid hA
    have HW := Lib.hid (fun x => wit_any w x 0 30)
    have hd : decide (m < l.length) = false := by simp; omega
    clear hA
    go_enter Try.func30, Try.ntmps30
    go_wp2
    go_loop [13] (fun i => ∃ k : Nat, k ≤ l.length ∧ i = .int .i64 k ∧ (l.take k).all isLoad = true) (fun i => l.length - (intOf i).toNat)
    case atStart => exact ⟨0, Nat.zero_le _, rfl, by simp⟩
    case round =>
      obtain ⟨k, hk, rfl, hall⟩ := hrel
      have HAL := Lib.hid hall
      clear hall
      by_cases hlt : k < l.length
      · obtain ⟨b, off, rfl, hat⟩ := HA.out (by omega)
        have hc1 := hat.2 k hlt
        have HS := fun h => Lib.hid (allP_snoc isLoad l k hlt HAL.out h)
        have HX := fun h => Lib.hid (allP_bad isLoad l k hlt h)
        clear hat
        generalize l.getD k 0 = x at *
        have hi : Calls Try.prog 21 #[.int .i64 x, .int .i64 0, .int .i64 30] w fun e w' => e = .returned (.bool (isLoad x)) ∧ w = w' := HW.out x
        cases hb : isLoad x
        · have HY := HB (HX hb).out
          rw [hb] at hi
          have H := Lib.hid hi
          clear hi hb
          go_wp2_with (go_at_call 21; refine H.out.mono ?_; rintro e w' ⟨rfl, rfl⟩)
          go_ret
          exact ⟨ret_bool HY.out.symm, rfl⟩
        · have HY := HS hb
          rw [hb] at hi
          have H := Lib.hid hi
          clear hi hb
          go_wp2_with (go_at_call 21; refine H.out.mono ?_; rintro e w' ⟨rfl, rfl⟩)
          go_round
          case rel => exact ⟨k + 1, by omega, by go_num, HY.out⟩
          case measure => simp [intOf]; omega
      · have HX := HO (allP_end isLoad l k hlt HAL.out)
        go_wp2
        go_ret
        exact ⟨ret_bool HX.out.symm, rfl⟩
  · have e := okM_len hlm
    rw [e]
    have hd : decide (m < l.length) = true := by simp; omega
    clear e hA
    go_enter Try.func30, Try.ntmps30
    go_wp2
    go_ret
    exact ⟨rfl, rfl⟩

set_option maxHeartbeats 800000 in
theorem sVld_any (w : World) (v : Value) (l : List Int) (hv : Rds w v l) (hn : l.length ≤ 1048576) :
    Calls Try.prog 29 #[v] w fun e w' => e = .returned (.bool (okL l)) ∧ w = w' := by
  obtain ⟨A, c, rfl, hA⟩ := hv
  have HO := fun h => Lib.hid (okM_at (m := 16) (l := l) h)
  have HB := fun h => Lib.hid (okM_bad (m := 16) (l := l) h)
  rw [← okM_16 l]
  have HA := Lib.hid hA
  have HW := Lib.hid (fun x => inr_any w x 0 30)
  clear hA
  go_enter Try.func29, Try.ntmps29
  go_wp2
  go_loop [3] (fun i => ∃ k : Nat, k ≤ l.length ∧ i = .int .i64 k ∧ (l.take k).all isLoad = true) (fun i => l.length - (intOf i).toNat)
  case atStart => exact ⟨0, Nat.zero_le _, rfl, by simp⟩
  case round =>
    obtain ⟨k, hk, rfl, hall⟩ := hrel
    have HAL := Lib.hid hall
    clear hall
    by_cases hlt : k < l.length
    · obtain ⟨b, off, rfl, hat⟩ := HA.out (by omega)
      have hc1 := hat.2 k hlt
      have HS := fun h => Lib.hid (allP_snoc isLoad l k hlt HAL.out h)
      have HX := fun h => Lib.hid (allP_bad isLoad l k hlt h)
      clear hat
      generalize l.getD k 0 = x at *
      have hi : Calls Try.prog 17 #[.int .i64 x, .int .i64 0, .int .i64 30] w fun e w' => e = .returned (.bool (isLoad x)) ∧ w = w' := HW.out x
      cases hb : isLoad x
      · have HY := HB (HX hb).out
        rw [hb] at hi
        have H := Lib.hid hi
        clear hi hb
        go_wp2_with (go_at_call 17; refine H.out.mono ?_; rintro e w' ⟨rfl, rfl⟩)
        go_ret
        exact ⟨ret_bool HY.out.symm, rfl⟩
      · have HY := HS hb
        rw [hb] at hi
        have H := Lib.hid hi
        clear hi hb
        go_wp2_with (go_at_call 17; refine H.out.mono ?_; rintro e w' ⟨rfl, rfl⟩)
        go_round
        case rel => exact ⟨k + 1, by omega, by go_num, HY.out⟩
        case measure => simp [intOf]; omega
    · have HX := HO (allP_end isLoad l k hlt HAL.out)
      go_wp2
      go_ret
      exact ⟨ret_bool HX.out.symm, rfl⟩

end Go.Proofs.Ytnghpipkdodgiaa
