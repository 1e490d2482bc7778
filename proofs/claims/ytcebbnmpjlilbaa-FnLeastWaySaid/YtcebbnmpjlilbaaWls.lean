/-
  The walk of the model's function that looks for the least number of a way. Conditions: where the list lies, and the lengths that are typed.
-/
import Derived.Test.YtcebbnmpjlilbaaWlw
namespace Go.Proofs.Ytcebbnmpjlilbaa
open Go.RowKit
set_option linter.unusedVariables false

set_option maxHeartbeats 800000 in
theorem sLW_len (w : World) (v : Value) (xs : List Int) (h : Rds w v xs) (hb : lenB xs.length = false) :
    Calls Try.prog 21 #[v] w fun e w' => e = .returned (.tuple #[.int .i64 0, .int .i64 0]) ∧ w = w' := by
  have hv : Calls Try.prog 33 #[.int .i64 (xs.length : Int), .int .i64 1, .int .i64 8] w fun e w' => e = .returned (.bool (lenB xs.length)) ∧ w = w' := inr_any w xs.length 1 8
  rw [hb] at hv
  have HV := Lib.hid hv
  clear hv hb
  obtain ⟨A, c, rfl, _⟩ := h
  go_enter Try.func21, Try.ntmps21
  go_wp2_with (go_at_call 33; refine HV.out.mono ?_; rintro e w' ⟨rfl, rfl⟩)
  go_ret2
  exact ⟨rfl, rfl⟩

set_option maxHeartbeats 1600000 in
theorem sLW_at (w : World) (b off c n : Nat) (xs : List Int) (hn : xs.length = n) (h : At w b off xs) (hb : lenB n = true) :
    Calls Try.prog 21 #[.slice (some ⟨b, off, none⟩) n c] w fun e w' => e = .returned (.tuple #[.int .i64 (leastR xs), .int .i64 (triesR xs)]) ∧ w = w' := by
  have hl : 1 ≤ n ∧ n ≤ 8 := by simp only [lenB, Bool.and_eq_true, decide_eq_true_eq] at hb; omega
  obtain ⟨l1, l8⟩ := hl
  have hv : Calls Try.prog 33 #[.int .i64 (n : Int), .int .i64 1, .int .i64 8] w fun e w' => e = .returned (.bool (lenB n)) ∧ w = w' := inr_any w n 1 8
  rw [hb] at hv
  have HV := Lib.hid hv
  have HC := Lib.hid (hn ▸ h.2)
  have hc0 := h.2 0 (by omega)
  rw [Nat.add_zero] at hc0
  have HE : Hid (xs.getD 0 0 = (lw xs 0).1) := rfl
  have HT := Lib.hid (lw_tries xs)
  have hno : xs.all isHop = false → leastR xs = 0 ∧ triesR xs = 0 := by intro ha; simp [leastR, triesR, wayB, ha]
  have hyes : xs.all isHop = true → leastR xs = (lw xs n).1 ∧ triesR xs = ((lw xs n).2 : Int) := by
    intro ha; simp [leastR, triesR, wayB, ha, hn, hb]
  have HNO := fun h => Lib.hid (hno h)
  have HYES := fun h => Lib.hid (hyes h)
  have HN := Lib.hid hn
  have HI := Lib.hid (fun x => inr_any w x 1 60)
  clear hv h hn hb hno hyes
  generalize xs.getD 0 0 = x0 at hc0 HE
  go_enter Try.func21, Try.ntmps21
  go_wp2_with (go_at_call 33; refine HV.out.mono ?_; rintro e w' ⟨rfl, rfl⟩)
  go_loop [4] (fun i => ∃ k : Nat, k ≤ n ∧ i = .int .i64 k ∧ (xs.take k).all isHop = true) (fun i => n - (intOf i).toNat)
  case atStart => exact ⟨0, Nat.zero_le _, rfl, by simp⟩
  case round =>
    obtain ⟨k, hk, rfl, hall⟩ := hrel
    have HA := Lib.hid hall
    clear hall
    by_cases hlt : k < n
    · have hkx : k < xs.length := by have := HN.out; omega
      have hc1 := HC.out k hlt
      have HS := fun h => Lib.hid (allP_snoc isHop xs k hkx HA.out h)
      have HB := fun h => Lib.hid (HNO (allP_bad isHop xs k hkx h)).out
      clear hkx
      generalize xs.getD k 0 = x at *
      have hi : Calls Try.prog 33 #[.int .i64 x, .int .i64 1, .int .i64 60] w fun e w' => e = .returned (.bool (isHop x)) ∧ w = w' := HI.out x
      cases hb : isHop x
      · have HX := HB hb
        rw [hb] at hi
        have H := Lib.hid hi
        clear hi hb
        go_wp2_with (go_at_call 33; refine H.out.mono ?_; rintro e w' ⟨rfl, rfl⟩)
        go_ret2
        rw [HX.out.1, HX.out.2]
        exact ⟨rfl, rfl⟩
      · have HX := HS hb
        rw [hb] at hi
        have H := Lib.hid hi
        clear hi hb
        go_wp2_with (go_at_call 33; refine H.out.mono ?_; rintro e w' ⟨rfl, rfl⟩)
        go_round
        case rel => exact ⟨k + 1, by omega, by go_num, HX.out⟩
        case measure => simp [intOf]; omega
    · have ha := allP_end isHop xs k (by have := HN.out; omega) HA.out
      have HX := HYES ha
      clear ha HA
      go_wp2
      go_loop [5, 6, 7] (fun m t i => ∃ k : Nat, k ≤ n ∧ i = .int .i64 k ∧ m = .int .i64 (lw xs k).1 ∧ t = .int .i64 ((lw xs k).2 : Int)) (fun _ _ i => n - (intOf i).toNat)
      case atStart => exact ⟨0, Nat.zero_le _, rfl, by rw [HE.out], rfl⟩
      case round =>
        obtain ⟨k, hk, rfl, rfl, rfl⟩ := hrel
        have ht := HT.out k
        by_cases hlt : k < n
        · have hc1 := HC.out k hlt
          have hS : lw xs (k + 1) = if xs.getD k 0 < (lw xs k).1 then (xs.getD k 0, (lw xs k).2 + 1) else lw xs k := rfl
          generalize lw xs k = mt at *
          obtain ⟨m, t⟩ := mt
          generalize xs.getD k 0 = x at *
          simp only at ht hS ⊢
          have HS := Lib.hid hS
          clear hS
          by_cases hx : x < m
          · have hd : decide (x < m) = true := by simpa using hx
            go_wp2
            go_round
            case rel => exact ⟨k + 1, by omega, by go_num, by rw [HS.out, if_pos hx], by rw [HS.out, if_pos hx]; go_num⟩
            case measure => simp [intOf]; omega
          · have hd : decide (x < m) = false := by simpa using hx
            go_wp2
            go_round
            case rel => exact ⟨k + 1, by omega, by go_num, by rw [HS.out, if_neg hx], by rw [HS.out, if_neg hx]⟩
            case measure => simp [intOf]; omega
        · obtain rfl : k = n := by omega
          go_wp2
          go_ret2
          rw [HX.out.1, HX.out.2]
          exact ⟨rfl, rfl⟩
theorem sLW_any (w : World) (v : Value) (xs : List Int) (h : Rds w v xs) :
    Calls Try.prog 21 #[v] w fun e w' => e = .returned (.tuple #[.int .i64 (leastR xs), .int .i64 (triesR xs)]) ∧ w = w' := by
  cases hb : lenB xs.length
  · have e1 : leastR xs = 0 := by simp [leastR, wayB, hb]
    have e2 : triesR xs = 0 := by simp [triesR, wayB, hb]
    rw [e1, e2]
    exact sLW_len w v xs h hb
  · obtain ⟨A, c, rfl, h1⟩ := h
    have hl : 1 ≤ xs.length ∧ xs.length ≤ 8 := by simp only [lenB, Bool.and_eq_true, decide_eq_true_eq] at hb; omega
    obtain ⟨b, off, rfl, ha⟩ := h1 (by omega)
    exact sLW_at w b off c xs.length xs rfl ha hb
end Go.Proofs.Ytcebbnmpjlilbaa
