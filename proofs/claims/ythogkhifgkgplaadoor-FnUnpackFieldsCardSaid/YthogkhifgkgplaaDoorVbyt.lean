/-
  The walks of the functions that say whether numbers are bytes. Conditions: where the lists lie, and the lengths that are typed.
-/
import Derived.Test.YthogkhifgkgplaaDoorIrow
import Derived.Test.YthogkhifgkgplaaDoorRowm
namespace Go.Proofs.YthogkhifgkgplaaDoor
open Go.RowKit
set_option linter.unusedVariables false

theorem isByte_yes {x : Int} (h : isByte x = true) : 0 ≤ x ∧ x ≤ 255 := by simpa [isByte] using h
theorem isByte_no {x : Int} (h : isByte x = false) : x < 0 ∨ (0 ≤ x ∧ 255 < x) := by
  by_cases h0 : x < 0
  · exact .inl h0
  · have : ¬ (0 ≤ x ∧ x ≤ 255) := by intro h1; simp [isByte, h1] at h
    omega
theorem takeI_snoc (xs : List Int) (k : Nat) (h : k < xs.length) : xs.take (k + 1) = xs.take k ++ [xs.getD k 0] := by
  rw [List.take_add_one, List.getElem?_eq_getElem h]
  simp [List.getD_eq_getElem?_getD, List.getElem?_eq_getElem h]
theorem allB_snoc (xs : List Int) (k : Nat) (h : k < xs.length) (ha : (xs.take k).all isByte = true) (hb : isByte (xs.getD k 0) = true) : (xs.take (k + 1)).all isByte = true := by
  rw [takeI_snoc xs k h, List.all_append, ha]; simpa using hb
theorem allB_bad (xs : List Int) (k : Nat) (h : k < xs.length) (hb : isByte (xs.getD k 0) = false) : xs.all isByte = false := by
  rw [List.all_eq_false]
  exact ⟨xs.getD k 0, by rw [List.getD_eq_getElem?_getD, List.getElem?_eq_getElem h]; exact List.getElem_mem h, by rw [hb]; simp⟩
theorem allB_end (xs : List Int) (k : Nat) (h : ¬ k < xs.length) (ha : (xs.take k).all isByte = true) : xs.all isByte = true := by
  rwa [List.take_of_length_le (by omega)] at ha

set_option maxHeartbeats 400000 in
theorem ivb_at (w : World) (b off c n : Nat) (xs : List Int) (hn : xs.length = n) (hn2 : n ≤ 1048576) (h : At w b off xs) : Calls Tryd.prog 56 #[.slice (some ⟨b, off, none⟩) n c] w fun e w' => e = .returned (.bool (bytesB 16 xs)) ∧ w = w' := by
  by_cases hg : (16 : Int) < (n : Int)
  · go_enter Tryd.func56, Tryd.ntmps56
    go_wp2
    go_ret
    exact ⟨ret_bool (by symm; simp [bytesB]; omega), rfl⟩
  · have hres : xs.all isByte = true → bytesB 16 xs = true := by intro ha; simp only [bytesB, ha, Bool.and_true, decide_eq_true_eq]; omega
    have HR := fun h => Lib.hid (hres h)
    have HN := Lib.hid hn
    have HC := Lib.hid h.2
    clear h hn hres
    go_enter Tryd.func56, Tryd.ntmps56
    go_wp2
    go_loop [10] (fun i => ∃ k : Nat, k ≤ n ∧ i = .int .i64 k ∧ (xs.take k).all isByte = true) (fun i => n - (intOf i).toNat)
    case atStart => exact ⟨0, Nat.zero_le _, rfl, by simp⟩
    case round =>
      obtain ⟨k, hk, rfl, hall⟩ := hrel
      have HA := Lib.hid hall
      clear hall
      by_cases hlt : k < n
      · have hkx : k < xs.length := by have := HN.out; omega
        have hc1 := HC.out k hkx
        have HS := fun h => Lib.hid (allB_snoc xs k hkx HA.out h)
        have HB := fun h => Lib.hid (allB_bad xs k hkx h)
        clear hkx
        generalize xs.getD k 0 = x at *
        cases hb : isByte x
        · have HX := Lib.hid (HB hb).out
          rcases isByte_no hb with h0 | ⟨h0, h1⟩
          all_goals
            clear hb
            go_wp2
            go_ret
            exact ⟨ret_bool (by symm; simp [bytesB, HX.out]), rfl⟩
        · have HX := HS hb
          obtain ⟨h0, h1⟩ := isByte_yes hb
          have h2 : ((x < 0 : Bool) || (255 < x : Bool)) = false := by simp; omega
          have h3 : decide (x < 0) = false := by simp; omega
          have h4 : decide (255 < x) = false := by simp; omega
          clear hb
          go_wp2
          go_round
          case rel => exact ⟨k + 1, by omega, by go_num, HX.out⟩
          case measure => simp [intOf]; omega
      · have ha := allB_end xs k (by have := HN.out; omega) HA.out
        have HX := HR ha
        clear ha
        go_wp2
        go_ret
        exact ⟨ret_bool HX.out.symm, rfl⟩

set_option maxHeartbeats 400000 in
theorem ivb_nil (w : World) (A : Option Addr) (c : Nat) :
    Calls Tryd.prog 56 #[.slice A 0 c] w fun e w' => e = .returned (.bool true) ∧ w = w' := by
  go_enter Tryd.func56, Tryd.ntmps56
  go_wp2
  refine wp_loop_rounds 1 ?_
  rw [rounds_succ]
  go_wp2
  go_ret
  exact ⟨rfl, rfl⟩
theorem ivb_any (w : World) (v : Value) (xs : List Int) (h : Rds w v xs) (hn : xs.length ≤ 1048576) :
    Calls Tryd.prog 56 #[v] w fun e w' => e = .returned (.bool (bytesB 16 xs)) ∧ w = w' := by
  obtain ⟨A, c, rfl, h1⟩ := h
  rcases Nat.eq_zero_or_pos xs.length with h0 | h0
  · obtain rfl : xs = [] := List.eq_nil_of_length_eq_zero h0
    exact ivb_nil w A c
  · obtain ⟨b, off, rfl, ha⟩ := h1 h0
    exact ivb_at w b off c xs.length xs rfl hn ha

set_option maxHeartbeats 400000 in
theorem inr_any (w : World) (x lo hi : Int) :
    Calls Tryd.prog 35 #[.int .i64 x, .int .i64 lo, .int .i64 hi] w fun e w' => e = .returned (.bool (decide (lo ≤ x) && decide (x ≤ hi))) ∧ w = w' := by
  by_cases h1 : lo ≤ x
  · have h2 : decide (lo ≤ x) = true := by simpa using h1
    go_enter Tryd.func35, Tryd.ntmps35
    go_wp2
    go_ret
    exact ⟨ret_bool (by simp [h1]), rfl⟩
  · have h2 : decide (lo ≤ x) = false := by simpa using h1
    go_enter Tryd.func35, Tryd.ntmps35
    go_wp2
    go_ret
    exact ⟨ret_bool (by simp), rfl⟩

set_option maxHeartbeats 400000 in
theorem svy_at (w : World) (b off c n m : Nat) (xs : List Int) (hn : xs.length = n) (hn2 : n ≤ 1048576) (hm : m ≤ 1000) (h : At w b off xs) :
    Calls Tryd.prog 20 #[.slice (some ⟨b, off, none⟩) n c, .int .i64 m] w fun e w' => e = .returned (.bool (bytesB m xs)) ∧ w = w' := by
  have hres : xs.all isByte = true → bytesB m xs = decide (n ≤ m) := by
    intro ha
    simp only [bytesB, ha, Bool.and_true, hn]
  have HR := fun h => Lib.hid (hres h)
  have HN := Lib.hid hn
  have HC := Lib.hid h.2
  have HI := Lib.hid (fun x => inr_any w x 0 255)
  clear h hn hres
  go_enter Tryd.func20, Tryd.ntmps20
  go_wp2
  go_loop [5] (fun i => ∃ k : Nat, k ≤ n ∧ i = .int .i64 k ∧ (xs.take k).all isByte = true) (fun i => n - (intOf i).toNat)
  case atStart => exact ⟨0, Nat.zero_le _, rfl, by simp⟩
  case round =>
    obtain ⟨k, hk, rfl, hall⟩ := hrel
    have HA := Lib.hid hall
    clear hall
    by_cases hlt : k < n
    · have hkx : k < xs.length := by have := HN.out; omega
      have hc1 := HC.out k hkx
      have HS := fun h => Lib.hid (allB_snoc xs k hkx HA.out h)
      have HB := fun h => Lib.hid (allB_bad xs k hkx h)
      clear hkx
      generalize xs.getD k 0 = x at *
      have hi : Calls Tryd.prog 35 #[.int .i64 x, .int .i64 0, .int .i64 255] w fun e w' => e = .returned (.bool (isByte x)) ∧ w = w' := HI.out x
      cases hb : isByte x
      · have HX := Lib.hid (HB hb).out
        rw [hb] at hi
        have H := Lib.hid hi
        clear hi hb
        go_wp2_with (go_at_call 35; refine H.out.mono ?_; rintro e w' ⟨rfl, rfl⟩)
        go_ret
        exact ⟨ret_bool (by symm; simp [bytesB, HX.out]), rfl⟩
      · have HX := HS hb
        rw [hb] at hi
        have H := Lib.hid hi
        clear hi hb
        go_wp2_with (go_at_call 35; refine H.out.mono ?_; rintro e w' ⟨rfl, rfl⟩)
        go_round
        case rel => exact ⟨k + 1, by omega, by go_num, HX.out⟩
        case measure => simp [intOf]; omega
    · have ha := allB_end xs k (by have := HN.out; omega) HA.out
      have HX := HR ha
      clear ha
      go_wp2
      go_ret
      exact ⟨ret_bool HX.out.symm, rfl⟩
set_option maxHeartbeats 400000 in
theorem svy_nil (w : World) (A : Option Addr) (c m : Nat) :
    Calls Tryd.prog 20 #[.slice A 0 c, .int .i64 m] w fun e w' => e = .returned (.bool true) ∧ w = w' := by
  go_enter Tryd.func20, Tryd.ntmps20
  go_wp2
  refine wp_loop_rounds 1 ?_
  rw [rounds_succ]
  go_wp2
  go_ret
  exact ⟨rfl, rfl⟩
theorem svy_any (w : World) (v : Value) (xs : List Int) (m : Nat) (h : Rds w v xs) (hn : xs.length ≤ 1048576) (hm : m ≤ 1000) :
    Calls Tryd.prog 20 #[v, .int .i64 m] w fun e w' => e = .returned (.bool (bytesB m xs)) ∧ w = w' := by
  obtain ⟨A, c, rfl, h1⟩ := h
  rcases Nat.eq_zero_or_pos xs.length with h0 | h0
  · obtain rfl : xs = [] := List.eq_nil_of_length_eq_zero h0
    exact svy_nil w A c m
  · obtain ⟨b, off, rfl, ha⟩ := h1 h0
    exact svy_at w b off c xs.length m xs rfl hn hm ha
end Go.Proofs.YthogkhifgkgplaaDoor
