/-
  The walks of the functions that sum bytes. Conditions: where the lists lie, and the lengths that are typed.
-/
import Derived.Test.YtghamnccapggpaaVbyt
import Derived.Test.YtghamnccapggpaaSums
namespace Go.Proofs.Ytghamnccapggpaa
open Go.RowKit
set_option linter.unusedVariables false

set_option maxHeartbeats 400000 in
theorem wip_any (k : Nat) (w : World) (hk : k ≤ 1048576) :
    Calls Try.prog 18 #[.int .i64 k] w fun e w' => e = .returned (.int .i64 (pairW k)) ∧ w = w' := by
  by_cases hp : k % 2 = 0
  · have e : pairW k = 256 := by simp [pairW, hp]
    have h1 : (((k : Int) % 2) == 0) = true := by simp; omega
    rw [e]
    clear e hp
    go_enter Try.func18, Try.ntmps18
    go_wp2
    go_ret
    exact ⟨rfl, rfl⟩
  · have e : pairW k = 1 := by simp [pairW, hp]
    have h1 : (((k : Int) % 2) == 0) = false := by simp; omega
    rw [e]
    clear e hp
    go_enter Try.func18, Try.ntmps18
    go_wp2
    go_ret
    exact ⟨rfl, rfl⟩
set_option maxHeartbeats 400000 in
theorem one_w_any (k : Nat) (w : World) : Calls Try.prog 19 #[.int .i64 k] w fun e w' => e = .returned (.int .i64 1) ∧ w = w' := by
  go_enter Try.func19, Try.ntmps19
  go_wp2
  go_ret
  exact ⟨rfl, rfl⟩
set_option maxHeartbeats 400000 in
theorem ins_any (k n c g : Nat) (A : Option Addr) (w : World) (hk : k ≤ 1048576) (hn : n ≤ 1048576) (hc : w.cell? ⟨g, 0, none⟩ = some (.slice A n c)) :
    Calls Try.prog 20 #[.int .i64 k, .pointer (some ⟨g, 0, none⟩)] w fun e w' => e = .returned (.int .i64 ((n : Int) - (k : Int))) ∧ w = w' := by
  go_enter Try.func20, Try.ntmps20
  go_wp2
  go_ret
  exact ⟨rfl, rfl⟩

set_option maxHeartbeats 800000 in
theorem wgh_pair_at (w : World) (b off c n : Nat) (xs : List Int) (hn : xs.length = n) (hn2 : n ≤ 16) (hb : xs.all isByte = true) (h : At w b off xs) :
    Calls Try.prog 17 #[.slice (some ⟨b, off, none⟩) n c, .func (.func 18) #[] #[]] w fun e w' => e = .returned (.int .i64 (wsum pairW xs n)) ∧ w' = w := by
  have hwb := fun k (hk : k ≤ n) => wsum_bd hb pairW 256 (by omega) (fun k hk => by have hkn : k < n := (by omega); exact pairW_bd k) k (by omega)
  have hby := byte_get hb
  have HW := Lib.hid hwb
  have HB := Lib.hid hby
  have HN := Lib.hid hn
  have HC := Lib.hid h.2
  clear hwb hby h hn hb
  go_enter Try.func17, Try.ntmps17
  go_wp2
  go_loop [5, 10] (fun s i => ∃ k : Nat, k ≤ n ∧ i = .int .i64 k ∧ s = .int .i64 (wsum pairW xs k)) (fun _ i => n - (intOf i).toNat)
  case atStart => exact ⟨0, Nat.zero_le _, rfl, rfl⟩
  case round =>
    obtain ⟨k, hk, rfl, rfl⟩ := hrel
    by_cases hlt : k < n
    · have hkx : k < xs.length := by have := HN.out; omega
      have hc1 := HC.out k hkx
      obtain ⟨hx0, hx1⟩ := HB.out k
      obtain ⟨hs0, hs1⟩ := HW.out k (by omega)
      have HS := Lib.hid (wsum_succ pairW xs k)
      have hcl := wip_any k w (by omega)
      have hcw : 0 ≤ pairW k ∧ pairW k ≤ 256 := pairW_bd k
      generalize wsum pairW xs k = S at *
      generalize xs.getD k 0 = x at *
      generalize pairW k = q at hcl hcw HS
      have hp0 : 0 ≤ q * x := Int.mul_nonneg hcw.1 hx0
      have hp1 : q * x ≤ 256 * 255 := Int.mul_le_mul hcw.2 hx1 hx0 (by omega)
      have HCL := Lib.hid hcl
      obtain ⟨hq0, hq1⟩ := hcw
      clear hcl hkx
      go_wp2_with (go_at_call 18; refine HCL.out.mono ?_; rintro e w' ⟨rfl, rfl⟩)
      go_round
      case rel => exact ⟨k + 1, by omega, by go_num, by rw [HS.out]⟩
      case measure => simp [intOf]; omega
    · obtain rfl : k = n := by omega
      go_wp2
      go_ret
      exact ⟨rfl, rfl⟩
set_option maxHeartbeats 400000 in
theorem wgh_pair_nil (w : World) (A : Option Addr) (c : Nat) (fv : Value) : Calls Try.prog 17 #[.slice A 0 c, fv] w fun e w' => e = .returned (.int .i64 0) ∧ w' = w := by
  go_enter Try.func17, Try.ntmps17
  go_wp2
  refine wp_loop_rounds 1 ?_
  rw [rounds_succ]
  go_wp2
  go_ret
  exact ⟨rfl, rfl⟩
theorem wgh_pair_any (w : World) (v : Value) (xs : List Int) (hn2 : xs.length ≤ 16) (hb : xs.all isByte = true) (h : Rds w v xs) :
    Calls Try.prog 17 #[v, .func (.func 18) #[] #[]] w fun e w' => e = .returned (.int .i64 (wsum pairW xs xs.length)) ∧ w' = w := by
  obtain ⟨A, c, rfl, h1⟩ := h
  rcases Nat.eq_zero_or_pos xs.length with h0 | h0
  · obtain rfl : xs = [] := List.eq_nil_of_length_eq_zero h0
    exact wgh_pair_nil w A c _
  · obtain ⟨b, off, rfl, ha⟩ := h1 h0
    exact wgh_pair_at w b off c xs.length xs rfl hn2 hb ha

set_option maxHeartbeats 800000 in
theorem wgh_once_at (w : World) (b off c n : Nat) (xs : List Int) (hn : xs.length = n) (hn2 : n ≤ 16) (hb : xs.all isByte = true) (h : At w b off xs) :
    Calls Try.prog 17 #[.slice (some ⟨b, off, none⟩) n c, .func (.func 19) #[] #[]] w fun e w' => e = .returned (.int .i64 (wsum (fun _ => 1) xs n)) ∧ w' = w := by
  have hwb := fun k (hk : k ≤ n) => wsum_bd hb (fun _ => 1) 1 (by omega) (fun k hk => by have hkn : k < n := (by omega); exact ⟨by omega, by omega⟩) k (by omega)
  have hby := byte_get hb
  have HW := Lib.hid hwb
  have HB := Lib.hid hby
  have HN := Lib.hid hn
  have HC := Lib.hid h.2
  clear hwb hby h hn hb
  go_enter Try.func17, Try.ntmps17
  go_wp2
  go_loop [5, 10] (fun s i => ∃ k : Nat, k ≤ n ∧ i = .int .i64 k ∧ s = .int .i64 (wsum (fun _ => 1) xs k)) (fun _ i => n - (intOf i).toNat)
  case atStart => exact ⟨0, Nat.zero_le _, rfl, rfl⟩
  case round =>
    obtain ⟨k, hk, rfl, rfl⟩ := hrel
    by_cases hlt : k < n
    · have hkx : k < xs.length := by have := HN.out; omega
      have hc1 := HC.out k hkx
      obtain ⟨hx0, hx1⟩ := HB.out k
      obtain ⟨hs0, hs1⟩ := HW.out k (by omega)
      have HS := Lib.hid (wsum_succ (fun _ => 1) xs k)
      have hcl := one_w_any k w
      have hcw : 0 ≤ (1 : Int) ∧ (1 : Int) ≤ 1 := ⟨by omega, by omega⟩
      generalize wsum (fun _ => 1) xs k = S at *
      generalize xs.getD k 0 = x at *
      have HCL := Lib.hid hcl
      clear hcl hkx hcw
      go_wp2_with (go_at_call 19; refine HCL.out.mono ?_; rintro e w' ⟨rfl, rfl⟩)
      go_round
      case rel => exact ⟨k + 1, by omega, by go_num, by rw [HS.out]; go_num⟩
      case measure => simp [intOf]; omega
    · obtain rfl : k = n := by omega
      go_wp2
      go_ret
      exact ⟨rfl, rfl⟩
set_option maxHeartbeats 400000 in
theorem wgh_once_nil (w : World) (A : Option Addr) (c : Nat) (fv : Value) : Calls Try.prog 17 #[.slice A 0 c, fv] w fun e w' => e = .returned (.int .i64 0) ∧ w' = w := by
  go_enter Try.func17, Try.ntmps17
  go_wp2
  refine wp_loop_rounds 1 ?_
  rw [rounds_succ]
  go_wp2
  go_ret
  exact ⟨rfl, rfl⟩
theorem wgh_once_any (w : World) (v : Value) (xs : List Int) (hn2 : xs.length ≤ 16) (hb : xs.all isByte = true) (h : Rds w v xs) :
    Calls Try.prog 17 #[v, .func (.func 19) #[] #[]] w fun e w' => e = .returned (.int .i64 (wsum (fun _ => 1) xs xs.length)) ∧ w' = w := by
  obtain ⟨A, c, rfl, h1⟩ := h
  rcases Nat.eq_zero_or_pos xs.length with h0 | h0
  · obtain rfl : xs = [] := List.eq_nil_of_length_eq_zero h0
    exact wgh_once_nil w A c _
  · obtain ⟨b, off, rfl, ha⟩ := h1 h0
    exact wgh_once_at w b off c xs.length xs rfl hn2 hb ha

set_option maxHeartbeats 800000 in
theorem wgh_ins_at (w : World) (b off c n : Nat) (g cg : Nat) (Ag : Option Addr) (xs : List Int) (hn : xs.length = n) (hn2 : n ≤ 16) (hb : xs.all isByte = true) (h : At w b off xs) (hg : w.cell? ⟨g, 0, none⟩ = some (.slice Ag n cg)) :
    Calls Try.prog 17 #[.slice (some ⟨b, off, none⟩) n c, .func (.func 20) #[] #[.pointer (some ⟨g, 0, none⟩)]] w fun e w' => e = .returned (.int .i64 (wsum (fun j => (n : Int) - j) xs n)) ∧ w' = w := by
  have hwb := fun k (hk : k ≤ n) => wsum_bd hb (fun j => (n : Int) - j) 16 (by omega) (fun k hk => by have hkn : k < n := (by omega); exact ⟨by omega, by omega⟩) k (by omega)
  have hby := byte_get hb
  have HW := Lib.hid hwb
  have HB := Lib.hid hby
  have HN := Lib.hid hn
  have HC := Lib.hid h.2
  clear hwb hby h hn hb
  go_enter Try.func17, Try.ntmps17
  go_wp2
  go_loop [5, 10] (fun s i => ∃ k : Nat, k ≤ n ∧ i = .int .i64 k ∧ s = .int .i64 (wsum (fun j => (n : Int) - j) xs k)) (fun _ i => n - (intOf i).toNat)
  case atStart => exact ⟨0, Nat.zero_le _, rfl, rfl⟩
  case round =>
    obtain ⟨k, hk, rfl, rfl⟩ := hrel
    by_cases hlt : k < n
    · have hkx : k < xs.length := by have := HN.out; omega
      have hc1 := HC.out k hkx
      obtain ⟨hx0, hx1⟩ := HB.out k
      obtain ⟨hs0, hs1⟩ := HW.out k (by omega)
      have HS := Lib.hid (wsum_succ (fun j => (n : Int) - j) xs k)
      have hcl := ins_any k n cg g Ag w (by omega) (by omega) hg
      have hcw : 0 ≤ ((n : Int) - k) ∧ ((n : Int) - k) ≤ 16 := ⟨by omega, by omega⟩
      generalize wsum (fun j => (n : Int) - j) xs k = S at *
      generalize xs.getD k 0 = x at *
      generalize ((n : Int) - (k : Int)) = q at hcl hcw HS
      have hp0 : 0 ≤ q * x := Int.mul_nonneg hcw.1 hx0
      have hp1 : q * x ≤ 16 * 255 := Int.mul_le_mul hcw.2 hx1 hx0 (by omega)
      have HCL := Lib.hid hcl
      obtain ⟨hq0, hq1⟩ := hcw
      clear hcl hkx
      go_wp2_with (go_at_call 20; refine HCL.out.mono ?_; rintro e w' ⟨rfl, rfl⟩)
      go_round
      case rel => exact ⟨k + 1, by omega, by go_num, by rw [HS.out]⟩
      case measure => simp [intOf]; omega
    · obtain rfl : k = n := by omega
      go_wp2
      go_ret
      exact ⟨rfl, rfl⟩
set_option maxHeartbeats 400000 in
theorem wgh_ins_nil (w : World) (A : Option Addr) (c : Nat) (fv : Value) : Calls Try.prog 17 #[.slice A 0 c, fv] w fun e w' => e = .returned (.int .i64 0) ∧ w' = w := by
  go_enter Try.func17, Try.ntmps17
  go_wp2
  refine wp_loop_rounds 1 ?_
  rw [rounds_succ]
  go_wp2
  go_ret
  exact ⟨rfl, rfl⟩
theorem wgh_ins_any (w : World) (v : Value) (g cg : Nat) (Ag : Option Addr) (xs : List Int) (hn2 : xs.length ≤ 16) (hb : xs.all isByte = true) (h : Rds w v xs) (hg : w.cell? ⟨g, 0, none⟩ = some (.slice Ag xs.length cg)) :
    Calls Try.prog 17 #[v, .func (.func 20) #[] #[.pointer (some ⟨g, 0, none⟩)]] w fun e w' => e = .returned (.int .i64 (wsum (fun j => (xs.length : Int) - j) xs xs.length)) ∧ w' = w := by
  obtain ⟨A, c, rfl, h1⟩ := h
  rcases Nat.eq_zero_or_pos xs.length with h0 | h0
  · obtain rfl : xs = [] := List.eq_nil_of_length_eq_zero h0
    exact wgh_ins_nil w A c _
  · obtain ⟨b, off, rfl, ha⟩ := h1 h0
    exact wgh_ins_at w b off c xs.length g cg Ag xs rfl hn2 hb ha hg
end Go.Proofs.Ytghamnccapggpaa
