/-
  The walks of the functions that sum bytes, the model's and the program's. Conditions: where the lists lie, and the lengths that are typed.
-/
import Derived.Test.YtghamnccapggpaaWsum
import Derived.Deep.QuietTactic
import Derived.BigQuiet
namespace Go.Proofs.Ytghamnccapggpaa
open Go.RowKit
set_option linter.unusedVariables false

theorem sumR_no {xs : List Int} (h : bytesB 16 xs = false) : sumR xs = -1 := by simp [sumR, h]
theorem sumR_yes {xs : List Int} (h : bytesB 16 xs = true) : sumR xs = 65535 - norm (wsum pairW xs xs.length) := by simp [sumR, h]
theorem bytes16' {l : List Int} (h : bytesB 16 l = true) : l.length ≤ 16 ∧ l.all isByte = true := by simpa [bytesB] using h

set_option maxHeartbeats 800000 in
theorem iSU_any (w : World) (v : Value) (xs : List Int) (h : Rds w v xs) (hn : xs.length ≤ 1048576) :
    Calls Try.prog 9 #[v] w fun e w' => e = .returned (.int .i64 (sumR xs)) ∧ w = w' := by
  have h1 := ivb_any w v xs h hn
  cases hb : bytesB 16 xs
  · rw [sumR_no hb]
    rw [hb] at h1
    have H1 := Lib.hid h1
    clear h1 hb h
    go_enter Try.func9, Try.ntmps9
    go_wp2_with (go_at_call 16; refine H1.out.mono ?_; rintro e w' ⟨rfl, rfl⟩)
    go_ret
    exact ⟨rfl, rfl⟩
  · rw [sumR_yes hb]
    rw [hb] at h1
    obtain ⟨h16, hall⟩ := bytes16' hb
    have h2 := wgh_pair_any w v xs h16 hall h
    have hw := wsum_bd hall pairW 256 (by omega) (fun k _ => pairW_bd k) xs.length (Nat.le_refl _)
    have H1 := Lib.hid h1
    have H2 := Lib.hid h2
    generalize wsum pairW xs xs.length = S at *
    obtain ⟨hS0, hS1⟩ := hw
    clear h1 h2 hb h hall
    go_enter Try.func9, Try.ntmps9
    go_wp2_with (first | (go_at_call 16; refine H1.out.mono ?_; rintro e w' ⟨rfl, rfl⟩) | (go_at_call 17; refine H2.out.mono ?_; rintro e w' ⟨rfl, rfl⟩))
    go_loop [3] (fun s => ∃ t : Int, 0 ≤ t ∧ t ≤ 2000000 ∧ s = .int .i64 t ∧ norm t = norm S) (fun s => (intOf s).toNat)
    case atStart => exact ⟨S, by omega, by omega, rfl, rfl⟩
    case round =>
      obtain ⟨t, ht0, ht1, rfl, hn⟩ := hrel
      by_cases hlt : 65535 < t
      · have hf := norm_fold hlt
        have hl := norm_less hlt
        rw [hn] at hf
        have HF := Lib.hid hf
        clear hf hn
        go_wp2
        go_round
        case rel => exact ⟨_, hl.1, by omega, rfl, HF.out⟩
        case measure => simp [intOf]; omega
      · have hs := norm_small ht0 (by omega)
        rw [hs] at hn
        subst hn
        go_wp2
        go_ret
        exact ⟨rfl, rfl⟩

set_option maxHeartbeats 800000 in
theorem sSU_yes (w : World) (b off c n : Nat) (xs : List Int) (hn : xs.length = n) (hb : bytesB 16 xs = true) (h : At w b off xs) :
    Calls Try.prog 7 #[.slice (some ⟨b, off, none⟩) n c] w fun e w' => e = .returned (.int .i64 (sumR xs)) ∧ w = w' := by
  obtain ⟨h16, hall⟩ := bytes16' hb
  have h1 := svy_at w b off c n 16 xs hn (by omega) (by omega) h
  rw [hb] at h1
  rw [sumR_yes hb, hn]
  have H1 := Lib.hid h1
  have hby := byte_get hall
  have hwb := fun k (hk : k ≤ n) => wsum_bd hall pairW 256 (by omega) (fun k _ => pairW_bd k) k (by omega)
  have HW := Lib.hid hwb
  have HB := Lib.hid hby
  have HN := Lib.hid hn
  have HC := Lib.hid h.2
  clear h1 h hb hn hby hwb
  have hn16 : n ≤ 16 := by have := HN.out; omega
  clear h16 hall
  go_enter Try.func7, Try.ntmps7
  go_wp2_with (go_at_call 15; refine H1.out.mono ?_; rintro e w' ⟨rfl, rfl⟩)
  go_loop [3, 4] (fun s i => ∃ k : Nat, k ≤ n ∧ i = .int .i64 k ∧ s = .int .i64 (norm (wsum pairW xs k))) (fun _ i => n - (intOf i).toNat)
  case atStart => exact ⟨0, Nat.zero_le _, rfl, rfl⟩
  case round =>
    obtain ⟨k, hk, rfl, rfl⟩ := hrel
    by_cases hlt : k < n
    · have hkx : k < xs.length := by have := HN.out; omega
      have hc1 := HC.out k hkx
      obtain ⟨hx0, hx1⟩ := HB.out k
      obtain ⟨hs0, hs1⟩ := HW.out k (by omega)
      obtain ⟨hm0, hm1⟩ := norm_bd (wsum pairW xs k)
      have hsu := wsum_succ pairW xs k
      have hst := norm_step (t := wsum pairW xs k) (d := pairW k * xs.getD k 0) hs0
      by_cases hp : k % 2 = 0
      · have e : pairW k = 256 := by simp [pairW, hp]
        have hp1 : (((k : Int) % 2) == 0) = true := by simp; omega
        rw [e] at hsu hst
        rw [← hsu] at hst
        generalize xs.getD k 0 = x at *
        have hst2 := hst (by omega) (by omega)
        generalize hM : norm (wsum pairW xs k) = M at *
        have HS := Lib.hid hst2
        clear hst hst2 hsu e hp hM hs0 hs1 hkx
        go_wp2
        all_goals
          go_round
          case rel => exact ⟨k + 1, by omega, by go_num, by rw [← HS.out]; first | rw [if_pos (by omega)] | rw [if_neg (by omega)]⟩
          case measure => simp [intOf]; omega
      · have e : pairW k = 1 := by simp [pairW, hp]
        have hp1 : (((k : Int) % 2) == 0) = false := by simp; omega
        rw [e] at hsu hst
        rw [← hsu] at hst
        generalize xs.getD k 0 = x at *
        have hst2 := hst (by omega) (by omega)
        generalize hM : norm (wsum pairW xs k) = M at *
        rw [Int.one_mul] at hst2
        have HS := Lib.hid hst2
        clear hst hst2 hsu e hp hM hs0 hs1 hkx
        go_wp2
        all_goals
          go_round
          case rel => exact ⟨k + 1, by omega, by go_num, by rw [← HS.out]; first | rw [if_pos (by omega)] | rw [if_neg (by omega)]⟩
          case measure => simp [intOf]; omega
    · obtain rfl : k = n := by omega
      have hnb := norm_bd (wsum pairW xs k)
      go_wp2
      go_ret
      exact ⟨rfl, rfl⟩
set_option maxHeartbeats 400000 in
theorem sSU_nil (w : World) (A : Option Addr) (c : Nat) : Calls Try.prog 7 #[.slice A 0 c] w fun e w' => e = .returned (.int .i64 65535) ∧ w = w' := by
  have H1 := Lib.hid (svy_nil w A c 16)
  go_enter Try.func7, Try.ntmps7
  go_wp2_with (go_at_call 15; refine H1.out.mono ?_; rintro e w' ⟨rfl, rfl⟩)
  refine wp_loop_rounds 1 ?_
  rw [rounds_succ]
  go_wp2
  go_ret
  exact ⟨rfl, rfl⟩
set_option maxHeartbeats 400000 in
theorem sSU_no (w : World) (v : Value) (xs : List Int) (h : Rds w v xs) (hn : xs.length ≤ 1048576) (hb : bytesB 16 xs = false) :
    Calls Try.prog 7 #[v] w fun e w' => e = .returned (.int .i64 (-1)) ∧ w = w' := by
  have h1 := svy_any w v xs 16 h hn (by omega)
  rw [hb] at h1
  have H1 := Lib.hid h1
  clear h1 hb h
  go_enter Try.func7, Try.ntmps7
  go_wp2_with (go_at_call 15; refine H1.out.mono ?_; rintro e w' ⟨rfl, rfl⟩)
  go_ret
  exact ⟨rfl, rfl⟩
theorem sSU_any (w : World) (v : Value) (xs : List Int) (h : Rds w v xs) (hn : xs.length ≤ 1048576) :
    Calls Try.prog 7 #[v] w fun e w' => e = .returned (.int .i64 (sumR xs)) ∧ w = w' := by
  cases hb : bytesB 16 xs
  · rw [sumR_no hb]; exact sSU_no w v xs h hn hb
  · obtain ⟨A, c, rfl, h1⟩ := h
    rcases Nat.eq_zero_or_pos xs.length with h0 | h0
    · obtain rfl : xs = [] := List.eq_nil_of_length_eq_zero h0
      exact sSU_nil w A c
    · obtain ⟨b, off, rfl, ha⟩ := h1 h0
      exact sSU_yes w b off c xs.length xs rfl hb ha

/-! ### two sums -/
theorem onceR_no {xs : List Int} (h : bytesB 16 xs = false) : onceR xs = -1 := by simp [onceR, h]
theorem sumsR_no {xs : List Int} (h : bytesB 16 xs = false) : sumsR xs = -1 := by simp [sumsR, h]
theorem onceR_yes {xs : List Int} (h : bytesB 16 xs = true) : onceR xs = wsum (fun _ => 1) xs xs.length % 255 := by simp [onceR, h]
theorem sumsR_yes {xs : List Int} (h : bytesB 16 xs = true) : sumsR xs = ssum xs xs.length % 255 := by simp [sumsR, h]

set_option maxHeartbeats 800000 in
theorem sTS_yes (w : World) (b off c n : Nat) (xs : List Int) (hn : xs.length = n) (hb : bytesB 16 xs = true) (h : At w b off xs) :
    Calls Try.prog 11 #[.slice (some ⟨b, off, none⟩) n c] w fun e w' => e = .returned (.tuple #[.int .i64 (onceR xs), .int .i64 (sumsR xs)]) ∧ w = w' := by
  obtain ⟨h16, hall⟩ := bytes16' hb
  have h1 := svy_at w b off c n 16 xs hn (by omega) (by omega) h
  rw [hb] at h1
  rw [onceR_yes hb, sumsR_yes hb, hn]
  have H1 := Lib.hid h1
  have hby := byte_get hall
  have HB := Lib.hid hby
  have HN := Lib.hid hn
  have HC := Lib.hid h.2
  clear h1 h hb hn hby
  have hn16 : n ≤ 16 := by have := HN.out; omega
  clear h16 hall
  go_enter Try.func11, Try.ntmps11
  go_wp2_with (go_at_call 15; refine H1.out.mono ?_; rintro e w' ⟨rfl, rfl⟩)
  go_loop [4, 5, 6] (fun s t i => ∃ k : Nat, k ≤ n ∧ i = .int .i64 k ∧ s = .int .i64 (wsum (fun _ => 1) xs k % 255) ∧ t = .int .i64 (ssum xs k % 255)) (fun _ _ i => n - (intOf i).toNat)
  case atStart => exact ⟨0, Nat.zero_le _, rfl, rfl, rfl⟩
  case round =>
    obtain ⟨k, hk, rfl, rfl, rfl⟩ := hrel
    by_cases hlt : k < n
    · have hkx : k < xs.length := by have := HN.out; omega
      have hc1 := HC.out k hkx
      obtain ⟨hx0, hx1⟩ := HB.out k
      have e1 : wsum (fun _ => 1) xs (k + 1) % 255 = (wsum (fun _ => 1) xs k % 255 + xs.getD k 0) % 255 := by
        rw [wsum_succ]; omega
      have e2 : ssum xs (k + 1) % 255 = (ssum xs k % 255 + (wsum (fun _ => 1) xs k % 255 + xs.getD k 0) % 255) % 255 := by
        rw [← e1]
        have : ssum xs (k + 1) = ssum xs k + wsum (fun _ => 1) xs (k + 1) := rfl
        rw [this]; omega
      have a0 : 0 ≤ wsum (fun _ => 1) xs k % 255 := by omega
      have a1 : wsum (fun _ => 1) xs k % 255 < 255 := by omega
      have b0 : 0 ≤ ssum xs k % 255 := by omega
      have b1 : ssum xs k % 255 < 255 := by omega
      have E1 := Lib.hid e1
      have E2 := Lib.hid e2
      clear e1 e2 hkx
      generalize wsum (fun _ => 1) xs k % 255 = a at *
      generalize ssum xs k % 255 = d at *
      generalize xs.getD k 0 = x at *
      have c0 : 0 ≤ (a + x) % 255 := by omega
      have c1 : (a + x) % 255 < 255 := by omega
      go_wp2
      go_round
      case rel => exact ⟨k + 1, by omega, by go_num, by rw [E1.out], by rw [E2.out]⟩
      case measure => simp [intOf]; omega
    · obtain rfl : k = n := by omega
      go_wp2
      go_ret2
      exact ⟨rfl, rfl⟩
set_option maxHeartbeats 400000 in
theorem sTS_nil (w : World) (A : Option Addr) (c : Nat) : Calls Try.prog 11 #[.slice A 0 c] w fun e w' => e = .returned (.tuple #[.int .i64 0, .int .i64 0]) ∧ w = w' := by
  have H1 := Lib.hid (svy_nil w A c 16)
  go_enter Try.func11, Try.ntmps11
  go_wp2_with (go_at_call 15; refine H1.out.mono ?_; rintro e w' ⟨rfl, rfl⟩)
  refine wp_loop_rounds 1 ?_
  rw [rounds_succ]
  go_wp2
  go_ret2
  exact ⟨rfl, rfl⟩
set_option maxHeartbeats 400000 in
theorem sTS_no (w : World) (v : Value) (xs : List Int) (h : Rds w v xs) (hn : xs.length ≤ 1048576) (hb : bytesB 16 xs = false) :
    Calls Try.prog 11 #[v] w fun e w' => e = .returned (.tuple #[.int .i64 (-1), .int .i64 (-1)]) ∧ w = w' := by
  have h1 := svy_any w v xs 16 h hn (by omega)
  rw [hb] at h1
  have H1 := Lib.hid h1
  clear h1 hb h
  go_enter Try.func11, Try.ntmps11
  go_wp2_with (go_at_call 15; refine H1.out.mono ?_; rintro e w' ⟨rfl, rfl⟩)
  go_ret2
  exact ⟨rfl, rfl⟩
theorem sTS_any (w : World) (v : Value) (xs : List Int) (h : Rds w v xs) (hn : xs.length ≤ 1048576) :
    Calls Try.prog 11 #[v] w fun e w' => e = .returned (.tuple #[.int .i64 (onceR xs), .int .i64 (sumsR xs)]) ∧ w = w' := by
  cases hb : bytesB 16 xs
  · rw [onceR_no hb, sumsR_no hb]; exact sTS_no w v xs h hn hb
  · obtain ⟨A, c, rfl, h1⟩ := h
    rcases Nat.eq_zero_or_pos xs.length with h0 | h0
    · obtain rfl : xs = [] := List.eq_nil_of_length_eq_zero h0
      exact sTS_nil w A c
    · obtain ⟨b, off, rfl, ha⟩ := h1 h0
      exact sTS_yes w b off c xs.length xs rfl hb ha

theorem Rds.alloc {w : World} {v : Value} {xs : List Int} (h : Rds w v xs) (o : Obj) : Rds (w.alloc o) v xs := by
  obtain ⟨A, c, rfl, h1⟩ := h
  refine ⟨A, c, rfl, fun h0 => ?_⟩
  obtain ⟨b, off, rfl, ha⟩ := h1 h0
  exact ⟨b, off, rfl, by rw [World.size_alloc]; exact Nat.lt_succ_of_lt ha.1, fun j hj => by rw [World.cell?_alloc_past _ _ _ ha.1]; exact ha.2 j hj⟩

set_option maxHeartbeats 1600000 in
theorem iTS_any (w : World) (v : Value) (xs : List Int) (h : Rds w v xs) (hn : xs.length ≤ 1048576) :
    Calls Try.prog 12 #[v] w fun e w' => e = .returned (.tuple #[.int .i64 (onceR xs), .int .i64 (sumsR xs)]) ∧ Below w.heap.size w w' := by
  obtain ⟨A, c, rfl, hA⟩ := h
  have hr : Rds w (.slice A xs.length c) xs := ⟨A, c, rfl, hA⟩
  have hr2 := hr.alloc (.cells #[.slice A xs.length c] 22)
  have h1 := ivb_any _ _ xs hr2 hn
  cases hb : bytesB 16 xs
  · rw [onceR_no hb, sumsR_no hb]
    rw [hb] at h1
    have H1 := Lib.hid h1
    clear h1 hb hA hr hr2
    go_enter Try.func12, Try.ntmps12
    go_wp2_with (go_at_call 16; refine H1.out.mono ?_; rintro e w' ⟨rfl, rfl⟩)
    go_ret2
    exact ⟨rfl, (Below.refl _ _).alloc (Nat.le_refl _) _⟩
  · rw [onceR_yes hb, sumsR_yes hb]
    rw [hb] at h1
    obtain ⟨h16, hall⟩ := bytes16' hb
    have H1 := Lib.hid h1
    have hcl : (w.alloc (.cells #[.slice A xs.length c] 22)).cell? ⟨w.heap.size, 0, none⟩ = some (.slice A xs.length c) := World.cell?_alloc_at _ _ _ _ rfl
    have h2 := fun n => wgh_once_any ((w.alloc (.cells #[.slice A xs.length c] 22)).drewN n) _ xs h16 hall (hr2.drewN n)
    have h3 := fun n => wgh_ins_any ((w.alloc (.cells #[.slice A xs.length c] 22)).drewN n) _ w.heap.size c A xs h16 hall (hr2.drewN n) hcl
    have hw2 := wsum_bd hall (fun _ => 1) 1 (by omega) (fun k _ => ⟨by omega, by omega⟩) xs.length (Nat.le_refl _)
    have hw3 := wsum_bd hall (fun j => (xs.length : Int) - j) 16 (by omega) (fun k _ => ⟨by omega, by omega⟩) xs.length (Nat.le_refl _)
    rw [wsum_ssum] at h3 hw3
    generalize wsum (fun _ => 1) xs xs.length = S at *
    generalize ssum xs xs.length = T at *
    obtain ⟨s0, s1⟩ := hw2
    obtain ⟨t0, t1⟩ := hw3
    have s2 : S ≤ 100000 := by omega
    have t2 : T ≤ 1000000 := by omega
    have H2 := Lib.hid h2
    have H3 := Lib.hid h3
    clear h1 h2 h3 hb hA hr hr2 hall s1 t1 hcl
    go_enter Try.func12, Try.ntmps12
    go_wp2_with (go_at_call 16; refine H1.out.mono ?_; rintro e w' ⟨rfl, rfl⟩)
    go_quiet ((first | (go_at_call 17; with_reducible exact Calls.quiet_of_same (H2.out _)) | (go_at_call 17; with_reducible exact Calls.quiet_of_same (H3.out _))))
    go_wp2
    go_ret2
    exact ⟨rfl, below_drewN ((Below.refl _ _).alloc (Nat.le_refl _) _) nq⟩
end Go.Proofs.Ytghamnccapggpaa
