/-
  The walk of the model's function that cuts lengths. No condition.
-/
import Derived.Test.YteililppbnbfhaaWcu
namespace Go.Proofs.Yteililppbnbfhaa
open Go.RowKit
set_option linter.unusedVariables false

set_option maxHeartbeats 1600000 in
theorem sCL_bad (w : World) (L M U : Int) (hb : cutA L M U = false) :
    Calls Try.prog 49 #[.int .i64 L, .int .i64 M, .int .i64 U] w fun e w' => e = .returned (.tuple #[.slice none 0 0, .bool false]) ∧ w = w' := by
  have H1 := Lib.hid (fun W => inr_any W L 1 60)
  have H2 := Lib.hid (fun W => inr_any W U 1 8)
  have H3 := Lib.hid (fun W => inr_any W M U 60)
  unfold cutA at hb
  generalize (decide (1 ≤ L) && decide (L ≤ 60)) = b1 at *
  generalize (decide (1 ≤ U) && decide (U ≤ 8)) = b2 at *
  generalize (decide (U ≤ M) && decide (M ≤ 60)) = b3 at *
  cases b1
  · clear hb
    go_enter Try.func49, Try.ntmps49
    go_wp2_with (go_at_call 26; refine (H1.out _).mono ?_; rintro e w' ⟨rfl, rfl⟩)
    go_ret2
    exact ⟨rfl, rfl⟩
  · cases b2
    · clear hb
      go_enter Try.func49, Try.ntmps49
      go_wp2_with (first | (go_at_call 26; with_reducible refine (H1.out _).mono ?_; rintro e w' ⟨rfl, rfl⟩) | (go_at_call 26; with_reducible refine (H2.out _).mono ?_; rintro e w' ⟨rfl, rfl⟩))
      go_ret2
      exact ⟨rfl, rfl⟩
    · cases b3
      · clear hb
        go_enter Try.func49, Try.ntmps49
        go_wp2_with (first | (go_at_call 26; with_reducible refine (H1.out _).mono ?_; rintro e w' ⟨rfl, rfl⟩) | (go_at_call 26; with_reducible refine (H2.out _).mono ?_; rintro e w' ⟨rfl, rfl⟩) | (go_at_call 26; with_reducible refine (H3.out _).mono ?_; rintro e w' ⟨rfl, rfl⟩))
        go_ret2
        exact ⟨rfl, rfl⟩
      · cases hb

set_option maxHeartbeats 3200000 in
theorem sCL_at (w : World) (L M U S : Int) (R l : List Pc) (b : Bool) (hb : cutA L M U = true) (hS : S = M - M % U) (hR : R = cutF L M S 61 0) (hlo : R.length ≤ 20 → b = true ∧ l = R) (hhi : 20 < R.length → b = false ∧ l = []) :
    Calls Try.prog 49 #[.int .i64 L, .int .i64 M, .int .i64 U] w (CutPost b l w) := by
  have H1 := fun W => inr_any W L 1 60
  have H2 := fun W => inr_any W U 1 8
  have H3 := fun W => inr_any W M U 60
  unfold cutA at hb
  simp only [Bool.and_eq_true, decide_eq_true_eq] at hb
  obtain ⟨⟨l1, l2⟩, ⟨u1, u2⟩, m1, m2⟩ := hb
  have t1 : (decide (1 ≤ L) && decide (L ≤ 60)) = true := by simp; omega
  have t2 : (decide (1 ≤ U) && decide (U ≤ 8)) = true := by simp; omega
  have t3 : (decide (U ≤ M) && decide (M ≤ 60)) = true := by simp; omega
  rw [t1] at H1
  rw [t2] at H2
  rw [t3] at H3
  have HH1 := Lib.hid H1
  have HH2 := Lib.hid H2
  have HH3 := Lib.hid H3
  obtain ⟨hs1, hs2, hs3, hr0, hr1, hq0, hq1⟩ := step_bd u1 m1
  rw [← hS] at hs1 hs2 hs3
  have hqt : M.tdiv U = M / U := Int.tdiv_eq_ediv_of_nonneg (by omega)
  obtain ⟨i0, hi, hz0, hz1, hz2⟩ := info_parts infoP
  have HI := Lib.hid hi
  have HZ0 := Lib.hid hz0
  have HZ1 := Lib.hid hz1
  have HZ2 := Lib.hid hz2
  have HRR := Lib.hid hR
  have HSS := Lib.hid hS
  have HLO := Lib.hid hlo
  have HHI := Lib.hid hhi
  clear hi hz0 hz1 hz2 t1 t2 t3 H1 H2 H3 hR hlo hhi hS
  clear hr0 hr1
  have HM0 := Lib.hid (World.ownsRow_made (base := w.heap.size) (e := 38) (size := 3) w #[] 0 (Nat.le_refl _) (by unfold maxLen; omega) rfl)
  go_enter Try.func49, Try.ntmps49
  go_wp2_with (first | (go_at_call 26; with_reducible refine (HH1.out _).mono ?_; rintro e w' ⟨rfl, rfl⟩) | (go_at_call 26; with_reducible refine (HH2.out _).mono ?_; rintro e w' ⟨rfl, rfl⟩) | (go_at_call 26; with_reducible refine (HH3.out _).mono ?_; rintro e w' ⟨rfl, rfl⟩))
  go_loopw [8, 9, 10] (fun lv av sv wr => ∃ (ls : List Pc) (f : Nat) (a : Int), av = .int .i64 a ∧ OwnP wr w.heap.size lv ls ∧ ((a < L ∧ ls ++ cutF L M S f a = R ∧ (ls.length : Int) ≤ a ∧ 61 ≤ f + a) ∨ (a = L ∧ ls = R ∧ ls.length ≤ 61)) ∧ 0 ≤ a ∧ Below w.heap.size w wr ∧ f ≤ 61) (fun _ av _ _ => 61 - (intOf av).toNat)
  case atStart => exact ⟨[], 61, 0, rfl, HM0.out, .inl ⟨by omega, HRR.out.symm, by simp, by omega⟩, by omega, (Below.refl _ _).alloc (Nat.le_refl _) _, by omega⟩
  case round =>
    obtain ⟨ls, f, a, rfl, hown, hcase, ha0, hbel, hf⟩ := hrel
    have HO := Lib.hid hown
    have HBEL := Lib.hid hbel
    obtain ⟨A, cp, rfl⟩ := own_form3 hown
    clear hown hbel
    rcases hcase with ⟨haL, hls, hla, hfa⟩ | ⟨haL, hls, hle⟩
    · obtain ⟨f, rfl⟩ : ∃ g, f = g + 1 := ⟨f - 1, by omega⟩
      by_cases hgt : M < L - a
      · have hd : decide (M < L - a) = true := by simpa using hgt
        have hmore : decide (a + S < L) = true := by simp; omega
        rw [cutF_more L M S f a hgt] at hls
        have HLS := Lib.hid hls
        have HGT := Lib.hid hgt
        have HS3 := Lib.hid hs3
        clear hls hgt
        go_wp2_with (at_builtin; refine wpList_append_own _ rfl (.tmp 40) (.tmp 49) 24 rfl w.heap.size 38 i0 (.agg #[.int .i64 0, .int .i64 0, .bool false]) 3 24 Try.underlying24 HI.out HZ0.out HZ1.out HZ2.out rfl (by decide) _ _ _ rfl (HO.out.alloc _) ⟨wr.heap.size, 0, none⟩ 1 1 (pcs [⟨a, S, true⟩]) rfl rfl (new3 _ _ _ _ _) (one3 _ _ _) (by rw [mx]; omega) (by omega) (by have := HBEL.out.size; simp; omega) ?_; intro v9 w9 hown9 hg9 hnil; clear hnil)
        have R2 := push3_below HO.out hg9 HBEL.out HBEL.out.size
        go_roundw
        case rel => exact ⟨ls ++ [⟨a, S, true⟩], f, a + S, rfl, ownP_snoc hown9, .inl ⟨by have := HGT.out; omega, by rw [← HLS.out]; simp, by simp; omega, by omega⟩, by omega, R2.1, by omega⟩
        case measure => simp [intOf]; omega
      · have hd : decide (M < L - a) = false := by simpa using hgt
        have hmore : decide (a + (L - a) < L) = false := by simp; omega
        rw [cutF_last L M S f a hgt] at hls
        have HLS := Lib.hid hls
        clear hls hgt
        go_wp2_with (at_builtin; refine wpList_append_own _ rfl (.tmp 40) (.tmp 49) 24 rfl w.heap.size 38 i0 (.agg #[.int .i64 0, .int .i64 0, .bool false]) 3 24 Try.underlying24 HI.out HZ0.out HZ1.out HZ2.out rfl (by decide) _ _ _ rfl (HO.out.alloc _) ⟨wr.heap.size, 0, none⟩ 1 1 (pcs [⟨a, L - a, false⟩]) rfl rfl (new3 _ _ _ _ _) (one3 _ _ _) (by rw [mx]; omega) (by omega) (by have := HBEL.out.size; simp; omega) ?_; intro v9 w9 hown9 hg9 hnil; clear hnil)
        have R2 := push3_below HO.out hg9 HBEL.out HBEL.out.size
        go_roundw
        case rel => exact ⟨ls ++ [⟨a, L - a, false⟩], 0, L, by congr 1; omega, ownP_snoc hown9, .inr ⟨rfl, HLS.out, by simp; omega⟩, by omega, R2.1, by omega⟩
        case measure => simp [intOf]; omega
    · subst haL
      have HLS := Lib.hid hls
      have hd : decide (a < a) = false := by simp
      by_cases h20 : ls.length ≤ 20
      · obtain ⟨rfl, rfl⟩ := HLO.out (by rw [← hls]; exact h20)
        have hd2 : decide ((20 : Int) < (ls.length : Int)) = false := by simp; omega
        clear hls
        go_wp2
        go_ret2
        refine ⟨_, rfl, ?_, HBEL.out⟩
        rw [← HLS.out]; exact HO.out
      · obtain ⟨rfl, rfl⟩ := HHI.out (by rw [← hls]; omega)
        have hd2 : decide ((20 : Int) < (ls.length : Int)) = true := by simp; omega
        clear hls
        go_wp2
        go_ret2
        exact ⟨_, rfl, OwnP.nil _ _, HBEL.out⟩
theorem sCL_any (w : World) (L M U : Int) :
    Calls Try.prog 49 #[.int .i64 L, .int .i64 M, .int .i64 U] w (CutPost (cutB L M U) (cutR L M U) w) := by
  cases hb : cutA L M U
  · have e1 : cutB L M U = false := by simp [cutB, hb]
    have e2 : cutR L M U = [] := by simp [cutR, e1]
    rw [e1, e2]
    exact (sCL_bad w L M U hb).mono fun e w' ⟨h1, h2⟩ => ⟨_, h1, OwnP.nil _ _, by rw [h2]; exact Below.refl _ _⟩
  · refine sCL_at w L M U _ _ _ _ hb rfl rfl (fun h => ?_) (fun h => ?_)
    · have e1 : cutB L M U = true := by
        have h' : (cutL L M U).length ≤ 20 := h
        simp [cutB, hb, h']
      exact ⟨e1, by simp only [cutR, e1, if_true]; rfl⟩
    · have e1 : cutB L M U = false := by
        have h' : 20 < (cutL L M U).length := h
        simp [cutB, hb]; omega
      exact ⟨e1, by simp [cutR, e1]⟩
end Go.Proofs.Yteililppbnbfhaa
