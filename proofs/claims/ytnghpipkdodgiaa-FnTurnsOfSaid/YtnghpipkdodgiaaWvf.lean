/-
  The walks of the functions that say whether lists are flows. Conditions: where the lists lie, and the lengths that are typed.
-/
import Derived.Test.YtnghpipkdodgiaaWll
import Derived.Test.YtnghpipkdodgiaaWvd
namespace Go.Proofs.Ytnghpipkdodgiaa
open Go.RowKit
set_option linter.unusedVariables false

theorem okP_okM (l : List Int) : okP l = okM 6 l := by
  unfold okP okM okL
  cases hA : l.all isLoad
  · rfl
  · by_cases h : l.length ≤ 6
    · have : l.length ≤ 16 := by omega
      simp [h, this]
    · simp [h]
theorem okP_okL {l : List Int} (h : okP l = true) : okL l = true := (okP_parts h).1
theorem okP_le {l : List Int} (h : okP l = true) : decide (6 < l.length) = false := by have := (okP_parts h).2; simp; omega
theorem okP_badL {l : List Int} (h : okL l = false) : okP l = false := by simp [okP, h]
theorem okP_badN {l : List Int} (h : decide (6 < l.length) = true) : okP l = false := by simp only [decide_eq_true_eq] at h; simp [okP]; intro; omega
theorem okP_mk {l : List Int} (h : okL l = true) (h2 : decide (6 < l.length) = false) : okP l = true := by simp only [decide_eq_false_iff_not] at h2; simp [okP, h]; omega
theorem allF_snoc (L : List (List Int)) (k : Nat) (h : k < L.length) (ha : (L.take k).all okP = true) (hb : okP (L.getD k []) = true) : (L.take (k + 1)).all okP = true := by
  rw [List.take_add_one, List.getElem?_eq_getElem h, List.all_append, ha]
  rw [List.getD_eq_getElem?_getD, List.getElem?_eq_getElem h] at hb
  simpa using hb
theorem allF_bad (L : List (List Int)) (k : Nat) (h : k < L.length) (hb : okP (L.getD k []) = false) : okF L = false := by
  have : L.all okP = false := by
    rw [List.all_eq_false]
    exact ⟨L.getD k [], by rw [List.getD_eq_getElem?_getD, List.getElem?_eq_getElem h]; exact List.getElem_mem h, by rw [hb]; simp⟩
  simp [okF, this]
theorem allF_end (L : List (List Int)) (k : Nat) (h : ¬ k < L.length) (ha : (L.take k).all okP = true) : okF L = decide (L.length ≤ 4) := by
  rw [List.take_of_length_le (by omega)] at ha
  simp [okF, ha]
theorem okF_long (L : List (List Int)) (h : ¬ L.length ≤ 4) : okF L = false := by simp [okF, h]

set_option maxHeartbeats 800000 in
theorem iVf_any (w : World) (v : Value) (L : List (List Int)) (hv : RdsL w v L) (hL : L.length ≤ 1048576) (hn : ∀ k, (L.getD k []).length ≤ 1048576) :
    Calls Try.prog 22 #[v] w fun e w' => e = .returned (.bool (okF L)) ∧ w = w' := by
  obtain ⟨A, c, hvf⟩ := hv.form
  subst hvf
  have HV := Lib.hid hv
  have HN := Lib.hid hn
  clear hv hn
  by_cases h4 : L.length ≤ 4
  · have hd : decide (4 < L.length) = false := by simp; omega
    have HB := fun k h hb => Lib.hid (allF_bad L k h hb)
    go_enter Try.func22, Try.ntmps22
    go_wp2
    go_loop [10] (fun i => ∃ k : Nat, k ≤ L.length ∧ i = .int .i64 k ∧ (L.take k).all okP = true) (fun i => L.length - (intOf i).toNat)
    case atStart => exact ⟨0, Nat.zero_le _, rfl, by simp⟩
    case round =>
      obtain ⟨k, hk, rfl, hall⟩ := hrel
      have HAL := Lib.hid hall
      clear hall
      by_cases hlt : k < L.length
      · obtain ⟨b, off, hb, hat⟩ := HV.out.cells (by omega)
        subst hb
        obtain ⟨u, hc1, hu, _⟩ := hat.2 k hlt
        have HC := iOnl_any w u (L.getD k []) 6 (by omega) hu (HN.out k)
        rw [← okP_okM] at HC
        have HS := fun h => Lib.hid (allF_snoc L k hlt HAL.out h)
        have HX := fun h => HB k hlt h
        obtain ⟨Au, cu, hur, _⟩ := hu
        subst hur
        clear hat
        generalize L.getD k [] = m at *
        cases hb : okP m
        · have HY := HX hb
          rw [hb] at HC
          have H := Lib.hid HC
          clear HC hb HS HX HB
          go_wp2_with (go_at_call 30; refine H.out.mono ?_; rintro e w' ⟨rfl, rfl⟩)
          go_ret
          exact ⟨ret_bool HY.out.symm, rfl⟩
        · have HY := HS hb
          rw [hb] at HC
          have H := Lib.hid HC
          clear HC hb HS HX HB
          go_wp2_with (go_at_call 30; refine H.out.mono ?_; rintro e w' ⟨rfl, rfl⟩)
          go_round
          case rel => exact ⟨k + 1, by omega, by go_num, HY.out⟩
          case measure => simp [intOf]; omega
      · have HX := Lib.hid (allF_end L k hlt HAL.out)
        go_wp2
        go_ret
        refine ⟨ret_bool ?_, rfl⟩
        rw [HX.out]; exact (decide_eq_true h4).symm
  · rw [okF_long L h4]
    have hd : decide (4 < L.length) = true := by simp; omega
    go_enter Try.func22, Try.ntmps22
    go_wp2
    go_ret
    exact ⟨rfl, rfl⟩

set_option maxHeartbeats 800000 in
theorem sVf_any (w : World) (v : Value) (L : List (List Int)) (hv : RdsL w v L) (hL : L.length ≤ 1048576) (hn : ∀ k, (L.getD k []).length ≤ 1048576) :
    Calls Try.prog 18 #[v] w fun e w' => e = .returned (.bool (okF L)) ∧ w = w' := by
  obtain ⟨A, c, hvf⟩ := hv.form
  subst hvf
  have HV := Lib.hid hv
  have HN := Lib.hid hn
  clear hv hn
  have HB := fun k h hb => Lib.hid (allF_bad L k h hb)
  go_enter Try.func18, Try.ntmps18
  go_wp2
  go_loop [3] (fun i => ∃ k : Nat, k ≤ L.length ∧ i = .int .i64 k ∧ (L.take k).all okP = true) (fun i => L.length - (intOf i).toNat)
  case atStart => exact ⟨0, Nat.zero_le _, rfl, by simp⟩
  case round =>
    obtain ⟨k, hk, rfl, hall⟩ := hrel
    have HAL := Lib.hid hall
    clear hall
    by_cases hlt : k < L.length
    · obtain ⟨b, off, hb, hat⟩ := HV.out.cells (by omega)
      subst hb
      obtain ⟨u, hc1, hu, _⟩ := hat.2 k hlt
      have HC := sVld_any w u (L.getD k []) hu (HN.out k)
      have HS := fun h => Lib.hid (allF_snoc L k hlt HAL.out h)
      have HX := fun h => HB k hlt h
      have hml := HN.out k
      obtain ⟨Au, cu, hur, _⟩ := hu
      subst hur
      clear hat
      generalize L.getD k [] = m at *
      cases hb : okL m
      · have HY := HX (okP_badL hb)
        rw [hb] at HC
        have H := Lib.hid HC
        clear HC hb HS HX HB
        go_wp2_with (go_at_call 29; refine H.out.mono ?_; rintro e w' ⟨rfl, rfl⟩)
        go_ret
        exact ⟨ret_bool HY.out.symm, rfl⟩
      · by_cases hd : (m.length : Int) ≤ 6
        · have HY := HS (okP_mk hb (by simp; omega))
          rw [hb] at HC
          have H := Lib.hid HC
          clear HC hb HS HX HB
          go_wp2_with (go_at_call 29; refine H.out.mono ?_; rintro e w' ⟨rfl, rfl⟩)
          go_round
          case rel => exact ⟨k + 1, by omega, by go_num, HY.out⟩
          case measure => simp [intOf]; omega
        · have HY := HX (okP_badN (by simp; omega))
          rw [hb] at HC
          have H := Lib.hid HC
          clear HC hb HS HX HB
          go_wp2_with (go_at_call 29; refine H.out.mono ?_; rintro e w' ⟨rfl, rfl⟩)
          go_ret
          exact ⟨ret_bool HY.out.symm, rfl⟩
    · have HX := Lib.hid (allF_end L k hlt HAL.out)
      go_wp2
      go_ret
      refine ⟨ret_bool ?_, rfl⟩
      rw [HX.out]; simp; omega
end Go.Proofs.Ytnghpipkdodgiaa
