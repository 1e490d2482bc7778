/-
  The walk of the model's UnescapeBytes. Conditions: where the list lies, and the lengths that are typed.
-/
import Derived.Test.YtfnegelnkcpdiaaWuneI
namespace Go.Proofs.Ytfnegelnkcpdiaa
open Go.RowKit
set_option linter.unusedVariables false

theorem uneR_bytes {l : List Int} (h : bytesB 33 l = false) : uneR l = none := by
  unfold uneR
  rw [if_neg (by rw [h]; simp)]
theorem uneR_wide {l o : List Int} (h : une false l.dropLast = some o) (hb : 16 < o.length) : uneR l = none := by
  unfold uneR
  rw [h]
  simp only []
  split
  · rw [if_neg (by omega)]
  · rfl
theorem uneR_fine {l o : List Int} (h33 : bytesB 33 l = true) (hl : l.getLast? = some 192) (h : une false l.dropLast = some o) (hb : o.length ≤ 16) : uneR l = some o := by
  unfold uneR
  rw [if_pos ⟨h33, hl⟩, h]
  simp only []
  rw [if_pos hb]

set_option maxHeartbeats 3200000 in
theorem sUE_at (w : World) (b off c n : Nat) (xs : List Int) (hn : xs.length = n) (h0 : 1 ≤ n) (h : At w b off xs) (hlast : xs.getD (n - 1) 0 = 192) (hv : bytesB 33 xs = true) :
    Calls Try.prog 13 #[.slice (some ⟨b, off, none⟩) n c] w (UnPost (uneR xs) w) := by
  have h33 : n ≤ 33 := by simp [bytesB] at hv; omega
  have h1 := svy_at w b off c n 33 xs hn (by omega) (by omega) h
  rw [hv] at h1
  have H1 : Hid (Calls Try.prog 18 #[.slice (some ⟨b, off, none⟩) n c, .int .i64 33] w fun e w' => e = .returned (.bool true) ∧ w = w') := h1
  have hgl : xs.getLast? = some 192 := by rw [last_get (by omega), hn, hlast]
  have hdl : xs.dropLast = xs.take (n - 1) := by rw [List.dropLast_eq_take, hn]
  have hcl := h.2 (n - 1) (by omega)
  rw [hlast] at hcl
  obtain ⟨i0, hi, hz0, hz1, hz2⟩ := info_parts info3
  have HI := Lib.hid hi
  have HZ0 := Lib.hid hz0
  have HZ1 := Lib.hid hz1
  have HZ2 := Lib.hid hz2
  have HN := Lib.hid hn
  have HC := Lib.hid h.2
  have HLA := Lib.hid hlast
  have HGL := Lib.hid hgl
  have HDL := Lib.hid hdl
  have HV := Lib.hid hv
  have HM := Lib.hid (World.ownsRow_made (base := w.heap.size) (e := 3) (size := 1) w #[] 0 (Nat.le_refl _) (by unfold maxLen; omega) rfl)
  have hb := h.1
  clear h hn hgl hdl hlast hv h1 hi hz0 hz1 hz2
  obtain ⟨m, rfl⟩ : ∃ m, n = m + 1 := ⟨n - 1, by omega⟩
  simp only [Nat.add_sub_cancel] at hcl HDL HLA
  have hn0 : ((m : Int) + 1 == 0) = false := beq_eq_false_iff_ne.2 (by omega)
  go_enter Try.func13, Try.ntmps13
  go_wp2_with (go_at_call 18; refine H1.out.mono ?_; rintro e w' ⟨rfl, rfl⟩)
  go_loopw [5, 6] (fun ov i wr => ∃ (k : Nat) (o : List Int), k ≤ m ∧ i = .int .i64 k ∧ wr.ownsRow w.heap.size 3 1 ov o.length (ints o) ∧ Below w.heap.size w wr ∧ w.heap.size ≤ wr.heap.size ∧ ufo (xs.take k) ([], false) = some (o, false) ∧ o.length ≤ k) (fun _ i _ => m - (intOf i).toNat)
  case atStart => exact ⟨0, [], Nat.zero_le _, rfl, HM.out, (Below.refl _ _).alloc (Nat.le_refl _) _, by simp, rfl, by simp⟩
  case round =>
    obtain ⟨k, o, hk, rfl, hown, hbel, hsz, hu, hol⟩ := hrel
    have HU := Lib.hid hu
    clear hu
    by_cases hlt : k < m
    · have hkx : k < xs.length := by have := HN.out; omega
      have hc1 := (hbel.cell (p := ⟨b, off + k, none⟩) hb).trans (HC.out k hkx)
      have HS : Hid (ufo (xs.take (k + 1)) ([], false) = ust (o, false) (xs.getD k 0)) := by rw [takeI_snoc xs k hkx]; exact ufo_snoc _ _ _ _ HU.out
      have HD : ∀ j, j ≤ m → Hid (xs.take m = xs.take j ++ (xs.take m).drop j) := by
        intro j hj
        have e1 : xs.take j = (xs.take m).take j := by rw [List.take_take, Nat.min_eq_left (by omega)]
        rw [show Hid (xs.take m = xs.take j ++ (xs.take m).drop j) = (xs.take m = xs.take j ++ (xs.take m).drop j) from rfl, e1, List.take_append_drop]
      have hkx2 : k + 1 < xs.length := by have := HN.out; omega
      have hc2 := (hbel.cell (p := ⟨b, off + (k + 1), none⟩) hb).trans (HC.out (k + 1) hkx2)
      have HS2 : ∀ st, ufo (xs.take (k + 1)) ([], false) = some st → Hid (ufo (xs.take (k + 1 + 1)) ([], false) = ust st (xs.getD (k + 1) 0)) := by
        intro st hst
        rw [show Hid (ufo (xs.take (k + 1 + 1)) ([], false) = ust st (xs.getD (k + 1) 0)) = (ufo (xs.take (k + 1 + 1)) ([], false) = ust st (xs.getD (k + 1) 0)) from rfl, takeI_snoc xs (k + 1) hkx2]; exact ufo_snoc _ _ _ _ hst
      have hyl : k + 1 = m → xs.getD (k + 1) 0 = 192 := by rintro rfl; exact HLA.out
      clear hkx hkx2
      generalize xs.getD k 0 = x at *
      generalize xs.getD (k + 1) 0 = y at *
      cases h192 : (x == 192)
      · have n192 : x ≠ 192 := by simpa using h192
        cases h219 : (x == 219)
        · have n219 : x ≠ 219 := by simpa using h219
          have HX := Lib.hid (show ust (o, false) x = some (o ++ [x], false) by simp [ust, n192, n219])
          clear n192 n219 hyl hc2
          go_wp2_with (at_builtin; refine wpList_append_own _ rfl (.tmp 35) (.tmp 40) 22 rfl w.heap.size 3 i0 (.int .i64 0) 1 8 Try.underlying22 HI.out HZ0.out HZ1.out HZ2.out rfl (by decide) _ _ _ rfl (hown.alloc _) ⟨wr.heap.size, 0, none⟩ 1 1 [.int .i64 x] rfl rfl (cell_one_new _ _ _) (one_cell _ rfl) (by rw [mx]; omega) (by omega) (by simp; omega) ?_; intro v1 w1 hown1 hg1 hnil; clear hnil)
          have R := push_below hown hg1 hbel hsz
          go_roundw
          case rel => exact ⟨k + 1, o ++ [x], by omega, by go_num, ownI_snoc hown1, R.1, R.2, by rw [HS.out, HX.out], by simp; omega⟩
          case measure => simp [intOf]; omega
        · obtain rfl : x = 219 := by simpa using h219
          have hx : ufo (xs.take (k + 1)) ([], false) = some (o, true) := by rw [HS.out]; rfl
          have HX := Lib.hid hx
          clear n192 hx
          by_cases hkm : k + 1 = m
          · have hy := hyl hkm
            have HKM := Lib.hid hkm
            rw [hy] at hc2
            clear hyl hy hkm
            have e : uneR xs = none := uneR_bad (by rw [HDL.out]; have hm : ufo (xs.take m) ([], false) = some (o, true) := (by rw [← HKM.out]; exact HX.out); rw [une_end hm]; rfl)
            have HE := Lib.hid e
            clear e
            go_wp2
            go_ret2
            exact unPost_none HE.out hbel
          · have HX2 := HS2 _ HX.out
            clear hyl
            cases h220 : (y == 220)
            · have n220 : y ≠ 220 := by simpa using h220
              cases h221 : (y == 221)
              · have n221 : y ≠ 221 := by simpa using h221
                have HY := Lib.hid (show ust (o, true) y = none by simp [ust, n220, n221])
                clear n220 n221
                have e : uneR xs = none := uneR_bad (by rw [HDL.out]; rw [(HD (k + 1 + 1) (by omega)).out]; exact une_none (by rw [HX2.out]; exact HY.out))
                have HE := Lib.hid e
                clear e
                go_wp2
                go_ret2
                exact unPost_none HE.out hbel
              · obtain rfl : y = 221 := by simpa using h221
                clear n220
                go_wp2_with (at_builtin; refine wpList_append_own _ rfl (.tmp 61) (.tmp 62) 22 rfl w.heap.size 3 i0 (.int .i64 0) 1 8 Try.underlying22 HI.out HZ0.out HZ1.out HZ2.out rfl (by decide) _ _ _ rfl (hown.alloc _) ⟨wr.heap.size, 0, none⟩ 1 1 [.int .i64 219] rfl rfl (cell_one_new _ _ _) (one_cell _ rfl) (by rw [mx]; omega) (by omega) (by simp; omega) ?_; intro v1 w1 hown1 hg1 hnil; clear hnil)
                have R := push_below hown hg1 hbel hsz
                go_roundw
                case rel => exact ⟨k + 1 + 1, o ++ [219], by omega, by go_num, ownI_snoc hown1, R.1, R.2, by rw [HX2.out]; rfl, by simp; omega⟩
                case measure => simp [intOf]; omega
            · obtain rfl : y = 220 := by simpa using h220
              go_wp2_with (at_builtin; refine wpList_append_own _ rfl (.tmp 53) (.tmp 54) 22 rfl w.heap.size 3 i0 (.int .i64 0) 1 8 Try.underlying22 HI.out HZ0.out HZ1.out HZ2.out rfl (by decide) _ _ _ rfl (hown.alloc _) ⟨wr.heap.size, 0, none⟩ 1 1 [.int .i64 192] rfl rfl (cell_one_new _ _ _) (one_cell _ rfl) (by rw [mx]; omega) (by omega) (by simp; omega) ?_; intro v1 w1 hown1 hg1 hnil; clear hnil)
              have R := push_below hown hg1 hbel hsz
              go_roundw
              case rel => exact ⟨k + 1 + 1, o ++ [192], by omega, by go_num, ownI_snoc hown1, R.1, R.2, by rw [HX2.out]; rfl, by simp; omega⟩
              case measure => simp [intOf]; omega
      · obtain rfl : x = 192 := by simpa using h192
        clear hyl hc2
        have e : uneR xs = none := uneR_bad (by rw [HDL.out]; rw [(HD (k + 1) (by omega)).out]; exact une_none (by rw [HS.out]; rfl))
        have HE := Lib.hid e
        clear e
        go_wp2
        go_ret2
        exact unPost_none HE.out hbel
    · obtain rfl : k = m := by omega
      have hu := une_end HU.out
      have hu2 : une false (xs.take k) = some o := by rw [hu]; rfl
      obtain ⟨Ao, co, rfl⟩ := own_form hown
      by_cases h16 : (16 : Int) < (o.length : Int)
      · have HE := Lib.hid (uneR_wide (l := xs) (by rw [HDL.out]; exact hu2) (by omega))
        clear hu hu2
        go_wp2
        go_ret2
        exact unPost_none HE.out hbel
      · have HE := Lib.hid (uneR_fine HV.out HGL.out (by rw [HDL.out]; exact hu2) (by omega))
        have HOW := Lib.hid hown
        clear hu hu2 hown
        go_wp2
        go_ret2
        exact unPost_some HE.out HOW.out hbel

set_option maxHeartbeats 400000 in
theorem sUE_no (w : World) (b off c n : Nat) (xs : List Int) (hn : xs.length = n) (h0 : 1 ≤ n) (hn2 : n ≤ 1048576) (h : At w b off xs) (hbad : bytesB 33 xs = false ∨ (bytesB 33 xs = true ∧ xs.getD (n - 1) 0 ≠ 192)) :
    Calls Try.prog 13 #[.slice (some ⟨b, off, none⟩) n c] w (UnPost (uneR xs) w) := by
  have h1 := svy_at w b off c n 33 xs hn hn2 (by omega) h
  have hcl := h.2 (n - 1) (by omega)
  obtain ⟨m, rfl⟩ : ∃ m, n = m + 1 := ⟨n - 1, by omega⟩
  simp only [Nat.add_sub_cancel] at hcl hbad
  have hn0 : ((m : Int) + 1 == 0) = false := beq_eq_false_iff_ne.2 (by omega)
  rcases hbad with hv | ⟨hv, hne⟩
  · rw [hv] at h1
    have H1 : Hid (Calls Try.prog 18 #[.slice (some ⟨b, off, none⟩) (m + 1) c, .int .i64 33] w fun e w' => e = .returned (.bool false) ∧ w = w') := h1
    have HE := Lib.hid (uneR_bytes hv)
    clear h hn h1 hv hcl
    go_enter Try.func13, Try.ntmps13
    go_wp2_with (go_at_call 18; refine H1.out.mono ?_; rintro e w' ⟨rfl, rfl⟩)
    go_ret2
    exact unPost_none HE.out (Below.refl _ _)
  · rw [hv] at h1
    have H1 : Hid (Calls Try.prog 18 #[.slice (some ⟨b, off, none⟩) (m + 1) c, .int .i64 33] w fun e w' => e = .returned (.bool true) ∧ w = w') := h1
    have HE : Hid (uneR xs = none) := uneR_last (by rw [last_get (by omega), hn]; simpa using hne)
    have hq : (xs.getD m 0 != 192) = true := by simpa using hne
    clear h hn hne h1 hv
    generalize xs.getD m 0 = y at *
    go_enter Try.func13, Try.ntmps13
    go_wp2_with (go_at_call 18; refine H1.out.mono ?_; rintro e w' ⟨rfl, rfl⟩)
    go_ret2
    exact unPost_none HE.out (Below.refl _ _)
set_option maxHeartbeats 400000 in
theorem sUE_nil (w : World) (A : Option Addr) (c : Nat) :
    Calls Try.prog 13 #[.slice A 0 c] w (UnPost (uneR []) w) := by
  have HE : Hid (uneR [] = none) := uneR_last (by simp)
  go_enter Try.func13, Try.ntmps13
  go_wp2
  go_ret2
  exact unPost_none HE.out (Below.refl _ _)
theorem sUE_any (w : World) (v : Value) (xs : List Int) (h : Rds w v xs) (hn : xs.length ≤ 1048576) :
    Calls Try.prog 13 #[v] w (UnPost (uneR xs) w) := by
  obtain ⟨A, c, rfl, h1⟩ := h
  rcases Nat.eq_zero_or_pos xs.length with h0 | h0
  · obtain rfl : xs = [] := List.eq_nil_of_length_eq_zero h0
    exact sUE_nil w A c
  · obtain ⟨b, off, rfl, ha⟩ := h1 h0
    cases hv : bytesB 33 xs
    · exact sUE_no w b off c xs.length xs rfl h0 hn ha (.inl hv)
    · by_cases hok : xs.getD (xs.length - 1) 0 = 192
      · exact sUE_at w b off c xs.length xs rfl h0 ha hok hv
      · exact sUE_no w b off c xs.length xs rfl h0 hn ha (.inr ⟨hv, hok⟩)
theorem uneR_len (l : List Int) : ((uneR l).getD []).length ≤ 16 := by
  unfold uneR
  split
  · cases une false l.dropLast with
    | none => simp
    | some o =>
      simp only []
      split
      · simpa
      · simp
  · simp
end Go.Proofs.Ytfnegelnkcpdiaa
