/-
  The walks of the model's functions on rests and seals. Conditions: the lengths that are typed.
-/
import Derived.Test.YthmhjkflgokmgaaWrem
namespace Go.Proofs.Ythmhjkflgokmgaa
open Go.RowKit
set_option linter.unusedVariables false

theorem whole_eq (p s : List UInt8) : ((((remU p s).countP (· == 49) : Nat) : Int) == 0) = wholeB p s := by
  unfold wholeB
  cases h : (remU p s).any (· == 49)
  · have : (remU p s).countP (· == 49) = 0 := by
      rw [List.countP_eq_zero]
      intro a ha hb
      rw [List.any_eq_false] at h
      exact h a ha hb
    rw [this]; rfl
  · have : 0 < (remU p s).countP (· == 49) := by
      rw [List.countP_pos_iff]
      rw [List.any_eq_true] at h
      exact h
    rw [beq_eq_false_iff_ne.2 (by omega)]; rfl

set_option maxHeartbeats 400000 in
theorem swh_any (p s : ByteArray) (w : World) (hp1 : 1 ≤ p.size) (hp : p.size ≤ 1000) (hs : s.size ≤ 2000) :
    Calls Try.prog 33 #[.string p, .string s] w fun e w' => e = .returned (.bool (wholeB p.data.toList s.data.toList)) ∧ ∃ m, w' = w.drewN m := by
  have h1 := rem_any p s w hp1 hp hs
  have hl := remU_len p.data.toList s.data.toList (by simpa using hp1)
  have hq := whole_eq p.data.toList s.data.toList
  have h2 := fun W => son_any ⟨(remU p.data.toList s.data.toList).toArray⟩ W (by rw [mk_size, hl]; simp; have : s.data.size = s.size := rfl; omega)
  rw [show (ByteArray.mk (remU p.data.toList s.data.toList).toArray).data.toList = remU p.data.toList s.data.toList from rfl] at h2
  generalize wholeB p.data.toList s.data.toList = v at *
  generalize List.countP (· == 49) (remU p.data.toList s.data.toList) = q at *
  generalize ByteArray.mk (remU p.data.toList s.data.toList).toArray = R at *
  have H1 := Lib.hid h1
  have H2 := Lib.hid h2
  clear h1 h2 hl
  cases v
  all_goals
    go_enter Try.func33, Try.ntmps33
    go_wp2_with fail
    refine H1.out.mono ?_
    rintro e w1 ⟨rfl, m, rfl⟩
    go_wp2_with (go_at_call 44; refine (H2.out _).mono ?_; rintro e w' ⟨rfl, rfl⟩)
    go_ret
    exact ⟨rfl, m, rfl⟩

theorem restR_1 {p s : List UInt8} (h : polyB p = false) : restR p s = [] := by unfold restR; rw [if_neg (by simp [h])]
theorem restR_2 {p s : List UInt8} (h : bitsB 40 s = false) : restR p s = [] := by unfold restR; rw [if_neg (by simp [h])]
theorem restR_3 {p s : List UInt8} (h : ¬ p.length - 1 ≤ s.length) : restR p s = [] := by unfold restR; rw [if_neg (fun h' => h h'.2.2)]
theorem restR_4 {p s : List UInt8} (h1 : polyB p = true) (h2 : bitsB 40 s = true) (h : p.length - 1 ≤ s.length) : restR p s = remU p s := by unfold restR; rw [if_pos ⟨h1, h2, h⟩]
theorem poly_len {p : ByteArray} (h : polyB p.data.toList = true) : 2 ≤ p.size ∧ p.size ≤ 9 := by
  obtain ⟨Q, e, h1, h2, _⟩ := polyB_of h
  have hl : p.data.toList.length = p.size := by simp
  rw [e, txt_len, List.length_cons] at hl
  omega
theorem bits_len {m : Nat} {p : ByteArray} (h : bitsB m p.data.toList = true) : p.size ≤ m := by
  have hb : p.size ≤ m ∧ p.data.toList.all isBit = true := by simpa [bitsB] using h
  exact hb.1

set_option maxHeartbeats 800000 in
theorem sRO_any (p s : ByteArray) (w : World) (hp : p.size ≤ 1048576) (hs : s.size ≤ 1048576) :
    Calls Try.prog 13 #[.string p, .string s] w fun e w' => e = .returned (.string ⟨(restR p.data.toList s.data.toList).toArray⟩) ∧ ∃ m, w' = w.drewN m := by
  have h1 := svP_any p w (by unfold maxLen; omega)
  have h2 := svb_any s w (by unfold maxLen; omega)
  cases hv : polyB p.data.toList
  · rw [restR_1 hv]
    rw [hv] at h1
    have H1 := Lib.hid h1
    clear h1 h2 hv
    go_enter Try.func13, Try.ntmps13
    go_wp2_with (go_at_call 25; refine H1.out.mono ?_; rintro e w' ⟨rfl, rfl⟩)
    go_ret
    exact ⟨rfl, 0, rfl⟩
  · rw [hv] at h1
    have H1 := Lib.hid h1
    clear h1
    cases hb : bitsB 40 s.data.toList
    · rw [restR_2 hb]
      rw [hb] at h2
      have H2 := Lib.hid h2
      clear h2 hv hb
      go_enter Try.func13, Try.ntmps13
      go_wp2_with (first | (go_at_call 25; refine H1.out.mono ?_; rintro e w' ⟨rfl, rfl⟩) | (go_at_call 27; refine H2.out.mono ?_; rintro e w' ⟨rfl, rfl⟩))
      go_ret
      exact ⟨rfl, 0, rfl⟩
    · have hp29 := poly_len hv
      have hs40 := bits_len hb
      rw [hb] at h2
      have H2 := Lib.hid h2
      clear h2
      by_cases hl : p.data.toList.length - 1 ≤ s.data.toList.length
      · rw [restR_4 hv hb hl]
        have hl' : p.size - 1 ≤ s.size := by simpa using hl
        have hg : ¬ (s.size : Int) < (p.size : Int) - 1 := by omega
        have hg2 : decide ((s.size : Int) < (p.size : Int) - 1) = false := by simpa using hg
        have h3 := rem_any p s w (by omega) (by omega) (by omega)
        generalize ByteArray.mk (remU p.data.toList s.data.toList).toArray = R at *
        have H3 := Lib.hid h3
        clear h3 hv hb hl
        obtain ⟨q1, q2⟩ := hp29
        go_enter Try.func13, Try.ntmps13
        go_wp2_with (first | (go_at_call 25; refine H1.out.mono ?_; rintro e w' ⟨rfl, rfl⟩) | (go_at_call 27; refine H2.out.mono ?_; rintro e w' ⟨rfl, rfl⟩))
        refine H3.out.mono ?_
        rintro e w1 ⟨rfl, m, rfl⟩
        go_wp2
        go_ret
        exact ⟨rfl, m, rfl⟩
      · rw [restR_3 hl]
        have hl' : ¬ p.size - 1 ≤ s.size := by simpa using hl
        have hg : (s.size : Int) < (p.size : Int) - 1 := by omega
        have hg2 : decide ((s.size : Int) < (p.size : Int) - 1) = true := by simpa using hg
        clear hv hb hl hl'
        obtain ⟨q1, q2⟩ := hp29
        go_enter Try.func13, Try.ntmps13
        go_wp2_with (first | (go_at_call 25; refine H1.out.mono ?_; rintro e w' ⟨rfl, rfl⟩) | (go_at_call 27; refine H2.out.mono ?_; rintro e w' ⟨rfl, rfl⟩))
        go_ret
        exact ⟨rfl, 0, rfl⟩

theorem sealR_1 {p s : List UInt8} (h : polyB p = false) : sealR p s = [] := by unfold sealR; rw [if_neg (by simp [h])]
theorem sealR_2 {p s : List UInt8} (h : bitsB 40 (s ++ List.replicate (p.length - 1) 48) = false) : sealR p s = [] := by unfold sealR; rw [if_neg (by simp [h])]
theorem sealR_3 {p s : List UInt8} (h1 : polyB p = true) (h : bitsB 40 (s ++ List.replicate (p.length - 1) 48) = true) : sealR p s = s ++ remU p (s ++ List.replicate (p.length - 1) 48) := by unfold sealR; rw [if_pos ⟨h1, h⟩]
theorem app_list (s : ByteArray) (l : List UInt8) : s ++ ByteArray.mk l.toArray = ByteArray.mk (s.data.toList ++ l).toArray := by
  rw [← ByteArray.mk_append_mk, Lib.mk_data]

set_option maxHeartbeats 800000 in
theorem sSE_any (p s : ByteArray) (w : World) (hp : p.size ≤ 1048576) (hs : s.size ≤ 1048576) :
    Calls Try.prog 15 #[.string p, .string s] w fun e w' => e = .returned (.string ⟨(sealR p.data.toList s.data.toList).toArray⟩) ∧ ∃ m, w' = w.drewN m := by
  have h1 := svP_any p w (by unfold maxLen; omega)
  cases hv : polyB p.data.toList
  · rw [sealR_1 hv]
    rw [hv] at h1
    have H1 := Lib.hid h1
    clear h1 hv
    go_enter Try.func15, Try.ntmps15
    go_wp2_with (go_at_call 25; refine H1.out.mono ?_; rintro e w' ⟨rfl, rfl⟩)
    go_ret
    exact ⟨rfl, 0, rfl⟩
  · rw [hv] at h1
    have H1 := Lib.hid h1
    clear h1
    obtain ⟨q1, q2⟩ := poly_len hv
    have hz := sze_any ((p.size : Int) - 1) w (by omega) (by omega)
    have e0 : ((p.size : Int) - 1).toNat = p.data.toList.length - 1 := by simp
    rw [e0] at hz
    have hZ : (ByteArray.mk (List.replicate (p.data.toList.length - 1) (48 : UInt8)).toArray).size ≤ 8 := by rw [mk_size]; simp; have : p.data.size = p.size := rfl; omega
    have happ := app_list s (List.replicate (p.data.toList.length - 1) (48 : UInt8))
    generalize hR : List.replicate (p.data.toList.length - 1) (48 : UInt8) = Rz at *
    have hST : (s ++ ByteArray.mk Rz.toArray).size ≤ 1048600 := by rw [ByteArray.size_append]; omega
    have h2 := svb_any (s ++ ByteArray.mk Rz.toArray) w (by unfold maxLen; omega)
    have hdt : (s ++ ByteArray.mk Rz.toArray).data.toList = s.data.toList ++ Rz := by rw [happ]
    rw [hdt] at h2
    have H0 := Lib.hid hz
    clear hz
    cases hb : bitsB 40 (s.data.toList ++ Rz)
    · rw [sealR_2 (by rw [hR]; exact hb)]
      rw [hb] at h2
      have H2 := Lib.hid h2
      clear h2 hv hb hdt happ hR e0
      generalize ByteArray.mk Rz.toArray = Z at *
      go_enter Try.func15, Try.ntmps15
      go_wp2_with (first | (go_at_call 25; refine H1.out.mono ?_; rintro e w' ⟨rfl, rfl⟩) | (go_at_call 31; refine H0.out.mono ?_; rintro e w' ⟨rfl, rfl⟩) | (go_at_call 27; refine H2.out.mono ?_; rintro e w' ⟨rfl, rfl⟩))
      go_ret
      exact ⟨rfl, 0, rfl⟩
    · rw [sealR_3 hv (by rw [hR]; exact hb), hR]
      rw [hb] at h2
      have hs40 : (s ++ ByteArray.mk Rz.toArray).size ≤ 40 := bits_len (m := 40) (by rw [hdt]; exact hb)
      have h3 := rem_any p (s ++ ByteArray.mk Rz.toArray) w (by omega) (by omega) (by omega)
      have hrl := remU_len p.data.toList (s.data.toList ++ Rz) (by simp; have : p.data.size = p.size := rfl; omega)
      have happ2 := app_list s (remU p.data.toList (s.data.toList ++ Rz))
      rw [hdt] at h3
      have hRM : (ByteArray.mk (remU p.data.toList (s.data.toList ++ Rz)).toArray).size ≤ 8 := by rw [mk_size, hrl]; simp; have : p.data.size = p.size := rfl; omega
      rw [← happ2]
      have H2 := Lib.hid h2
      have H3 := Lib.hid h3
      clear h2 h3 hv hb hdt happ hR e0 happ2 hrl
      generalize ByteArray.mk (remU p.data.toList (s.data.toList ++ Rz)).toArray = R at *
      generalize ByteArray.mk Rz.toArray = Z at *
      go_enter Try.func15, Try.ntmps15
      go_wp2_with (first | (go_at_call 25; refine H1.out.mono ?_; rintro e w' ⟨rfl, rfl⟩) | (go_at_call 31; refine H0.out.mono ?_; rintro e w' ⟨rfl, rfl⟩) | (go_at_call 27; refine H2.out.mono ?_; rintro e w' ⟨rfl, rfl⟩))
      refine H3.out.mono ?_
      rintro e w1 ⟨rfl, m, rfl⟩
      go_wp2
      go_ret
      exact ⟨rfl, m, rfl⟩

theorem sealedB_1 {p s : List UInt8} (h : polyB p = false) : sealedB p s = false := by simp [sealedB, h]
theorem sealedB_2 {p s : List UInt8} (h : bitsB 40 s = false) : sealedB p s = false := by simp [sealedB, h]
theorem sealedB_3 {p s : List UInt8} (h : ¬ p.length - 1 ≤ s.length) : sealedB p s = false := by
  unfold sealedB; rw [decide_eq_false h]; simp
theorem sealedB_4 {p s : List UInt8} (h1 : polyB p = true) (h2 : bitsB 40 s = true) (h : p.length - 1 ≤ s.length) : sealedB p s = wholeB p s := by
  unfold sealedB; rw [decide_eq_true h, h1, h2]; simp

set_option maxHeartbeats 800000 in
theorem sIS_any (p s : ByteArray) (w : World) (hp : p.size ≤ 1048576) (hs : s.size ≤ 1048576) :
    Calls Try.prog 17 #[.string p, .string s] w fun e w' => e = .returned (.bool (sealedB p.data.toList s.data.toList)) ∧ ∃ m, w' = w.drewN m := by
  have h1 := svP_any p w (by unfold maxLen; omega)
  have h2 := svb_any s w (by unfold maxLen; omega)
  cases hv : polyB p.data.toList
  · rw [sealedB_1 hv]
    rw [hv] at h1
    have H1 := Lib.hid h1
    clear h1 h2 hv
    go_enter Try.func17, Try.ntmps17
    go_wp2_with (go_at_call 25; refine H1.out.mono ?_; rintro e w' ⟨rfl, rfl⟩)
    go_ret
    exact ⟨rfl, 0, rfl⟩
  · rw [hv] at h1
    have H1 := Lib.hid h1
    clear h1
    cases hb : bitsB 40 s.data.toList
    · rw [sealedB_2 hb]
      rw [hb] at h2
      have H2 := Lib.hid h2
      clear h2 hv hb
      go_enter Try.func17, Try.ntmps17
      go_wp2_with (first | (go_at_call 25; refine H1.out.mono ?_; rintro e w' ⟨rfl, rfl⟩) | (go_at_call 27; refine H2.out.mono ?_; rintro e w' ⟨rfl, rfl⟩))
      go_ret
      exact ⟨rfl, 0, rfl⟩
    · have hp29 := poly_len hv
      have hs40 := bits_len hb
      rw [hb] at h2
      have H2 := Lib.hid h2
      clear h2
      by_cases hl : p.data.toList.length - 1 ≤ s.data.toList.length
      · rw [sealedB_4 hv hb hl]
        have hl' : p.size - 1 ≤ s.size := by simpa using hl
        have hg : (p.size : Int) - 1 ≤ (s.size : Int) := by omega
        have hg2 : decide ((p.size : Int) - 1 ≤ (s.size : Int)) = true := by simpa using hg
        have h3 := swh_any p s w (by omega) (by omega) (by omega)
        generalize wholeB p.data.toList s.data.toList = R at *
        have H3 := Lib.hid h3
        clear h3 hv hb hl
        obtain ⟨q1, q2⟩ := hp29
        cases R
        all_goals
          go_enter Try.func17, Try.ntmps17
          go_wp2_with (first | (go_at_call 25; refine H1.out.mono ?_; rintro e w' ⟨rfl, rfl⟩) | (go_at_call 27; refine H2.out.mono ?_; rintro e w' ⟨rfl, rfl⟩))
          refine H3.out.mono ?_
          rintro e w1 ⟨rfl, m, rfl⟩
          go_wp2
          go_ret
          exact ⟨rfl, m, rfl⟩
      · rw [sealedB_3 hl]
        have hl' : ¬ p.size - 1 ≤ s.size := by simpa using hl
        have hg : ¬ (p.size : Int) - 1 ≤ (s.size : Int) := by omega
        have hg2 : decide ((p.size : Int) - 1 ≤ (s.size : Int)) = false := by simpa using hg
        clear hv hb hl hl'
        obtain ⟨q1, q2⟩ := hp29
        go_enter Try.func17, Try.ntmps17
        go_wp2_with (first | (go_at_call 25; refine H1.out.mono ?_; rintro e w' ⟨rfl, rfl⟩) | (go_at_call 27; refine H2.out.mono ?_; rintro e w' ⟨rfl, rfl⟩))
        go_ret
        exact ⟨rfl, 0, rfl⟩
end Go.Proofs.Ythmhjkflgokmgaa
