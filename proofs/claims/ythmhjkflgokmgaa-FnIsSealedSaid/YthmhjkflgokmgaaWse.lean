/-
  The walks of the program's SealBits and IsSealed. Conditions: the lengths that are typed.
-/
import Derived.Test.YthmhjkflgokmgaaWim
namespace Go.Proofs.Ythmhjkflgokmgaa
open Go.RowKit
set_option linter.unusedVariables false

set_option maxHeartbeats 1600000 in
theorem iSE_any (p s : ByteArray) (w : World) (hp : p.size ≤ 1048576) (hs : s.size ≤ 1048576) :
    Calls Try.prog 16 #[.string p, .string s] w fun e w' => e = .returned (.string ⟨(sealR p.data.toList s.data.toList).toArray⟩) ∧ Below w.heap.size w w' := by
  have h1 := fun W => iVP_any p W (by unfold maxLen; omega)
  cases hv : polyB p.data.toList
  · rw [sealR_1 hv]
    rw [hv] at h1
    have H1 := Lib.hid h1
    clear h1 hv
    go_enter Try.func16, Try.ntmps16
    go_wp2_with (go_at_call 12; refine (H1.out _).mono ?_; rintro e w1 ⟨rfl, hb1⟩)
    go_ret
    exact ⟨rfl, hb1⟩
  · rw [hv] at h1
    have H1 := Lib.hid h1
    clear h1
    obtain ⟨q1, q2⟩ := poly_len hv
    obtain ⟨m, hpm⟩ : ∃ m, p.size = m + 1 := ⟨p.size - 1, by omega⟩
    have hlp : p.data.toList.length - 1 = m := by simp [hpm]
    have HN := Lib.hid (fun W => nou_any W m (by omega) (by omega))
    have hZ : (ByteArray.mk (List.replicate m (48 : UInt8)).toArray).size ≤ 8 := by rw [mk_size]; simp; omega
    have happ := app_list s (List.replicate m (48 : UInt8))
    have hST : (s ++ ByteArray.mk (List.replicate m (48 : UInt8)).toArray).size ≤ 1048600 := by rw [ByteArray.size_append]; omega
    have hRO := fun W => iRO_any p (s ++ ByteArray.mk (List.replicate m (48 : UInt8)).toArray) W hp hST
    have hdt : (s ++ ByteArray.mk (List.replicate m (48 : UInt8)).toArray).data.toList = s.data.toList ++ List.replicate m 48 := by rw [happ]
    rw [hdt] at hRO
    cases hb : bitsB 40 (s.data.toList ++ List.replicate m (48 : UInt8))
    · rw [sealR_2 (by rw [hlp]; exact hb)]
      rw [restR_2 hb] at hRO
      have HRO := Lib.hid hRO
      clear hRO hv hb hdt happ hlp hST
      go_enter Try.func16, Try.ntmps16
      go_wp2_with (first | (go_at_call 12; refine (H1.out _).mono ?_; rintro e w1 ⟨rfl, hb1⟩) | (go_at_call 32; refine (HN.out _).mono ?_; rintro e w2 ⟨rfl, ho, hb2⟩; have hbk := own_back (cap := m) (k := m) (off := 0) (OwnB.of_own (by simp) ho) (by simp); rw [List.drop_zero] at hbk; clear ho; generalize ByteArray.mk (List.replicate m (48 : UInt8)).toArray = Z at *))
      refine (HRO.out _).mono ?_
      rintro e w3 ⟨rfl, hb3⟩
      go_wp2
      go_ret
      have hb12 := hb1.trans (hb2.mono hb1.size)
      exact ⟨rfl, hb12.trans (hb3.mono hb12.size)⟩
    · have hl3 : p.data.toList.length - 1 ≤ (s.data.toList ++ List.replicate m (48 : UInt8)).length := by rw [hlp]; simp
      rw [sealR_3 hv (by rw [hlp]; exact hb), hlp]
      rw [restR_4 hv hb hl3] at hRO
      have hrl := remU_len p.data.toList (s.data.toList ++ List.replicate m (48 : UInt8)) (by omega)
      have hne : (remU p.data.toList (s.data.toList ++ List.replicate m (48 : UInt8))).length = m := by rw [hrl, hlp]; simp
      have happ2 := app_list s (remU p.data.toList (s.data.toList ++ List.replicate m (48 : UInt8)))
      rw [← happ2]
      generalize remU p.data.toList (s.data.toList ++ List.replicate m (48 : UInt8)) = R at *
      have hRs : (ByteArray.mk R.toArray).size ≤ 8 := by rw [mk_size]; omega
      have hRe : (ByteArray.mk R.toArray).toList.isEmpty = false := by
        rw [Lib.toList_data]; cases R
        · simp at hne; omega
        · rfl
      have hRe2 : ¬ (ByteArray.mk R.toArray).toList = [] := by
        intro e; rw [e] at hRe; simp at hRe
      generalize ByteArray.mk R.toArray = RB at *
      have HRO := Lib.hid hRO
      clear hRO hv hb hdt happ hlp hST hl3 hrl happ2 hne
      go_enter Try.func16, Try.ntmps16
      go_wp2_with (first | (go_at_call 12; refine (H1.out _).mono ?_; rintro e w1 ⟨rfl, hb1⟩) | (go_at_call 32; refine (HN.out _).mono ?_; rintro e w2 ⟨rfl, ho, hb2⟩; have hbk := own_back (cap := m) (k := m) (off := 0) (OwnB.of_own (by simp) ho) (by simp); rw [List.drop_zero] at hbk; clear ho; generalize ByteArray.mk (List.replicate m (48 : UInt8)).toArray = Z at *))
      refine (HRO.out _).mono ?_
      rintro e w3 ⟨rfl, hb3⟩
      go_wp2
      go_ret
      have hb12 := hb1.trans (hb2.mono hb1.size)
      exact ⟨rfl, hb12.trans (hb3.mono hb12.size)⟩

set_option maxHeartbeats 1600000 in
theorem iIS_any (p s : ByteArray) (w : World) (hp : p.size ≤ 1048576) (hs : s.size ≤ 1048600) :
    Calls Try.prog 18 #[.string p, .string s] w fun e w' => e = .returned (.bool (sealedB p.data.toList s.data.toList)) ∧ Below w.heap.size w w' := by
  have h1 := fun W => iVP_any p W (by unfold maxLen; omega)
  have h2 := fun W => iVB_any s W (by unfold maxLen; omega)
  cases hv : polyB p.data.toList
  · rw [sealedB_1 hv]
    rw [hv] at h1
    have H1 := Lib.hid h1
    clear h1 h2 hv
    go_enter Try.func18, Try.ntmps18
    go_wp2_with (go_at_call 12; refine (H1.out _).mono ?_; rintro e w1 ⟨rfl, hb1⟩)
    go_ret
    exact ⟨rfl, hb1⟩
  · rw [hv] at h1
    have H1 := Lib.hid h1
    clear h1
    cases hb : bitsB 40 s.data.toList
    · rw [sealedB_2 hb]
      rw [hb] at h2
      have H2 := Lib.hid h2
      clear h2 hv hb
      go_enter Try.func18, Try.ntmps18
      go_wp2_with (first | (go_at_call 12; refine (H1.out _).mono ?_; rintro e w1 ⟨rfl, hb1⟩) | (go_at_call 29; refine (H2.out _).mono ?_; rintro e w2 ⟨rfl, hb2⟩))
      go_ret
      exact ⟨rfl, hb1.trans (hb2.mono hb1.size)⟩
    · have hp29 := poly_len hv
      have hs40 := bits_len hb
      obtain ⟨Q, hQ, hq1, hq2, hq3⟩ := polyB_of hv
      have hpb : p.data.toList.all isBit = true := by rw [hQ]; exact txt_bits _
      have hsb : s.data.toList.all isBit = true := by
        have : s.size ≤ 40 ∧ s.data.toList.all isBit = true := by simpa [bitsB] using hb
        exact this.2
      rw [hb] at h2
      have H2 := Lib.hid h2
      clear h2 hQ hq1 hq2 hq3
      have hsl : s.data.toList.length = s.size := by simp
      by_cases hl : p.data.toList.length - 1 ≤ s.data.toList.length
      · rw [sealedB_4 hv hb hl]
        have hl' : p.size - 1 ≤ s.size := by simpa using hl
        have hD := fun W g cap hc ho => lvn_any p W g cap s.size s.data.toList hsl hp29.1 hp29.2 hpb hsb (by omega) hl' hc ho
        generalize wholeB p.data.toList s.data.toList = b at *
        have HD := Lib.hid hD
        clear hD hv hb hl hsl hpb hsb
        obtain ⟨q1, q2⟩ := hp29
        cases b
        all_goals
          go_enter Try.func18, Try.ntmps18
          go_wp2_with (first | (go_at_call 12; refine (H1.out _).mono ?_; rintro e w1 ⟨rfl, hb1⟩) | (go_at_call 29; refine (H2.out _).mono ?_; rintro e w2 ⟨rfl, hb2⟩; obtain ⟨c, w3, hcv, hc, ho, hb3, hz3⟩ := conv_any w2 s; have HO := Lib.hid ho; clear ho))
          refine (HD.out w3 w2.heap.size c hc HO.out).mono ?_
          rintro e w4 ⟨rfl, hg4⟩
          clear hcv
          go_wp2
          go_ret
          have hb12 := hb1.trans (hb2.mono hb1.size)
          have hb13 := hb12.trans (hb3.mono hb12.size)
          exact ⟨rfl, below_grow8 hb13 hg4 hb12.size hb13.size⟩
      · rw [sealedB_3 hl]
        have hl' : ¬ p.size - 1 ≤ s.size := by simpa using hl
        have HD := Lib.hid (fun W A cap => lvn_few p A s.size cap W (by omega) (by omega) (by omega))
        clear hv hb hl hl' hsl hpb hsb
        obtain ⟨q1, q2⟩ := hp29
        go_enter Try.func18, Try.ntmps18
        go_wp2_with (first | (go_at_call 12; refine (H1.out _).mono ?_; rintro e w1 ⟨rfl, hb1⟩) | (go_at_call 29; refine (H2.out _).mono ?_; rintro e w2 ⟨rfl, hb2⟩; obtain ⟨c, w3, hcv, hc, ho, hb3, hz3⟩ := conv_any w2 s; clear ho) | (go_at_call 34; refine (HD.out _ _ _).mono ?_; rintro e w' ⟨rfl, rfl⟩))
        go_ret
        exact ⟨rfl, (hb1.trans (hb2.mono hb1.size)).trans (hb3.mono (hb1.trans (hb2.mono hb1.size)).size)⟩
end Go.Proofs.Ythmhjkflgokmgaa
