/-
  The walks of the program's SealBits and IsSealed. Conditions: the lengths that are typed.
-/
import Derived.Test.YtpneopldbeefhaaWim
namespace Go.Proofs.Ytpneopldbeefhaa
open Go.RowKit
set_option linter.unusedVariables false

set_option maxHeartbeats 1600000 in
theorem iIS_any (p s : ByteArray) (w : World) (hp : p.size ≤ 1048576) (hs : s.size ≤ 1048600) :
    Calls Try.prog 19 #[.string p, .string s] w fun e w' => e = .returned (.bool (sealedB p.data.toList s.data.toList)) ∧ Below w.heap.size w w' := by
  have h1 := fun W => iVP_any p W (by unfold maxLen; omega)
  have h2 := fun W => iVB_any s W (by unfold maxLen; omega)
  cases hv : polyB p.data.toList
  · rw [sealedB_1 hv]
    rw [hv] at h1
    have H1 := Lib.hid h1
    clear h1 h2 hv
    go_enter Try.func19, Try.ntmps19
    go_wp2_with (go_at_call 16; refine (H1.out _).mono ?_; rintro e w1 ⟨rfl, hb1⟩)
    go_ret
    exact ⟨rfl, hb1⟩
  · rw [hv] at h1
    have H1 := Lib.hid h1
    clear h1
    cases hb : bitsB 40 s.data.toList
    · rw [sealedB_2 hb]
      rw [hb] at h2
      have H2 := Lib.hid h2
      clear h2 hv hb
      go_enter Try.func19, Try.ntmps19
      go_wp2_with (first | (go_at_call 16; refine (H1.out _).mono ?_; rintro e w1 ⟨rfl, hb1⟩) | (go_at_call 35; refine (H2.out _).mono ?_; rintro e w2 ⟨rfl, hb2⟩))
      go_ret
      exact ⟨rfl, hb1.trans (hb2.mono hb1.size)⟩
    · have hp29 := poly_len hv
      have hs40 := bits_len hb
      obtain ⟨Q, hQ, hq1, hq2, hq3⟩ := polyB_of hv
      have hpb : p.data.toList.all isBit = true := by rw [hQ]; exact txt_bits _
      have hsb : s.data.toList.all isBit = true := by
        have : s.size ≤ 40 ∧ s.data.toList.all isBit = true := by simpa [bitsB] using hb
        exact this.2
      rw [hb] at h2
      have H2 := Lib.hid h2
      clear h2 hQ hq1 hq2 hq3
      have hsl : s.data.toList.length = s.size := by simp
      by_cases hl : p.data.toList.length - 1 ≤ s.data.toList.length
      · rw [sealedB_4 hv hb hl]
        have hl' : p.size - 1 ≤ s.size := by simpa using hl
        have hD := fun W g cap hc ho => lvn_any p W g cap s.size s.data.toList hsl hp29.1 hp29.2 hpb hsb (by omega) hl' hc ho
        generalize wholeB p.data.toList s.data.toList = b at *
        have HD := Lib.hid hD
        clear hD hv hb hl hsl hpb hsb
        obtain ⟨q1, q2⟩ := hp29
        cases b
        all_goals
          go_enter Try.func19, Try.ntmps19
          go_wp2_with (first | (go_at_call 16; refine (H1.out _).mono ?_; rintro e w1 ⟨rfl, hb1⟩) | (go_at_call 35; refine (H2.out _).mono ?_; rintro e w2 ⟨rfl, hb2⟩; obtain ⟨c, w3, hcv, hc, ho, hb3, hz3⟩ := conv_any w2 s; have HO := Lib.hid ho; clear ho))
          refine (HD.out w3 w2.heap.size c hc HO.out).mono ?_
          rintro e w4 ⟨rfl, hg4⟩
          clear hcv
          go_wp2
          go_ret
          have hb12 := hb1.trans (hb2.mono hb1.size)
          have hb13 := hb12.trans (hb3.mono hb12.size)
          exact ⟨rfl, below_grow8 hb13 hg4 hb12.size hb13.size⟩
      · rw [sealedB_3 hl]
        have hl' : ¬ p.size - 1 ≤ s.size := by simpa using hl
        have HD := Lib.hid (fun W A cap => lvn_few p A s.size cap W (by omega) (by omega) (by omega))
        clear hv hb hl hl' hsl hpb hsb
        obtain ⟨q1, q2⟩ := hp29
        go_enter Try.func19, Try.ntmps19
        go_wp2_with (first | (go_at_call 16; refine (H1.out _).mono ?_; rintro e w1 ⟨rfl, hb1⟩) | (go_at_call 35; refine (H2.out _).mono ?_; rintro e w2 ⟨rfl, hb2⟩; obtain ⟨c, w3, hcv, hc, ho, hb3, hz3⟩ := conv_any w2 s; clear ho) | (go_at_call 24; refine (HD.out _ _ _).mono ?_; rintro e w' ⟨rfl, rfl⟩))
        go_ret
        exact ⟨rfl, (hb1.trans (hb2.mono hb1.size)).trans (hb3.mono (hb1.trans (hb2.mono hb1.size)).size)⟩
end Go.Proofs.Ytpneopldbeefhaa
