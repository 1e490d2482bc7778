/-
  The walks of the program's RestOf, SealBits and IsSealed. Conditions: the lengths that are typed.
-/
import Derived.Test.YthmhjkflgokmgaaWlv
import Derived.Test.YthmhjkflgokmgaaWsp
namespace Go.Proofs.Ythmhjkflgokmgaa
open Go.RowKit
set_option linter.unusedVariables false

/-- Below B nothing has turned, where what has is a row from B on and new blocks. -/
theorem below_grow8 {B g : Nat} {w w1 w2 : World} (h : Below B w w1) (hg : w1.grownBy w2 (some g)) (hB : B ≤ g) (hB2 : B ≤ w1.heap.size) : Below B w w2 :=
  h.grown hg hB2 (fun k hk => by cases hk; exact hB)

set_option maxHeartbeats 1600000 in
theorem iRO_any (p s : ByteArray) (w : World) (hp : p.size ≤ 1048576) (hs : s.size ≤ 1048600) :
    Calls Try.prog 14 #[.string p, .string s] w fun e w' => e = .returned (.string ⟨(restR p.data.toList s.data.toList).toArray⟩) ∧ Below w.heap.size w w' := by
  have h1 := fun W => iVP_any p W (by unfold maxLen; omega)
  have h2 := fun W => iVB_any s W (by unfold maxLen; omega)
  cases hv : polyB p.data.toList
  · rw [restR_1 hv]
    rw [hv] at h1
    have H1 := Lib.hid h1
    clear h1 h2 hv
    go_enter Try.func14, Try.ntmps14
    go_wp2_with (go_at_call 12; refine (H1.out _).mono ?_; rintro e w1 ⟨rfl, hb1⟩)
    go_ret
    exact ⟨rfl, hb1⟩
  · rw [hv] at h1
    have H1 := Lib.hid h1
    clear h1
    cases hb : bitsB 40 s.data.toList
    · rw [restR_2 hb]
      rw [hb] at h2
      have H2 := Lib.hid h2
      clear h2 hv hb
      go_enter Try.func14, Try.ntmps14
      go_wp2_with (first | (go_at_call 12; refine (H1.out _).mono ?_; rintro e w1 ⟨rfl, hb1⟩) | (go_at_call 29; refine (H2.out _).mono ?_; rintro e w2 ⟨rfl, hb2⟩))
      go_ret
      exact ⟨rfl, hb1.trans (hb2.mono hb1.size)⟩
    · have hp29 := poly_len hv
      have hs40 := bits_len hb
      obtain ⟨Q, hQ, hq1, hq2, hq3⟩ := polyB_of hv
      have hpb : p.data.toList.all isBit = true := by rw [hQ]; exact txt_bits _
      have hsb : s.data.toList.all isBit = true := by
        have : s.size ≤ 40 ∧ s.data.toList.all isBit = true := by simpa [bitsB] using hb
        exact this.2
      rw [hb] at h2
      have H2 := Lib.hid h2
      clear h2 hQ hq1 hq2 hq3
      have hsl : s.data.toList.length = s.size := by simp
      by_cases hl : p.data.toList.length - 1 ≤ s.data.toList.length
      · rw [restR_4 hv hb hl]
        have hl' : p.size - 1 ≤ s.size := by simpa using hl
        have hD := fun W cap hc ho => div_any p W (W.heap.size) cap s.size s.data.toList hsl hp29.1 hp29.2 hpb hsb (by omega) hl' hc ho
        have hD2 := fun W g cap hc ho => div_any p W g cap s.size s.data.toList hsl hp29.1 hp29.2 hpb hsb (by omega) hl' hc ho
        have hlen : (redU p.data.toList s.data.toList (s.size - (p.size - 1))).length = s.size := by
          have hpl : p.data.toList.length = p.size := by simp
          rw [redU_len p.data.toList s.data.toList (by omega) _ (by rw [hpl, hsl]; omega), hsl]
        have hrem : remU p.data.toList s.data.toList = (redU p.data.toList s.data.toList (s.size - (p.size - 1))).drop (s.size - (p.size - 1)) := by
          unfold remU
          rw [show p.data.toList.length = p.size from by simp, hsl]
        rw [hrem]
        have HD := Lib.hid hD2
        have HLEN := Lib.hid hlen
        clear hD hD2 hv hb hl hlen hrem hsl hpb hsb
        obtain ⟨q1, q2⟩ := hp29
        go_enter Try.func14, Try.ntmps14
        go_wp2_with (first | (go_at_call 12; refine (H1.out _).mono ?_; rintro e w1 ⟨rfl, hb1⟩) | (go_at_call 29; refine (H2.out _).mono ?_; rintro e w2 ⟨rfl, hb2⟩; obtain ⟨c, w3, hcv, hc, ho, hb3, hz3⟩ := conv_any w2 s; have HO := Lib.hid ho; clear ho))
        refine (HD.out w3 w2.heap.size c hc HO.out).mono ?_
        rintro e w4 ⟨rfl, ho4, hg4⟩
        have hbk := own_back (cap := c - (s.size - (p.size - 1))) (k := p.size - 1) (off := s.size - (p.size - 1)) ho4 (by rw [HLEN.out]; omega)
        clear hcv
        go_wp2
        go_ret
        have hb12 := hb1.trans (hb2.mono hb1.size)
        have hb13 := hb12.trans (hb3.mono hb12.size)
        exact ⟨rfl, below_grow8 hb13 hg4 hb12.size hb13.size⟩
      · rw [restR_3 hl]
        have hl' : ¬ p.size - 1 ≤ s.size := by simpa using hl
        have HD := Lib.hid (fun W A cap => div_few p A s.size cap W (by omega) (by omega) (by omega))
        have hnil := fun W => run_convert_bytes_nil (P := Try.prog) W 25 5 Try.underlying25 Try.underlying5 0 0 9 Try.underlying9
        clear hv hb hl hl' hsl hpb hsb
        obtain ⟨q1, q2⟩ := hp29
        go_enter Try.func14, Try.ntmps14
        go_wp2_with (first | (go_at_call 12; refine (H1.out _).mono ?_; rintro e w1 ⟨rfl, hb1⟩) | (go_at_call 29; refine (H2.out _).mono ?_; rintro e w2 ⟨rfl, hb2⟩; obtain ⟨c, w3, hcv, hc, ho, hb3, hz3⟩ := conv_any w2 s; clear ho) | (go_at_call 30; refine (HD.out _ _ _).mono ?_; rintro e w' ⟨rfl, rfl⟩))
        go_ret
        exact ⟨rfl, (hb1.trans (hb2.mono hb1.size)).trans (hb3.mono (hb1.trans (hb2.mono hb1.size)).size)⟩
end Go.Proofs.Ythmhjkflgokmgaa
