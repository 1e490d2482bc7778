/-
  The walk of the law FnMendBits: it returns true at every code. Condition: what the two tables hold.
-/
import Derived.Test.YtglabaajdabooaaDoorWgm
namespace Go.Proofs.YtglabaajdabooaaDoor
open Go.RowKit
set_option linter.unusedVariables false

set_option maxHeartbeats 3200000 in
theorem fnMendBits_walk (a : Option Addr) (len cap : Nat) (zs : List Int) (w : World) (h : IsRow .u8 w a len cap zs) (ht : Tabs w) :
    Calls Tryd.prog 6 #[.slice a len cap] w fun e w' => e = .returned (.bool true) ∧ Below w.heap.size w w' := by
  by_cases hg : (1048576 : Int) < (len : Int)
  · go_enter Tryd.func6, Tryd.ntmps6
    go_wp2_with fail
    go_ret
    exact ⟨rfl, Below.refl _ _⟩
  · have H := Lib.hid (dmb_any w a len cap zs h)
    have HT := Lib.hid ht
    clear h ht
    go_enter Tryd.func6, Tryd.ntmps6
    go_wp2_with fail
    refine H.out.mono ?_
    rintro e w1 ⟨s, rfl, hs, hb1⟩
    clear H
    have HT1 := Lib.hid (HT.out.below hb1 HT.out.sz)
    have hsm : s.size ≤ maxLen := by unfold maxLen; omega
    have h1 := fun W hT => iMB_any s W hsm hT
    have h2 := fun W => sMB_any s W hsm
    have hpl : s.data.toList.length = s.size := by simp
    by_cases hv : bitsB 40 s.data.toList = true ∧ s.data.toList.length = 7
    · obtain ⟨g, p, he, hgl, hp7, hgd⟩ := mend_guard hv.1 hv.2
      have h7 : s.size = 7 := hpl.symm.trans hv.2
      rw [he] at h1 h2
      have h3 := fun W hT => iGB_any ⟨g.toArray⟩ W (by rw [mk_size, hgl]; unfold maxLen; omega) hT
      rw [hgd] at h3
      have HI := Lib.hid h1
      have HS := Lib.hid h2
      have HG := Lib.hid h3
      clear h1 h2 h3 he hgd hgl hv hsm
      rcases p with _ | q
      · go_wp2_with (first | (go_at_call 10; refine (HI.out _ HT1.out).mono ?_; rintro e w2 ⟨rfl, hb2⟩; have HT2 := Lib.hid (HT1.out.below hb2 HT1.out.sz)) | (go_at_call 9; refine (HS.out _).mono ?_; rintro e w3 ⟨rfl, hb3⟩; have HT3 := Lib.hid (HT2.out.below hb3 HT2.out.sz)) | (go_at_call 8; refine (HG.out _ HT3.out).mono ?_; rintro e w4 ⟨rfl, hb4⟩))
        go_ret
        exact ⟨rfl, ((hb1.trans (hb2.mono hb1.size)).trans (hb3.mono (by have := hb1.size; have := hb2.size; omega))).trans (hb4.mono (by have := hb1.size; have := hb2.size; have := hb3.size; omega))⟩
      · go_wp2_with (first | (go_at_call 10; refine (HI.out _ HT1.out).mono ?_; rintro e w2 ⟨rfl, hb2⟩; have HT2 := Lib.hid (HT1.out.below hb2 HT1.out.sz)) | (go_at_call 9; refine (HS.out _).mono ?_; rintro e w3 ⟨rfl, hb3⟩; have HT3 := Lib.hid (HT2.out.below hb3 HT2.out.sz)) | (go_at_call 8; refine (HG.out _ HT3.out).mono ?_; rintro e w4 ⟨rfl, hb4⟩) | (go_at_call 12; refine (tb_any s q _ (by omega) (by omega)).mono ?_; rintro e w5 ⟨rfl, m5, rfl⟩))
        go_ret
        exact ⟨rfl, belowD ((hb1.trans (hb2.mono hb1.size)).trans (hb3.mono (by have := hb1.size; have := hb2.size; omega)) |>.trans (hb4.mono (by have := hb1.size; have := hb2.size; have := hb3.size; omega))) m5⟩
    · rw [mend_none hv] at h1 h2
      have HI := Lib.hid h1
      have HS := Lib.hid h2
      clear h1 h2 hv hsm
      go_wp2_with (first | (go_at_call 10; refine (HI.out _ HT1.out).mono ?_; rintro e w2 ⟨rfl, hb2⟩; have HT2 := Lib.hid (HT1.out.below hb2 HT1.out.sz)) | (go_at_call 9; refine (HS.out _).mono ?_; rintro e w3 ⟨rfl, hb3⟩))
      go_ret
      exact ⟨rfl, (hb1.trans (hb2.mono hb1.size)).trans (hb3.mono (by have := hb1.size; have := hb2.size; omega))⟩
end Go.Proofs.YtglabaajdabooaaDoor
