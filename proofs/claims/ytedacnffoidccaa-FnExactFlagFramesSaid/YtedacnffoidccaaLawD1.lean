/-
  The walk of the law FnExactFlagFrames: it returns true at every list of texts. No condition but that the list is one that can be.
-/
import Derived.Test.YtedacnffoidccaaWflag
namespace Go.Proofs.Ytedacnffoidccaa
open Go.RowKit
set_option linter.unusedVariables false

set_option maxHeartbeats 1600000 in
theorem fnExactFlagFrames_walk (v : Value) (xs : List ByteArray) (w : World) (h : Rss w v xs) (hl : LiesS w.heap.size v xs) (hn : xs.length ≤ maxLen) (hxs : ∀ j, j < xs.length → (xs.getD j ByteArray.empty).size ≤ maxLen) :
    Calls Try.prog 3 #[v] w fun e w' => e = .returned (.bool true) ∧ Below w.heap.size w w' := by
  have hz := szS_any w v xs h hn hxs
  have HR0 := Lib.hid h
  have HL0 := Lib.hid hl
  have HZ := Lib.hid hz
  obtain ⟨A, c, rfl, _⟩ := h
  clear hz hl hn hxs
  go_enter Try.func3, Try.ntmps3
  go_wp2_with fail
  refine HZ.out.mono ?_
  rintro e w0 ⟨x, rfl, hx, rfl⟩
  by_cases hx0 : x < 0
  · go_wp2
    go_ret
    exact ⟨rfl, Below.refl _ _⟩
  · obtain ⟨hn, hs⟩ := hx (by omega)
    have hS := fun W v h => sFF_any W v xs h hn hs
    have hI := fun W v h => iFF_any W v xs h hn hs
    generalize flagR xs = r at *
    have HS := Lib.hid hS
    have HI := Lib.hid hI
    clear hS hI hs hx HZ
    have hxd : decide (x < 0) = false := by simpa using hx0
    go_wp2_with fail
    refine (toS_any _ _ xs HR0.out hn).mono ?_
    rintro e w1 ⟨rfl, h1, hb1⟩
    have hr1 := Rss.of_at (c := xs.length) h1.at_
    have HR1 := Lib.hid (HR0.out.below hb1 HL0.out)
    clear h1 HR0
    go_wp2_with fail
    refine (HS.out _ _ hr1).mono ?_
    rintro e w2 ⟨rfl, rfl⟩
    go_wp2_with fail
    refine (toS_any _ _ xs HR1.out hn).mono ?_
    rintro e w3 ⟨rfl, h3, hb3⟩
    have HR3 := Lib.hid (HR1.out.below hb3 (HL0.out.mono hb1.size))
    have HB3 := Lib.hid (hb1.trans (hb3.mono hb1.size))
    have H3 := Lib.hid h3
    clear h3 HR1 hb1 hb3 hr1
    go_wp2_with fail
    refine (HI.out _ _ (Rss.of_at (c := xs.length) H3.out.at_)).mono ?_
    rintro e w4 ⟨rfl, hb4⟩
    have HR4 := Lib.hid (HR3.out.below hb4 (HL0.out.mono HB3.out.size))
    have HB4 := Lib.hid (HB3.out.trans (hb4.mono HB3.out.size))
    have H4 := Lib.hid (OwnS.below H3.out hb4 (H3.out.lt _ rfl).2)
    clear HR3 HB3 H3 hb4
    go_wp2_with fail
    refine (toS_any _ _ xs HR4.out hn).mono ?_
    rintro e w6 ⟨rfl, h6, hb6⟩
    have H6 := Lib.hid (OwnS.below H4.out hb6 (H4.out.lt _ rfl).2)
    have HB6 := Lib.hid (HB4.out.trans (hb6.mono HB4.out.size))
    have HT6 := Lib.hid (Rss.of_at (c := xs.length) h6.at_)
    clear h6 hb6
    go_wp2_with fail
    refine (eqS_same _ _ _ xs (Rss.of_at (c := xs.length) H6.out.at_) HT6.out hn).mono ?_
    rintro e w7 ⟨rfl, m7, rfl⟩
    go_wp2
    go_ret
    exact ⟨rfl, below_drewN HB6.out m7⟩
end Go.Proofs.Ytedacnffoidccaa
