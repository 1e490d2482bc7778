/-
  The walk of the law FnExactDepthFor: it returns true at every argument that can be. No condition.
-/
import Derived.Test.YteifojanklggmaaWde
namespace Go.Proofs.Yteifojanklggmaa
open Go.RowKit
set_option linter.unusedVariables false

set_option maxHeartbeats 3200000 in
theorem fnExactDepthFor_walk (r : Int) (a : Option Addr) (len cap : Nat) (zs : List Int) (w : World) (h : IsRow .i64 w a len cap zs) :
    Calls Try.prog 5 #[.int .i64 r, .slice a len cap] w fun e w' => e = .returned (.bool true) ∧ Below w.heap.size w w' := by
  by_cases hg : (1048576 : Int) < (len : Int)
  · go_enter Try.func5, Try.ntmps5
    go_wp2_with fail
    go_ret
    exact ⟨rfl, Below.refl _ _⟩
  · obtain ⟨xs, rfl, hr0, hl0⟩ := rds_of_row h
    have hn : xs.length ≤ 1048576 := by omega
    have hS := fun W v h => sDF_any r W v xs h hn
    have hI := fun W v h => iDF_any r W v xs h hn
    unfold DepPost at hS hI
    generalize depN r xs = n at hS hI
    have HL0 := Lib.hid hl0
    have HR0 := Lib.hid hr0
    clear h hg hl0 hr0
    cases hb : depB' r xs
    all_goals
      rw [hb] at hS hI
      have HS := Lib.hid hS
      have HI := Lib.hid hI
      clear hS hI hb
      go_enter Try.func5, Try.ntmps5
      go_wp2_with fail
      refine (toI_any _ _ xs HR0.out hn).mono ?_
      rintro e w1 ⟨rfl, h1, hb1⟩
      have HB1 := Lib.hid hb1
      have HR1 := Lib.hid (HR0.out.below hb1 HL0.out)
      have HT1 : Hid (Rds w1 _ xs) := Lib.hid (Rds.of_own h1)
      have z1 := hb1.size
      clear h1 hb1
      go_wp2_with fail
      refine (HS.out _ _ HT1.out).mono ?_
      rintro e w2 ⟨rfl, hb2⟩
      have HB2 := Lib.hid (HB1.out.trans (hb2.mono z1))
      have HR2 := Lib.hid (HR1.out.below hb2 (HL0.out.mono z1))
      clear hb2 HT1 HB1 HR1
      go_wp2_with fail
      refine (toI_any _ _ xs HR2.out hn).mono ?_
      rintro e w3 ⟨rfl, h3, hb3⟩
      have HB3 := Lib.hid (HB2.out.trans (hb3.mono HB2.out.size))
      have HR3 := Lib.hid (HR2.out.below hb3 (HL0.out.mono HB2.out.size))
      have HX3 : Hid (OwnL w3 w2.heap.size _ xs) := Lib.hid h3
      clear h3 hb3 HB2 HR2
      go_wp2_with fail
      refine (HI.out _ _ (OwnL.rds HX3.out)).mono ?_
      rintro e w4 ⟨rfl, hb4⟩
      have HB4 := Lib.hid (HB3.out.trans (hb4.mono HB3.out.size))
      have HR4 := Lib.hid (HR3.out.below hb4 (HL0.out.mono HB3.out.size))
      have HX4 : Hid (OwnL w4 w2.heap.size _ xs) := Lib.hid (OwnL.below HX3.out hb4 (Nat.le_refl _))
      clear hb4 HB3 HR3 HX3
      go_wp2_with fail
      refine (toI_any _ _ xs HR4.out hn).mono ?_
      rintro e w6 ⟨rfl, h6, hb6⟩
      have HB6 := Lib.hid (HB4.out.trans (hb6.mono HB4.out.size))
      have HX6 : Hid (OwnL w6 w2.heap.size _ xs) := Lib.hid (OwnL.below HX4.out hb6 (Nat.le_refl _))
      have HT6 : Hid (Rds w6 _ xs) := Lib.hid (Rds.of_own h6)
      clear h6 hb6 HB4 HR4 HX4
      go_wp2_with fail
      refine (eqI_same _ _ _ xs (OwnL.rds HX6.out) HT6.out hn).mono ?_
      rintro e w7 ⟨rfl, m7, rfl⟩
      go_wp2
      go_ret
      exact ⟨rfl, below_drewN HB6.out m7⟩
end Go.Proofs.Yteifojanklggmaa
