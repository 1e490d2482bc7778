/-
  The walk of the law FnExactNumberAt: it returns true at every list of numbers. Conditions: the list is one that can be, and what the error variable holds.
-/
import Derived.Test.YtkmnijpiaofdmaaDoorWna
namespace Go.Proofs.YtkmnijpiaofdmaaDoor
open Go.RowKit
set_option linter.unusedVariables false

set_option maxHeartbeats 1600000 in
theorem fnExactNumberAt_walk (a : Option Addr) (len cap : Nat) (zs : List Int) (w : World) (h : IsRow .i64 w a len cap zs) (he : ErrV w) :
    Calls Tryd.prog 4 #[.slice a len cap] w fun e w' => e = .returned (.bool true) ∧ Below w.heap.size w w' := by
  by_cases hg : (1048576 : Int) < (len : Int)
  · go_enter Tryd.func4, Tryd.ntmps4
    go_wp2_with fail
    go_ret
    exact ⟨rfl, Below.refl _ _⟩
  · obtain ⟨xs, rfl, hr0, hl0⟩ := rds_of_row h
    obtain ⟨ea, he1, he2⟩ := he
    have HE0 : Hid (ErrA w ea) := Lib.hid ⟨he1, he2⟩
    have hn : xs.length ≤ 1048576 := by omega
    have HL0 := Lib.hid hl0
    have HR0 := Lib.hid hr0
    have hS := fun W v h => sNA_any W v xs h hn
    have hI := fun W v h he => iNA_any ea W v xs h hn he
    generalize naA xs = q at hS hI
    generalize naN xs = r at hS hI
    have HS := Lib.hid hS
    have HI := Lib.hid hI
    clear h hg hl0 hr0 hS hI he1 he2
    go_enter Tryd.func4, Tryd.ntmps4
    go_wp2_with fail
    refine (toI_any _ _ xs HR0.out hn).mono ?_
    rintro e w1 ⟨rfl, h1, hb1⟩
    have hr1 := Rds.of_at (c := xs.length) h1.at_
    have HR1 := Lib.hid (HR0.out.below hb1 HL0.out)
    have HE1 := Lib.hid (HE0.out.below hb1)
    clear h1 HR0 HE0
    go_wp2_with fail
    refine (HS.out _ _ hr1).mono ?_
    rintro e w2 ⟨rfl, rfl⟩
    go_wp2_with fail
    refine (toI_any _ _ xs HR1.out hn).mono ?_
    rintro e w3 ⟨rfl, h3, hb3⟩
    have HR3 := Lib.hid (HR1.out.below hb3 (HL0.out.mono hb1.size))
    have HB3 := Lib.hid (hb1.trans (hb3.mono hb1.size))
    have HE3 := Lib.hid (HE1.out.below hb3)
    have H3 := Lib.hid h3
    clear h3 HR1 hb1 hb3 hr1 HE1
    go_wp2_with fail
    refine (HI.out _ _ (Rdc.of_own H3.out) HE3.out).mono ?_
    rintro e w4 ⟨rfl, hb4⟩
    have HB4 := Lib.hid (HB3.out.trans (hb4.mono HB3.out.size))
    have HR4 := Lib.hid (HR3.out.below hb4 (HL0.out.mono HB3.out.size))
    have H4 := Lib.hid (OwnI.below H3.out hb4 (H3.out.lt _ rfl).2)
    clear hb4 HB3 HR3 H3 HE3
    go_wp2_with fail
    refine (toI_any _ _ xs HR4.out hn).mono ?_
    rintro e w6 ⟨rfl, h6, hb6⟩
    have H6 := Lib.hid (OwnI.below H4.out hb6 (H4.out.lt _ rfl).2)
    have HB6 := Lib.hid (HB4.out.trans (hb6.mono HB4.out.size))
    have HT6 := Lib.hid (Rds.of_at (c := xs.length) h6.at_)
    clear h6 hb6
    go_wp2_with fail
    refine (eqI_same _ _ _ xs (Rds.of_at (c := xs.length) H6.out.at_) HT6.out hn).mono ?_
    rintro e w7 ⟨rfl, m7, rfl⟩
    go_wp2
    go_ret
    exact ⟨rfl, below_drewN HB6.out m7⟩
end Go.Proofs.YtkmnijpiaofdmaaDoor
