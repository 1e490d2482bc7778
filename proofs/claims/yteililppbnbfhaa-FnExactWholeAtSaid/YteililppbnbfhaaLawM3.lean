/-
  The walk of the law FnExactWholeAt: it returns true at every list of pieces. No condition but that the list is one that can be.
-/
import Derived.Test.YteililppbnbfhaaWwh
namespace Go.Proofs.Yteililppbnbfhaa
open Go.RowKit
set_option linter.unusedVariables false

set_option maxHeartbeats 1600000 in
theorem fnExactWholeAt_walk (a : Option Addr) (len cap : Nat) (ps : List Pc) (w : World) (hl : ps.length = len) (hm : len ≤ maxLen) (h : PRds w (.slice a len cap) ps) :
    Calls Try.prog 5 #[.slice a len cap] w fun e w' => e = .returned (.bool true) ∧ Below w.heap.size w w' := by
  by_cases hg : 1048576 < len
  · have H := Lib.hid (szP_far w a len cap hg hm)
    clear h hl hm
    go_enter Try.func5, Try.ntmps5
    go_wp2_with (go_at_call 9; refine H.out.mono ?_; rintro e w' ⟨rfl, rfl⟩)
    go_ret
    exact ⟨rfl, Below.refl _ _⟩
  · subst hl
    have hn : ps.length ≤ 1048576 := by omega
    have H := Lib.hid (szP_any w a ps.length cap hn)
    have hd : decide ((1048576 : Int) - (ps.length : Int) < 0) = false := by simp; omega
    have HR0 := Lib.hid h
    have HS := fun W v h => sWA_any W (some ⟨v, 0, none⟩) ps.length ps.length ps rfl (Nat.le_refl _) h hn
    have HI := fun W v h => iWA_any W (some ⟨v, 0, none⟩) ps.length ps.length ps rfl (Nat.le_refl _) h hn
    replace HS := Lib.hid HS
    replace HI := Lib.hid HI
    clear h hg hm
    go_enter Try.func5, Try.ntmps5
    go_wp2_with fail
    refine H.out.mono ?_
    rintro e w0 ⟨rfl, rfl⟩
    go_wp2_with fail
    refine (toP_any _ _ ps HR0.out hn).mono ?_
    rintro e w1 ⟨rfl, h1, hb1⟩
    have HB1 := Lib.hid hb1
    have H1 := Lib.hid (PRds.of_own h1)
    clear h1 hb1
    go_wp2_with fail
    refine (HS.out _ _ H1.out).mono ?_
    rintro e w2 ⟨r, b, rfl, hwa, hb2⟩
    have HWA := Lib.hid hwa
    clear hwa
    have HB2 := Lib.hid (HB1.out.trans (hb2.mono HB1.out.size))
    clear hb2
    go_wp2_with fail
    refine (toP_any _ _ ps (HR0.out.more HB2.out) hn).mono ?_
    rintro e w3 ⟨rfl, h3, hb3⟩
    have HB3 := Lib.hid (HB2.out.trans (hb3.mono HB2.out.size))
    have H3 := Lib.hid (PRds.of_own h3)
    clear h3 hb3
    go_wp2_with fail
    refine (HI.out _ _ H3.out).mono ?_
    rintro e w4 ⟨r', b', rfl, hwa', hb4⟩
    obtain ⟨rfl, rfl⟩ := HWA.out.uniq hwa'
    have hqq : (r != r) = false := by simp
    have hbb : (b != b) = false := by simp
    clear hwa'
    have HB4 := Lib.hid (HB3.out.trans (hb4.mono HB3.out.size))
    have H4 := Lib.hid (H3.out.more hb4)
    clear hb4
    go_wp2_with fail
    refine (toP_any _ _ ps (HR0.out.more HB4.out) hn).mono ?_
    rintro e w6 ⟨rfl, h6, hb6⟩
    have H6 := Lib.hid (H4.out.more hb6)
    have HB6 := Lib.hid (HB4.out.trans (hb6.mono HB4.out.size))
    have HT6 := Lib.hid (PRds.of_own h6)
    clear h6 hb6
    go_wp2_with fail
    refine (eqP_same _ _ _ ps H6.out HT6.out hn).mono ?_
    rintro e w7 ⟨rfl, hb7⟩
    go_wp2
    go_ret
    exact ⟨rfl, HB6.out.trans (hb7.mono HB6.out.size)⟩
end Go.Proofs.Yteililppbnbfhaa
