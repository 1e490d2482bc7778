/-
  The walk of the law FnExactEndOf: it returns true at every list of pieces. No condition but that the list is one that can be.
-/
import Derived.Test.YtcebbnmpjlilbaaWeq
namespace Go.Proofs.Ytcebbnmpjlilbaa
open Go.RowKit
set_option linter.unusedVariables false

set_option maxHeartbeats 1600000 in
theorem fnExactEndOf_walk (a : Option Addr) (len cap : Nat) (ps : List Pc) (w : World) (hl : ps.length = len) (hm : len ≤ maxLen) (h : PRds w (.slice a len cap) ps) :
    Calls Try.prog 5 #[.slice a len cap] w fun e w' => e = .returned (.bool true) ∧ Below w.heap.size w w' := by
  by_cases hg : 1048576 < len
  · have H := Lib.hid (szP_far w a len cap hg hm)
    clear h hl hm
    go_enter Try.func5, Try.ntmps5
    go_wp2_with (go_at_call 10; refine H.out.mono ?_; rintro e w' ⟨rfl, rfl⟩)
    go_ret
    exact ⟨rfl, Below.refl _ _⟩
  · subst hl
    have hn : ps.length ≤ 1048576 := by omega
    have H := Lib.hid (szP_any w a ps.length cap hn)
    have hd : decide ((1048576 : Int) - (ps.length : Int) < 0) = false := by simp; omega
    have HR0 := Lib.hid h
    have hS := fun W v h => sEO_any W v ps h hn
    have hI := fun W v h => iEO_any W v ps h hn
    generalize endR ps = q at hS hI
    generalize okE ps = qb at hS hI
    have hqq : (q != q) = false := by simp
    have hbb : (qb != qb) = false := by simp
    have HS := Lib.hid hS
    have HI := Lib.hid hI
    clear h hg hm hS hI
    go_enter Try.func5, Try.ntmps5
    go_wp2_with fail
    refine H.out.mono ?_
    rintro e w0 ⟨rfl, rfl⟩
    go_wp2_with fail
    refine (toP_any _ _ ps HR0.out hn).mono ?_
    rintro e w1 ⟨rfl, h1, hb1⟩
    have HR1 := Lib.hid (HR0.out.more hb1)
    have HB1 := Lib.hid hb1
    have H1 := Lib.hid (PRds.of_own h1)
    clear h1 hb1
    go_wp2_with fail
    refine (HS.out _ _ H1.out).mono ?_
    rintro e w2 ⟨rfl, m, rfl⟩
    go_wp2_with fail
    refine (toP_any _ _ ps (HR1.out.drewN m) hn).mono ?_
    rintro e w3 ⟨rfl, h3, hb3⟩
    have HR3 := Lib.hid ((HR1.out.drewN m).more hb3)
    have HB3 := Lib.hid ((below_drewN HB1.out m).trans (hb3.mono HB1.out.size))
    have H3 := Lib.hid (PRds.of_own h3)
    clear h3 hb3
    go_wp2_with fail
    refine (HI.out _ _ H3.out).mono ?_
    rintro e w4 ⟨rfl, hb4⟩
    have HR4 := Lib.hid (HR3.out.more hb4)
    have HB4 := Lib.hid (HB3.out.trans (hb4.mono HB3.out.size))
    have H4 := Lib.hid (H3.out.more hb4)
    clear hb4
    go_wp2_with fail
    refine (toP_any _ _ ps HR4.out hn).mono ?_
    rintro e w6 ⟨rfl, h6, hb6⟩
    have H6 := Lib.hid (H4.out.more hb6)
    have HB6 := Lib.hid (HB4.out.trans (hb6.mono HB4.out.size))
    have HT6 := Lib.hid (PRds.of_own h6)
    clear h6 hb6
    go_wp2_with fail
    refine (eqP_same _ _ _ ps H6.out HT6.out hn).mono ?_
    rintro e w7 ⟨rfl, hb7⟩
    go_wp2
    go_ret
    exact ⟨rfl, HB6.out.trans (hb7.mono HB6.out.size)⟩
end Go.Proofs.Ytcebbnmpjlilbaa
