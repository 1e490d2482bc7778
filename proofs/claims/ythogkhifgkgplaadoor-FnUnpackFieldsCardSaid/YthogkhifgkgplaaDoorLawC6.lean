/-
  The walk of the law FnUnpackFields: it returns true at every list of bytes. Conditions: the list is one that can be, and what the two variables of errors hold.
-/
import Derived.Test.YthogkhifgkgplaaDoorLawC4
import Derived.Test.YthogkhifgkgplaaDoorWqf
import Derived.Test.YthogkhifgkgplaaDoorWduf
set_option linter.unusedSimpArgs false
namespace Go.Proofs.YthogkhifgkgplaaDoor
open Go.RowKit
set_option linter.unusedVariables false

theorem pkR_unR {xs : List Int} {L : List Fd} (h : unR xs = some L) : pkR L = xs := by
  obtain ⟨h1, h2, h3⟩ := unR_some h
  unfold pkR
  rw [if_pos (by simp only [vfsB, Bool.and_eq_true, decide_eq_true_eq]; exact ⟨h1, h2⟩)]
  exact h3

set_option maxRecDepth 50000 in
set_option maxHeartbeats 6400000 in
theorem fnUnpackFields_walk (a : Option Addr) (len cap : Nat) (zs : List Int) (w : World) (h : IsRow .u8 w a len cap zs) (he : ErrV w) (ht : ErrT w) :
    Calls Tryd.prog 5 #[.slice a len cap] w fun e w' => e = .returned (.bool true) ∧ Below w.heap.size w w' := by
  by_cases hg : (1048576 : Int) < (len : Int)
  · go_enter Tryd.func5, Tryd.ntmps5
    go_wp2_with fail
    go_ret
    exact ⟨rfl, Below.refl _ _⟩
  · have H := Lib.hid (duf_any w a len cap zs h)
    obtain ⟨ea, he1, he2⟩ := he
    have HEB := Lib.hid (fun W (hb : Below w.heap.size w W) => (show ErrA w ea from ⟨he1, he2⟩).below hb)
    have HTB := Lib.hid (fun W (hb : Below w.heap.size w W) => ht.below hb)
    clear h he1 he2 ht
    go_enter Tryd.func5, Tryd.ntmps5
    go_wp2_with fail
    refine H.out.mono ?_
    rintro e w1 ⟨A, n, c, xs, rfl, hv, hx, hb1⟩
    have hn : n = xs.length := by
      obtain ⟨A', c', e1, _⟩ := hv
      injection e1
    subst hn
    have HB1 := Lib.hid hb1
    have HXB := Lib.hid (fun W (hb : Below w1.heap.size w1 W) => hv.below hb hv.lies)
    obtain ⟨hL5, hLb, hLa⟩ := unR_facts xs
    have hI := fun W h he ht => iUF_any ea W (.slice A xs.length c) xs h (by omega) he ht
    have hS := fun W h => sUF_any W (.slice A xs.length c) xs h (by omega)
    have HPK : Hid ((unR xs).isSome = true → pkR ((unR xs).getD []) = xs) := Lib.hid (fun h => by
      cases hu : unR xs with
      | none => rw [hu] at h; cases h
      | some L => exact pkR_unR hu)
    unfold IufPost at hI
    unfold UfPost at hS
    generalize (unR xs).getD [] = L at *
    generalize (unR xs).isSome = bb at *
    have HNB : Hid (∀ k, (L.getD k f0).b.length ≤ 1048576) := Lib.hid (fun k => by have := hLb k; omega)
    have hK := fun W v h => iPK_any W v L h (by omega) HNB.out
    have HI := Lib.hid hI
    have HS := Lib.hid hS
    have hbb : (bb != bb) = false := by simp
    have hb2 : (bb == bb) = true := by simp
    clear hb1 hv hI hS hLb hLa H
    go_wp2_with fail
    refine (HI.out _ (HXB.out _ (Below.refl _ _)) (HEB.out _ HB1.out) (HTB.out _ HB1.out)).mono ?_
    rintro e w2 ⟨u, Q, rfl, huo, _, hQ, hb2'⟩
    have HB2 := Lib.hid (HB1.out.trans (hb2'.mono HB1.out.size))
    have HX2 := Lib.hid hb2'
    have hur : FRds w2 u L := by have := huo.rds; rw [hQ] at this; exact this
    have HUB := Lib.hid (fun W (hb : Below w2.heap.size w2 W) => hur.more hb)
    obtain ⟨Au, cu, huf⟩ := hur.form
    subst huf
    clear huo hQ hb2' hur HB1 HI
    go_wp2_with fail
    refine (HS.out _ (HXB.out _ HX2.out)).mono ?_
    rintro e w3 ⟨s, Q2, rfl, hso, hQ2, hb3⟩
    have HB3 := Lib.hid (HB2.out.trans (hb3.mono HB2.out.size))
    have HX3 := Lib.hid (HX2.out.trans (hb3.mono HX2.out.size))
    have HU3 := Lib.hid hb3
    have hsr : FRds w3 s L := by have := hso.rds; rw [hQ2] at this; exact this
    have HSR := Lib.hid hsr
    obtain ⟨As, cs, hsf⟩ := hsr.form
    subst hsf
    clear hso hQ2 hb3 hsr HB2 HX2 HS
    go_wp2_with fail
    refine (eqlF_same _ _ _ L (HUB.out _ HU3.out) HSR.out (by omega) HNB.out).mono ?_
    rintro e w4 ⟨rfl, m4, rfl⟩
    cases bb
    · go_wp2_with fail
      refine (eqlF_same _ _ _ L ((HUB.out _ HU3.out).drewN m4) (HSR.out.drewN m4) (by omega) HNB.out).mono ?_
      rintro e w5 ⟨rfl, m5, rfl⟩
      go_wp2
      go_ret
      exact ⟨rfl, below_drewN HB3.out (m4 + m5)⟩
    · have hp := HPK.out (by first | rfl | trivial)
      rw [hp] at hK
      have HK := Lib.hid hK
      have HB4 : Hid (Below w.heap.size w (w3.drewN m4)) := Lib.hid (below_drewN HB3.out m4)
      have HX4 : Hid (Below w1.heap.size w1 (w3.drewN m4)) := Lib.hid (below_drewN HX3.out m4)
      have HU4 : Hid (FRds (w3.drewN m4) (.slice Au L.length cu) L) := Lib.hid ((HUB.out _ HU3.out).drewN m4)
      clear hp hK HPK HB3 HX3 HU3 HUB HSR
      generalize w3.drewN m4 = w4 at *
      go_wp2_with fail
      refine (HK.out _ _ HU4.out).mono ?_
      rintro e w5 ⟨p, rfl, hpo, hb5⟩
      have HB5 := Lib.hid (HB4.out.trans (hb5.mono HB4.out.size))
      have HX5 := Lib.hid ((HXB.out _ (HX4.out.trans (hb5.mono HX4.out.size))).rds)
      have HP5 := Lib.hid (OwnL.rds (show OwnL w5 w4.heap.size p xs from hpo))
      obtain ⟨Ap, cp, rfl⟩ := own_form hpo
      clear hpo hb5
      go_wp2_with fail
      refine (eqL_same _ _ _ xs HP5.out HX5.out (by omega)).mono ?_
      rintro e w6 ⟨rfl, m6, rfl⟩
      go_wp2
      go_ret
      exact ⟨rfl, below_drewN HB5.out m6⟩
end Go.Proofs.YthogkhifgkgplaaDoor
