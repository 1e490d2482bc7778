/-
  The walk of the law FnExactUnpackFields: it returns true at every list of numbers. Conditions: the list is one that can be, and what the two variables of errors hold.
-/
import Derived.Test.YthogkhifgkgplaaDoorWui
import Derived.Test.YthogkhifgkgplaaDoorWmo
import Derived.Test.YthogkhifgkgplaaDoorWfec
set_option linter.unusedSimpArgs false
namespace Go.Proofs.YthogkhifgkgplaaDoor
open Go.RowKit
set_option linter.unusedVariables false

theorem allF_bound : ∀ (L : List Fd), L.all vfB = true → allF L ≤ 16 * L.length
  | [], _ => by simp [allF]
  | f :: l, h => by
    rw [List.all_cons, Bool.and_eq_true] at h
    have := allF_bound l h.2
    have := (vf_parts h.1).2.1
    rw [allF_cons, List.length_cons]
    omega
theorem unR_some {xs : List Int} {L : List Fd} (h : unR xs = some L) : L.length ≤ 5 ∧ L.all vfB = true ∧ pkA L = xs := by
  unfold unR at h
  split at h
  · cases hu : unA xs with
    | none => rw [hu] at h; cases h
    | some M =>
      rw [hu] at h
      simp only at h
      split at h
      · injection h with h
        subst h
        rename_i h5
        obtain ⟨h1, h2⟩ := unA_pk xs.length xs M (Nat.le_refl _) hu
        exact ⟨h5, h2, h1⟩
      · cases h
  · cases h
theorem unR_facts (xs : List Int) : ((unR xs).getD []).length ≤ 5 ∧ (∀ k, (((unR xs).getD []).getD k f0).b.length ≤ 16) ∧ allF ((unR xs).getD []) ≤ 80 := by
  cases hu : unR xs with
  | none => refine ⟨by simp, fun k => by simp [f0], by simp [allF]⟩
  | some L =>
    obtain ⟨h1, h2, _⟩ := unR_some hu
    have := allF_bound L h2
    refine ⟨h1, fun k => ?_, by show allF L ≤ 80; omega⟩
    show (L.getD k f0).b.length ≤ 16
    by_cases hk : k < L.length
    · rw [List.getD_eq_getElem?_getD, List.getElem?_eq_getElem hk]
      exact (vf_parts (List.all_eq_true.1 h2 _ (List.getElem_mem hk))).2.1
    · rw [List.getD_eq_getElem?_getD, List.getElem?_eq_none (by omega)]; simp [f0]

set_option maxRecDepth 50000 in
set_option maxHeartbeats 6400000 in
theorem fnExactUnpackFields_walk (a : Option Addr) (len cap : Nat) (zs : List Int) (w : World) (h : IsRow .i64 w a len cap zs) (he : ErrV w) (ht : ErrT w) :
    Calls Tryd.prog 3 #[.slice a len cap] w fun e w' => e = .returned (.bool true) ∧ Below w.heap.size w w' := by
  by_cases hg : (1048576 : Int) < (len : Int)
  · go_enter Tryd.func3, Tryd.ntmps3
    go_wp2_with fail
    go_ret
    exact ⟨rfl, Below.refl _ _⟩
  · obtain ⟨xs, rfl, hr0, hl0⟩ := rds_of_row h
    obtain ⟨ea, he1, he2⟩ := he
    have hn : xs.length ≤ 1048576 := by omega
    have HRB := Lib.hid (fun W (hb : Below w.heap.size w W) => hr0.below hb hl0)
    have HEB := Lib.hid (fun W (hb : Below w.heap.size w W) => (show ErrA w ea from ⟨he1, he2⟩).below hb)
    have HTB := Lib.hid (fun W (hb : Below w.heap.size w W) => ht.below hb)
    have hS := fun W v h => sUF_any W v xs h hn
    have hI := fun W v h he ht => iUF_any ea W v xs h hn he ht
    obtain ⟨hL5, hLb, hLa⟩ := unR_facts xs
    unfold UfPost at hS
    unfold IufPost at hI
    generalize (unR xs).getD [] = L at *
    generalize (unR xs).isSome = bb at *
    have HS := Lib.hid hS
    have HI := Lib.hid hI
    have HLB : Hid (∀ k, (L.getD k f0).b.length ≤ 1048576) := Lib.hid (fun k => by have := hLb k; omega)
    have hL : L.length ≤ 1048576 := by omega
    have hP : L.length + allF L ≤ 1048576 := by omega
    have hbb : (bb != bb) = false := by simp
    clear h hg hl0 hr0 hS hI he1 he2 ht hLb
    go_enter Tryd.func3, Tryd.ntmps3
    go_wp2_with fail
    refine (toI_any _ _ xs (HRB.out _ (Below.refl _ _)) hn).mono ?_
    rintro e w1 ⟨rfl, h1, hb1⟩
    have HR1 := Lib.hid (Rdc.of_own h1)
    have HB1 := Lib.hid hb1
    clear h1 hb1
    go_wp2_with fail
    refine (HS.out _ _ HR1.out).mono ?_
    rintro e w2 ⟨u, Qu, rfl, hu, hQu, hb2⟩
    have HB2 := Lib.hid (HB1.out.trans (hb2.mono HB1.out.size))
    have hzw2 := HB2.out.size
    have hUR : FRds w2 u L := by rw [← hQu]; exact hu.rds
    have HUB := Lib.hid (fun W (hb : Below w2.heap.size w2 W) => hUR.more hb)
    obtain ⟨Au, cu, huf⟩ := hUR.form
    subst huf
    clear hu hQu hb2 hUR HR1 HB1 HS
    go_wp2_with fail
    refine (toI_any _ _ xs (HRB.out _ HB2.out) hn).mono ?_
    rintro e w3 ⟨rfl, h3, hb3⟩
    have HB3 := Lib.hid (HB2.out.trans (hb3.mono HB2.out.size))
    have HU3 := Lib.hid hb3
    have H3 := Lib.hid h3
    have hx3 := h3.lt _ rfl
    clear h3 hb3 HB2
    go_wp2_with fail
    refine (HI.out _ _ (Rdc.of_own H3.out) (HEB.out _ HB3.out) (HTB.out _ HB3.out)).mono ?_
    rintro e w4 ⟨g, Q, rfl, hgo, hap, hQ, hb4⟩
    have HB4 := Lib.hid (HB3.out.trans (hb4.mono HB3.out.size))
    have HU4 := Lib.hid (HU3.out.trans (hb4.mono HU3.out.size))
    have H4 := Lib.hid (OwnI.below H3.out hb4 (H3.out.lt _ rfl).2)
    have HG4 := Lib.hid hgo
    have HAP := Lib.hid hap
    have HQ := Lib.hid hQ
    have hQl : Q.length = L.length := by rw [← hQ]; simp
    have HQL := Lib.hid hQl
    have hz4 := hb4.size
    obtain ⟨Ag, cg, hgf⟩ := hgo.form
    rw [hQl] at hgf
    subst hgf
    clear hgo hap hQ hb4 HB3 HU3 H3 hQl
    go_wp2_with fail
    refine (eqFS_any _ _ _ L (by have := HG4.out.rds; rw [HQ.out] at this; exact this) (HUB.out _ HU4.out) hL HLB.out).mono ?_
    rintro e w5 ⟨rfl, hb5⟩
    have HB5 := Lib.hid (HB4.out.trans (hb5.mono HB4.out.size))
    have HU5 := Lib.hid (HU4.out.trans (hb5.mono HU4.out.size))
    have H5 := Lib.hid (OwnI.below H4.out hb5 (H4.out.lt _ rfl).2)
    have HG5 := Lib.hid (HG4.out.keeps (Keeps.of_below (g := w2.heap.size) hb5) hx3.2)
    have hz5 := hb5.size
    clear hb5 HB4 HU4 H4 HG4
    go_wp2_with fail
    refine (toI_any _ _ xs (HRB.out _ HB5.out) hn).mono ?_
    rintro e w6 ⟨rfl, h6, hb6⟩
    have HB6 := Lib.hid (HB5.out.trans (hb6.mono HB5.out.size))
    have HU6 := Lib.hid (HU5.out.trans (hb6.mono HU5.out.size))
    have H6 := Lib.hid (OwnI.below H5.out hb6 (H5.out.lt _ rfl).2)
    have HG6 := Lib.hid (HG5.out.keeps (Keeps.of_below (g := w2.heap.size) hb6) hx3.2)
    have HT6 := Lib.hid (Rds.of_at (c := xs.length) h6.at_)
    have hz6 := hb6.size
    clear h6 hb6 HB5 HU5 H5 HG5
    go_wp2_with fail
    refine (eqI_same _ _ _ xs (Rds.of_at (c := xs.length) H6.out.at_) HT6.out hn).mono ?_
    rintro e w7 ⟨rfl, m7, rfl⟩
    go_wp2_with fail
    refine (markI_any (w6.drewN m7) w2.heap.size _ xs 1 (by omega) (by omega) (by omega) H6.out).mono ?_
    rintro e w8 ⟨rfl, h8, hg8⟩
    have hg8' : w6.grownBy w8 (some w2.heap.size) := ⟨hg8.os, hg8.tape, hg8.output, hg8.size, hg8.block⟩
    have HB8 := Lib.hid (HB6.out.grown hg8' HB6.out.size (fun j hj => by cases hj; first | exact Nat.le_refl _ | omega))
    have HU8 := Lib.hid (HU6.out.grown hg8' HU6.out.size (fun j hj => by cases hj; first | exact Nat.le_refl _ | omega))
    have HG8 := Lib.hid (HG6.out.keeps (g := w2.heap.size) ⟨hg8'.size, fun k hk hne => hg8'.block k hk (fun e => hne (by cases e; rfl))⟩ hx3.2)
    have hz8 := hg8'.size
    have hq1 : ¬ ((1 : Int) + (xs.length : Int) < 0) := by omega
    clear h8 hg8 hg8' HB6 HU6 H6 HG6 HT6
    go_wp2_with fail
    refine (eqFS_any _ _ _ L (by have := HG8.out.rds; rw [HQ.out] at this; exact this) (HUB.out _ HU8.out) hL HLB.out).mono ?_
    rintro e w9 ⟨rfl, hb9⟩
    have HB9 := Lib.hid (HB8.out.trans (hb9.mono HB8.out.size))
    have HU9 := Lib.hid (HU8.out.trans (hb9.mono HU8.out.size))
    have HG9 := Lib.hid (HG8.out.keeps (Keeps.of_below (g := w2.heap.size) hb9) hx3.2)
    have hz9 := hb9.size
    clear hb9 HB8 HU8 HG8
    go_wp2_with fail
    refine (markFO_any w9 w3.heap.size _ Q HG9.out HAP.out (by omega) (by rw [HQ.out, HQL.out]; exact hP)).mono ?_
    rintro e w10 ⟨rfl, hg10, hb10⟩
    have HB10 := Lib.hid (HB9.out.trans (hb10.mono (by omega)))
    have HU10 := Lib.hid (HU9.out.trans (hb10.mono (by omega)))
    have hgr : FRds w10 (.slice Ag L.length cg) (mkF 1 L) := by have := hg10.rds; rw [mkQ_fst, HQ.out] at this; exact this
    have HGR := Lib.hid (fun W (hb : Below w10.heap.size w10 W) => hgr.more hb)
    rw [HQ.out, HQL.out]
    have hq2 : ¬ ((1 : Int) + (L.length : Nat) + (allF L : Nat) < 0) := by omega
    have HH := Lib.hid (fun W h => heldFS_any W (.slice Ag L.length cg) L h hP)
    generalize hzz : (1 : Int) + (L.length : Nat) + (allF L : Nat) = z at *
    have hzn : (z != z) = false := by simp
    clear hg10 hb10 hgr HB9 HU9 HG9 hzz hP hLa
    go_wp2_with fail
    refine (HH.out _ (HGR.out _ (Below.refl _ _))).mono ?_
    rintro e w11 ⟨rfl, rfl⟩
    go_wp2_with fail
    refine (toI_any _ _ xs (HRB.out _ HB10.out) hn).mono ?_
    rintro e w12 ⟨rfl, h12, hb12⟩
    have HB12 := Lib.hid (HB10.out.trans (hb12.mono HB10.out.size))
    have HU12 := Lib.hid (HU10.out.trans (hb12.mono HU10.out.size))
    have HK12 := Lib.hid hb12
    have HR12 := Lib.hid (Rdc.of_own h12)
    clear h12 hb12 HB10 HU10
    go_wp2_with fail
    refine (HI.out _ _ HR12.out (HEB.out _ HB12.out) (HTB.out _ HB12.out)).mono ?_
    rintro e w13 ⟨hv, Q2, rfl, hho, _, hQ2, hb13⟩
    have HB13 := Lib.hid (HB12.out.trans (hb13.mono HB12.out.size))
    have HU13 := Lib.hid (HU12.out.trans (hb13.mono HU12.out.size))
    have HK13 := Lib.hid (HK12.out.trans (hb13.mono HK12.out.size))
    have hHR : FRds w13 hv L := by have := hho.rds; rw [hQ2] at this; exact this
    have HHR := Lib.hid hHR
    obtain ⟨Ah, ch, hhf⟩ := hHR.form
    subst hhf
    clear hho hQ2 hb13 hHR HB12 HU12 HK12 HR12
    go_wp2_with fail
    refine (eqFS_any _ _ _ L HHR.out (HUB.out _ HU13.out) hL HLB.out).mono ?_
    rintro e w14 ⟨rfl, hb14⟩
    have HB14 := Lib.hid (HB13.out.trans (hb14.mono HB13.out.size))
    have HK14 := Lib.hid (HK13.out.trans (hb14.mono HK13.out.size))
    clear hb14 HB13 HK13 HU13 HHR
    go_wp2_with fail
    refine (HH.out _ (HGR.out _ HK14.out)).mono ?_
    rintro e w15 ⟨rfl, rfl⟩
    go_wp2
    go_ret
    exact ⟨rfl, HB14.out⟩
end Go.Proofs.YthogkhifgkgplaaDoor
