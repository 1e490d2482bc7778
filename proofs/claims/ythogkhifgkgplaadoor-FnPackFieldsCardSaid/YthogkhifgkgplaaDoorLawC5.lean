/-
  The walk of the law FnPackFields: it returns true at every list of bytes. Conditions: the list is one that can be, and what the two variables of errors hold.
-/
import Derived.Test.YthogkhifgkgplaaDoorLawC4
import Derived.Test.YthogkhifgkgplaaDoorWqf
import Derived.Test.YthogkhifgkgplaaDoorWdpf
import Derived.Test.YthogkhifgkgplaaDoorWpf
set_option linter.unusedSimpArgs false
namespace Go.Proofs.YthogkhifgkgplaaDoor
open Go.RowKit
set_option linter.unusedVariables false

theorem fds_len5 {Q : List (Fd × Value)} {n : Nat} (h : ∀ q ∈ Q, q.1.b.length ≤ n) (k : Nat) : ((Q.map (·.1)).getD k f0).b.length ≤ n := by
  by_cases hk : k < Q.length
  · have : (Q.map (·.1)).getD k f0 = (Q[k]).1 := by simp [List.getD_eq_getElem?_getD, hk]
    rw [this]
    exact h _ (List.getElem_mem hk)
  · rw [List.getD_eq_getElem?_getD, List.getElem?_eq_none (by simp; omega)]; simp [f0]
theorem unR_pkR {L : List Fd} (h : (pkR L).length ≠ 0) : unR (pkR L) = some L := by
  have hl := pkR_len L
  have hv : vfsB L = true := by
    cases hv : vfsB L with
    | true => rfl
    | false => unfold pkR at h; rw [hv] at h; simp at h
  have hp : pkR L = pkA L := by unfold pkR; rw [if_pos hv]
  simp only [vfsB, Bool.and_eq_true, decide_eq_true_eq] at hv
  rw [hp] at hl ⊢
  rw [unR_yes (by omega) (unA_pkA L hv.2), if_pos hv.1]

set_option maxRecDepth 50000 in
set_option maxHeartbeats 6400000 in
theorem fnPackFields_walk (a : Option Addr) (len cap : Nat) (zs : List Int) (w : World) (h : IsRow .u8 w a len cap zs) (he : ErrV w) (ht : ErrT w) :
    Calls Tryd.prog 4 #[.slice a len cap] w fun e w' => e = .returned (.bool true) ∧ Below w.heap.size w w' := by
  by_cases hg : (1048576 : Int) < (len : Int)
  · go_enter Tryd.func4, Tryd.ntmps4
    go_wp2_with fail
    go_ret
    exact ⟨rfl, Below.refl _ _⟩
  · have H := Lib.hid (dpf_any w a len cap zs h)
    obtain ⟨ea, he1, he2⟩ := he
    have HEB := Lib.hid (fun W (hb : Below w.heap.size w W) => (show ErrA w ea from ⟨he1, he2⟩).below hb)
    have HTB := Lib.hid (fun W (hb : Below w.heap.size w W) => ht.below hb)
    clear h he1 he2 ht
    go_enter Tryd.func4, Tryd.ntmps4
    go_wp2_with fail
    refine H.out.mono ?_
    rintro e w1 ⟨v, Q, B, rfl, hv, hQ, hQb, hB, hBz, hb1⟩
    have HB1 := Lib.hid hb1
    have hFR := hv.rds
    have hfl := fds_len5 hQb
    have hLl : (Q.map (·.1)).length ≤ 6 := by rw [List.length_map]; exact hQ
    generalize Q.map (·.1) = L at *
    have HFB := Lib.hid (fun W (hb : Below w1.heap.size w1 W) => hFR.more hb)
    have HNB : Hid (∀ k, (L.getD k f0).b.length ≤ 1048576) := Lib.hid (fun k => by have := hfl k; omega)
    have hI := fun W h => iPK_any W v L h (by omega) HNB.out
    have hS := fun W h => sPK_any W v L h (by omega) HNB.out
    have HU := Lib.hid (unR_pkR (L := L))
    have hRl := pkR_len L
    generalize pkR L = R at hI hS HU hRl
    have HI := Lib.hid hI
    have HS := Lib.hid hS
    obtain ⟨A, c, hvf⟩ := hFR.form
    subst hvf
    clear hb1 hv hQ hQb hB hBz hFR hfl hI hS H
    go_wp2_with fail
    refine (HI.out _ (HFB.out _ (Below.refl _ _))).mono ?_
    rintro e w2 ⟨u, rfl, hu, hb2⟩
    have HB2 := Lib.hid (HB1.out.trans (hb2.mono HB1.out.size))
    have HF2 := Lib.hid hb2
    have HU2 := Lib.hid (show OwnL w2 w1.heap.size u R from hu)
    obtain ⟨Au, cu, rfl⟩ := own_form hu
    clear hu hb2 HB1 HI
    go_wp2_with fail
    refine (HS.out _ (HFB.out _ HF2.out)).mono ?_
    rintro e w3 ⟨s, rfl, hs, hb3⟩
    have HB3 := Lib.hid (HB2.out.trans (hb3.mono HB2.out.size))
    have HF3 := Lib.hid (HF2.out.trans (hb3.mono HF2.out.size))
    have HU3 := Lib.hid (OwnL.below HU2.out hb3 (Nat.le_refl _))
    have HT3 := Lib.hid (OwnL.rds (show OwnL w3 w2.heap.size s R from hs))
    obtain ⟨As, cs, rfl⟩ := own_form hs
    clear hs hb3 HB2 HF2 HU2
    go_wp2_with fail
    refine (eqL_same _ _ _ R (OwnL.rds HU3.out) HT3.out (by omega)).mono ?_
    rintro e w4 ⟨rfl, m4, rfl⟩
    have HB4 : Hid (Below w.heap.size w (w3.drewN m4)) := Lib.hid (below_drewN HB3.out m4)
    have HF4 : Hid (Below w1.heap.size w1 (w3.drewN m4)) := Lib.hid (below_drewN HF3.out m4)
    have HU4 : Hid (OwnL (w3.drewN m4) w1.heap.size (.slice Au R.length cu) R) := Lib.hid HU3.out
    clear HB3 HF3 HU3 HT3
    generalize w3.drewN m4 = w4 at *
    by_cases h0 : R.length = 0
    · have hz : ((R.length : Int) == 0) = true := by simp [h0]
      clear HU h0
      go_wp2_with fail
      refine (HS.out _ (HFB.out _ HF4.out)).mono ?_
      rintro e w5 ⟨s, rfl, hs, hb5⟩
      have HB5 := Lib.hid (HB4.out.trans (hb5.mono HB4.out.size))
      have HU5 := Lib.hid (OwnL.rds (OwnL.below HU4.out hb5 (Nat.le_refl _)))
      have HT5 := Lib.hid (OwnL.rds (show OwnL w5 w4.heap.size s R from hs))
      clear hs hb5
      go_wp2_with fail
      refine (eqL_same _ _ _ R HU5.out HT5.out (by omega)).mono ?_
      rintro e w6 ⟨rfl, m6, rfl⟩
      go_wp2
      go_ret
      exact ⟨rfl, below_drewN HB5.out m6⟩
    · have hz : ((R.length : Int) == 0) = false := beq_eq_false_iff_ne.2 (by omega)
      have hR := HU.out h0
      clear h0
      have hP := fun W h he ht => iUF_any ea W (.slice Au R.length cu) R h (by omega) he ht
      unfold IufPost at hP
      rw [hR] at hP
      simp only [Option.isSome_some, Option.getD_some] at hP
      have HP := Lib.hid hP
      clear hR hP HU HS
      go_wp2_with fail
      refine (HP.out _ (Rdc.of_own HU4.out) (HEB.out _ HB4.out) (HTB.out _ HB4.out)).mono ?_
      rintro e w5 ⟨b, Q2, rfl, hbo, _, hQ2, hb5⟩
      have HB5 := Lib.hid (HB4.out.trans (hb5.mono HB4.out.size))
      have HF5 := Lib.hid (HFB.out _ (HF4.out.trans (hb5.mono HF4.out.size)))
      have hbr : FRds w5 b L := by have := hbo.rds; rw [hQ2] at this; exact this
      have HBR := Lib.hid hbr
      obtain ⟨Ab, cb, hbf⟩ := hbr.form
      subst hbf
      clear hbo hQ2 hb5 hbr
      go_wp2_with fail
      refine (eqlF_same _ _ _ L HBR.out HF5.out (by omega) HNB.out).mono ?_
      rintro e w6 ⟨rfl, m6, rfl⟩
      go_wp2
      go_ret
      exact ⟨rfl, below_drewN HB5.out m6⟩
end Go.Proofs.YthogkhifgkgplaaDoor
