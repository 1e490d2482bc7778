/-
  The walk of the law FnGroupsOf: it returns true at every list of bytes. Conditions: the list is one that can be, and what the error variable holds.
-/
import Derived.Test.YtkmnijpiaofdmaaDoorWdn
import Derived.Test.YtkmnijpiaofdmaaDoorWna
import Derived.Test.YtkmnijpiaofdmaaDoorWeql
namespace Go.Proofs.YtkmnijpiaofdmaaDoor
open Go.RowKit
set_option linter.unusedVariables false

theorem na_go {x : Int} (h : goR x ≠ []) : naA (goR x) = x ∧ naN (goR x) = (goR x).length := by
  unfold goR at h ⊢
  split at h <;> rename_i hc
  · rw [if_pos hc]
    obtain ⟨h0, h1⟩ := btw_yes hc
    have hb : bytesB 16 (gr x.toNat) = true := by
      simp only [bytesB, Bool.and_eq_true, decide_eq_true_eq]
      exact ⟨by have := gr_len3 (n := x.toNat) (by omega); omega, gr_bytes _⟩
    have hn := nf_gr (n := x.toNat) (by omega) []
    rw [List.append_nil] at hn
    unfold naA naN nfA nfN
    rw [if_pos hb, if_pos hb, hn]
    exact ⟨by simp; omega, rfl⟩
  · exact absurd rfl h

set_option maxHeartbeats 3200000 in
theorem fnGroupsOf_walk (a : Option Addr) (len cap : Nat) (zs : List Int) (w : World) (h : IsRow .u8 w a len cap zs) (he : ErrV w) :
    Calls Tryd.prog 3 #[.slice a len cap] w fun e w' => e = .returned (.bool true) ∧ Below w.heap.size w w' := by
  by_cases hg : (1048576 : Int) < (len : Int)
  · go_enter Tryd.func3, Tryd.ntmps3
    go_wp2_with fail
    go_ret
    exact ⟨rfl, Below.refl _ _⟩
  · have H := Lib.hid (dgo_any w a len cap zs h)
    obtain ⟨ea, he1, he2⟩ := he
    have HE0 : Hid (ErrA w ea) := Lib.hid ⟨he1, he2⟩
    clear h he1 he2
    go_enter Tryd.func3, Tryd.ntmps3
    go_wp2_with fail
    refine H.out.mono ?_
    rintro e w1 ⟨x, rfl, hb1⟩
    have HB1 := Lib.hid hb1
    have HE1 := Lib.hid (HE0.out.below hb1)
    have HI := Lib.hid (iGO_any x w1)
    have HS := Lib.hid (fun W => sGO_any x W)
    have hl := goR_len x
    have HNA := Lib.hid (na_go (x := x))
    generalize goR x = L at *
    clear hb1 H HE0
    go_wp2_with fail
    refine HI.out.mono ?_
    rintro e w2 ⟨u, rfl, hu, hb2⟩
    obtain ⟨Au, cu, huf⟩ := hu.form
    subst huf
    have HU2 := Lib.hid hu
    have HB2 := Lib.hid (HB1.out.trans (hb2.mono HB1.out.size))
    have HE2 := Lib.hid (HE1.out.below hb2)
    clear hu hb2 HB1 HE1 HI
    go_wp2_with fail
    refine (HS.out w2).mono ?_
    rintro e w3 ⟨q, rfl, hq, hb3⟩
    have HQ3 := Lib.hid hq
    have HU3 : Hid (OwnL w3 w1.heap.size _ L) := Lib.hid (OwnL.below HU2.out hb3 (Nat.le_refl _))
    have HB3 := Lib.hid (HB2.out.trans (hb3.mono HB2.out.size))
    have HE3 := Lib.hid (HE2.out.below hb3)
    clear hq hb3 HB2 HU2 HE2
    go_wp2_with fail
    refine (eqL_same _ _ _ L (OwnL.rds HU3.out) (OwnL.rds HQ3.out) (by omega)).mono ?_
    rintro e w4 ⟨rfl, m4, rfl⟩
    by_cases hL : L = []
    · have hz : ((L.length : Int) == 0) = true := by rw [hL]; rfl
      clear HNA
      have HB4 := Lib.hid (below_drewN HB3.out m4)
      have HU4 : Hid (OwnL (w3.drewN m4) w1.heap.size _ L) := Lib.hid HU3.out
      clear HB3 HU3 HE3 HQ3 hL
      generalize w3.drewN m4 = w4 at *
      go_wp2_with fail
      refine (HS.out w4).mono ?_
      rintro e w5 ⟨q, rfl, hq, hb5⟩
      have HQ5 := Lib.hid hq
      have HU5 : Hid (OwnL w5 w1.heap.size _ L) := Lib.hid (OwnL.below HU4.out hb5 (Nat.le_refl _))
      have HB5 := Lib.hid (HB4.out.trans (hb5.mono HB4.out.size))
      clear hq hb5
      go_wp2_with fail
      refine (eqL_same _ _ _ L (OwnL.rds HU5.out) (OwnL.rds HQ5.out) (by omega)).mono ?_
      rintro e w6 ⟨rfl, m6, rfl⟩
      go_wp2
      go_ret
      exact ⟨rfl, below_drewN HB5.out m6⟩
    · have hp : 0 < L.length := by
        cases L with
        | nil => exact absurd rfl hL
        | cons _ _ => simp
      have hz : ((L.length : Int) == 0) = false := by simp; omega
      have hx := HNA.out hL
      have HB4 := Lib.hid (below_drewN HB3.out m4)
      have HN := Lib.hid (iNA_any ea (w3.drewN m4) (.slice Au L.length cu) L (Rdc.of_own (show OwnL (w3.drewN m4) w1.heap.size _ L from HU3.out)) (by omega) HE3.out)
      rw [hx.1, hx.2] at HN
      have hd4 : decide ((L.length : Int) ≤ 4) = true := decide_eq_true (by omega)
      clear HNA hx hL HB3 HU3 HE3 HQ3 HS
      generalize w3.drewN m4 = w4 at *
      go_wp2_with fail
      refine HN.out.mono ?_
      rintro e w5 ⟨rfl, hb5⟩
      go_wp2
      go_ret
      exact ⟨rfl, HB4.out.trans (hb5.mono HB4.out.size)⟩
end Go.Proofs.YtkmnijpiaofdmaaDoor
