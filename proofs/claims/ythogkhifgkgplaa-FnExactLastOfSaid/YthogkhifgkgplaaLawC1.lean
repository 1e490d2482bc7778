/-
  The walk of the law FnExactPackFields: it returns true at every argument that can be. Conditions: where the lists lie.
-/
import Derived.Test.YthogkhifgkgplaaWfm
import Derived.Test.YthogkhifgkgplaaFopn
namespace Go.Proofs.Ythogkhifgkgplaa
open Go.RowKit
set_option linter.unusedVariables false

theorem lensF_of_sum {L : List Fd} {n : Nat} (h : allF L ≤ n) (k : Nat) : (L.getD k f0).b.length ≤ n := by
  by_cases hk : k < L.length
  · have := allF_take_le L k hk
    omega
  · rw [List.getD_eq_getElem?_getD, List.getElem?_eq_none (by omega)]; simp [f0]

set_option maxHeartbeats 3200000 in
theorem fnExactPackFields_walk0 (w : World) (v : Value) (L : List Fd) (hv : FRds w v L) (hL : L.length ≤ maxLen) (hn : ∀ k, (L.getD k f0).b.length ≤ maxLen) :
    Calls Try.prog 3 #[v] w fun e w' => e = .returned (.bool true) ∧ Below w.heap.size w w' := by
  have HZ := Lib.hid (szFS_any w v L hv hL hn)
  have HVB : Hid (∀ W, Below w.heap.size w W → FRds W v L) := Lib.hid (fun W hb => hv.more hb)
  obtain ⟨A, c, hvf⟩ := hv.form
  subst hvf
  have hRl := pkR_len L
  have HS := Lib.hid (fun W v h (hL : L.length ≤ 1048576) (hn : ∀ k, (L.getD k f0).b.length ≤ 1048576) => sPK_any W v L h hL hn)
  have HI := Lib.hid (fun W v h (hL : L.length ≤ 1048576) (hn : ∀ k, (L.getD k f0).b.length ≤ 1048576) => iPK_any W v L h hL hn)
  clear hv hL hn
  generalize pkR L = R at HS HI hRl
  go_enter Try.func3, Try.ntmps3
  go_wp2_with fail
  refine HZ.out.mono ?_
  rintro e ws ⟨r, rfl, hbs, hr⟩
  have HBS := Lib.hid hbs
  clear HZ hbs
  rcases hr with rfl | ⟨hr0, hr1, hsum⟩
  · go_wp2
    go_ret
    exact ⟨rfl, HBS.out⟩
  · have hL : L.length ≤ 1048576 := by omega
    have hP : L.length + allF L ≤ 1048576 := hsum
    have HN : Hid (∀ k, (L.getD k f0).b.length ≤ 1048576) := Lib.hid (lensF_of_sum (by omega))
    have hrn : ¬ r < 0 := by omega
    go_wp2_with fail
    refine (toFS_any _ _ L (HVB.out _ HBS.out) hL HN.out).mono ?_
    rintro e w1 ⟨rfl, h1, hb1, _⟩
    have HB1 := Lib.hid (HBS.out.trans (hb1.mono HBS.out.size))
    have HT1 := Lib.hid h1.rds
    have z1 := HB1.out.size
    clear h1 hb1
    go_wp2_with fail
    refine (HS.out _ _ HT1.out hL HN.out).mono ?_
    rintro e w2 ⟨u, rfl, hu, hb2⟩
    have HB2 := Lib.hid (HB1.out.trans (hb2.mono z1))
    have z2 := hb2.size
    have HU2 := Lib.hid hu
    have HUG : Hid (∀ j, u.ownBlock = some j → j < w2.heap.size) := Lib.hid (fun j hj => (World.ownsRow.lt hu j hj).2)
    clear hu hb2 HT1 HB1
    go_wp2_with fail
    refine (toFS_any _ _ L (HVB.out _ HB2.out) hL HN.out).mono ?_
    rintro e w3 ⟨rfl, h3, hb3, hbt3⟩
    have HB3 := Lib.hid (HB2.out.trans (hb3.mono HB2.out.size))
    have z3 := hb3.size
    have HU3 : Hid (OwnL w3 _ u R) := Lib.hid (OwnL.below HU2.out hb3 (Nat.le_refl _))
    have HX3 : Hid (OwnFS w3 w2.heap.size w3.heap.size L) := Lib.hid h3
    clear h3 hb3 HB2 HU2
    go_wp2_with fail
    refine (HI.out _ _ HX3.out.rds hL HN.out).mono ?_
    rintro e w4 ⟨g, rfl, hg4, hb4⟩
    have HB4 := Lib.hid (HB3.out.trans (hb4.mono HB3.out.size))
    have z4 := hb4.size
    have HU4 : Hid (OwnL w4 _ u R) := Lib.hid (OwnL.below HU3.out hb4 (Nat.le_refl _))
    have HX4 : Hid (OwnFS w4 w2.heap.size w3.heap.size L) := Lib.hid (HX3.out.below hb4)
    have HG4 := Lib.hid hg4
    have HGE : Hid (∀ j, g.ownBlock = some j → w3.heap.size ≤ j) := Lib.hid (fun j hj => (World.ownsRow.lt hg4 j hj).1)
    clear hg4 hb4 HB3 HU3 HX3
    go_wp2_with fail
    refine (eqI_same _ _ _ R (OwnL.rds HG4.out) (OwnL.rds HU4.out) (by omega)).mono ?_
    rintro e w5 ⟨rfl, m5, rfl⟩
    go_wp2_with fail
    refine (toFS_any _ _ L (HVB.out _ (below_drewN HB4.out m5)) hL HN.out).mono ?_
    rintro e w6 ⟨rfl, h6, hb6, _⟩
    have hb6' : Below w4.heap.size w4 w6 := (below_drewN (Below.refl w4.heap.size w4) m5).trans hb6
    have HB6 := Lib.hid (HB4.out.trans (hb6'.mono HB4.out.size))
    have z6 := hb6'.size
    have HU6 : Hid (OwnL w6 _ u R) := Lib.hid (OwnL.below HU4.out hb6' (Nat.le_refl _))
    have HG6 : Hid (OwnL w6 _ g R) := Lib.hid (OwnL.below HG4.out hb6' (Nat.le_refl _))
    have HX6 : Hid (OwnFS w6 w2.heap.size w3.heap.size L) := Lib.hid (HX4.out.below hb6')
    have HT6 := Lib.hid h6.rds
    clear h6 hb6 hb6' HB4 HU4 HG4 HX4
    go_wp2_with fail
    refine (eqFS_any _ _ _ L HX6.out.rds HT6.out hL HN.out).mono ?_
    rintro e w7 ⟨rfl, hb7⟩
    have z7 := hb7.size
    have HB7 := Lib.hid (HB6.out.trans (hb7.mono HB6.out.size))
    have HU7 : Hid (OwnL w7 _ u R) := Lib.hid (OwnL.below HU6.out hb7 (Nat.le_refl _))
    have HG7 : Hid (OwnL w7 _ g R) := Lib.hid (OwnL.below HG6.out hb7 (Nat.le_refl _))
    have HX7 : Hid (OwnFS w7 w2.heap.size w3.heap.size L) := Lib.hid (HX6.out.below hb7)
    clear HT6 hb7 HB6 HU6 HG6 HX6
    go_wp2_with fail
    refine (markFS_any w7 w2.heap.size w3.heap.size L HX7.out hbt3 hP).mono ?_
    rintro e w8 ⟨rfl, hw8⟩
    have z8 := hw8.size
    have HB8 := Lib.hid (Within.below HB7.out hw8 (by omega) HB7.out.size)
    have HU8 : Hid (OwnL w8 _ u R) := Lib.hid (hw8.own HU7.out (fun j hj => .inl (by have := HUG.out j hj; omega)))
    have HG8 : Hid (OwnL w8 _ g R) := Lib.hid (hw8.own HG7.out (fun j hj => .inr (HGE.out j hj)))
    clear hw8 HB7 HU7 HG7 HX7
    have hq1 : ¬ ((1 : Int) + (L.length : Nat) + (allF L : Nat) < 0) := by omega
    go_wp2_with fail
    refine (eqI_same _ _ _ R (OwnL.rds HG8.out) (OwnL.rds HU8.out) (by omega)).mono ?_
    rintro e w9 ⟨rfl, m9, rfl⟩
    go_wp2_with fail
    refine (markI_any _ _ _ R 1 (by omega) (by omega) (by omega) (show OwnL (w8.drewN m9) _ g R from HG8.out)).mono ?_
    rintro e w10 ⟨rfl, h10, hg10⟩
    have hg10' : w8.grownBy w10 g.ownBlock := ⟨hg10.os, hg10.tape, hg10.output, hg10.size, hg10.block⟩
    have z10 := hg10'.size
    have HB10 := Lib.hid (below_row HB8.out hg10' (fun j hj => (by have := HGE.out j hj; omega)) HB8.out.size)
    have HU10 : Hid (OwnL w10 _ u R) := Lib.hid (World.ownsRow.kept HU8.out hg10' (by
      cases hub : u.ownBlock with
      | none => exact .inl rfl
      | some i => exact .inr (fun hj => by have := HUG.out i hub; have := HGE.out i hj.symm; omega)))
    have HG10 : Hid (OwnL w10 _ g (seqI 1 R.length)) := Lib.hid (by unfold OwnL; rw [seqI_len]; exact h10)
    clear h10 hg10 hg10' HB8 HU8 HG8
    have hq2 : ¬ ((1 : Int) + (R.length : Int) < 0) := by omega
    go_wp2_with fail
    refine (heldI_any _ _ R.length 1 (by omega) (by omega) (by omega) (OwnL.rds HG10.out)).mono ?_
    rintro e w11 ⟨rfl, rfl⟩
    go_wp2_with fail
    refine (toFS_any _ _ L (HVB.out _ HB10.out) hL HN.out).mono ?_
    rintro e w12 ⟨rfl, h12, hb12, _⟩
    have HB12 := Lib.hid (HB10.out.trans (hb12.mono HB10.out.size))
    have z12 := hb12.size
    have HU12 : Hid (OwnL w12 _ u R) := Lib.hid (OwnL.below HU10.out hb12 (Nat.le_refl _))
    have HG12 : Hid (OwnL w12 _ g (seqI 1 R.length)) := Lib.hid (OwnL.below HG10.out hb12 (Nat.le_refl _))
    have HT12 := Lib.hid h12.rds
    clear h12 hb12 HB10 HU10 HG10
    go_wp2_with fail
    refine (HI.out _ _ HT12.out hL HN.out).mono ?_
    rintro e w13 ⟨h0, rfl, hh, hbh⟩
    have HB13 := Lib.hid (HB12.out.trans (hbh.mono HB12.out.size))
    have HU13 : Hid (OwnL w13 _ u R) := Lib.hid (OwnL.below HU12.out hbh (Nat.le_refl _))
    have HG13 : Hid (OwnL w13 _ g (seqI 1 R.length)) := Lib.hid (OwnL.below HG12.out hbh (Nat.le_refl _))
    have HH := Lib.hid hh
    clear hh hbh HB12 HU12 HG12 HT12
    go_wp2_with fail
    refine (eqI_same _ _ _ R (OwnL.rds HH.out) (OwnL.rds HU13.out) (by omega)).mono ?_
    rintro e w14 ⟨rfl, m14, rfl⟩
    go_wp2_with fail
    refine (heldI_any _ _ R.length 1 (by omega) (by omega) (by omega) ((OwnL.rds HG13.out).drewN m14)).mono ?_
    rintro e w15 ⟨rfl, rfl⟩
    go_wp2
    go_ret
    exact ⟨rfl, below_drewN HB13.out m14⟩
theorem fnExactPackFields_walk (a : Option Addr) (len cap : Nat) (M : List Fd) (w : World) (hv : FRds w (.slice a len cap) M) (hL : M.length ≤ maxLen) (hn : ∀ k, (M.getD k f0).b.length ≤ maxLen) :
    Calls Try.prog 3 #[.slice a len cap] w fun e w' => e = .returned (.bool true) ∧ Below w.heap.size w w' := fnExactPackFields_walk0 w _ M hv hL hn
end Go.Proofs.Ythogkhifgkgplaa
