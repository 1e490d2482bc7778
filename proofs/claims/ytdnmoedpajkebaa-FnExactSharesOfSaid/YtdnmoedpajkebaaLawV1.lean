/-
  The walk of the law FnExactSharesOf: it returns true at every argument that can be. No condition.
-/
import Derived.Test.YtdnmoedpajkebaaWsh
namespace Go.Proofs.Ytdnmoedpajkebaa
open Go.RowKit
set_option linter.unusedVariables false

set_option maxHeartbeats 3200000 in
theorem fnExactSharesOf_walk (r : Int) (a : Option Addr) (len cap : Nat) (zs : List Int) (w : World)  (h : IsRow .i64 w a len cap zs) :
    Calls Try.prog 3 #[.int .i64 r, .slice a len cap] w fun e w' => e = .returned (.bool true) ∧ Below w.heap.size w w' := by
  by_cases hg : (1048576 : Int) < (len : Int)
  · go_enter Try.func3, Try.ntmps3
    go_wp2_with fail
    go_ret
    exact ⟨rfl, Below.refl _ _⟩
  · obtain ⟨xs, rfl, hr0, hl0⟩ := rds_of_row h
    have hn : xs.length ≤ 1048576 := by omega
    have HS := Lib.hid (fun W v h => sSH_any r W v xs h hn)
    have HI := Lib.hid (fun W v h => iSH_any r W v xs h hn)
    have hRl := shaR_len r xs
    have HL0 := Lib.hid hl0
    have HR0 := Lib.hid hr0
    clear h hg hl0 hr0
    generalize shaR r xs = L at HS HI hRl
    go_enter Try.func3, Try.ntmps3
    go_wp2_with fail
    refine (toI_any _ _ xs HR0.out hn).mono ?_
    rintro e w1 ⟨rfl, h1, hb1⟩
    have HB1 := Lib.hid hb1
    have HR1 := Lib.hid (HR0.out.below hb1 HL0.out)
    have HT1 : Hid (Rds w1 _ xs) := Lib.hid (Rds.of_own h1)
    have z1 := hb1.size
    clear h1 hb1 HR0
    go_wp2_with fail
    refine (HS.out _ _ HT1.out).mono ?_
    rintro e w2 ⟨u, rfl, hu, hb2⟩
    have HB2 := Lib.hid (HB1.out.trans (hb2.mono z1))
    have HR2 := Lib.hid (HR1.out.below hb2 (HL0.out.mono z1))
    have z2 := hb2.size
    have HU2 := Lib.hid hu
    have HUG : Hid (∀ j, u.ownBlock = some j → j < w2.heap.size) := Lib.hid (fun j hj => (World.ownsRow.lt hu j hj).2)
    clear hu hb2 HT1 HB1 HR1
    go_wp2_with fail
    refine (toI_any _ _ xs HR2.out hn).mono ?_
    rintro e w3 ⟨rfl, h3, hb3⟩
    have HB3 := Lib.hid (HB2.out.trans (hb3.mono HB2.out.size))
    have HR3 := Lib.hid (HR2.out.below hb3 (HL0.out.mono HB2.out.size))
    have z3 := hb3.size
    have HU3 : Hid (OwnL w3 _ u L) := Lib.hid (OwnL.below HU2.out hb3 (Nat.le_refl _))
    have HX3 : Hid (OwnL w3 w2.heap.size _ xs) := Lib.hid h3
    clear h3 hb3 HB2 HR2 HU2
    go_wp2_with fail
    refine (HI.out _ _ (OwnL.rds HX3.out)).mono ?_
    rintro e w4 ⟨g, rfl, hg4, hb4⟩
    have HB4 := Lib.hid (HB3.out.trans (hb4.mono HB3.out.size))
    have HR4 := Lib.hid (HR3.out.below hb4 (HL0.out.mono HB3.out.size))
    have z4 := hb4.size
    have HU4 : Hid (OwnL w4 _ u L) := Lib.hid (OwnL.below HU3.out hb4 (Nat.le_refl _))
    have HX4 : Hid (OwnL w4 w2.heap.size _ xs) := Lib.hid (OwnL.below HX3.out hb4 (Nat.le_refl _))
    have HG4 := Lib.hid hg4
    have HGE : Hid (∀ j, g.ownBlock = some j → w3.heap.size ≤ j) := Lib.hid (fun j hj => (World.ownsRow.lt hg4 j hj).1)
    have HXB := (World.ownsRow.lt HX3.out _ rfl).2
    clear hg4 hb4 HB3 HR3 HU3 HX3
    go_wp2_with fail
    refine (eqI_same _ _ _ L (OwnL.rds HG4.out) (OwnL.rds HU4.out) (by omega)).mono ?_
    rintro e w5 ⟨rfl, m5, rfl⟩
    go_wp2_with fail
    refine (toI_any _ _ xs (HR4.out.drewN m5) hn).mono ?_
    rintro e w6 ⟨rfl, h6, hb6⟩
    have hb6' : Below w4.heap.size w4 w6 := (below_drewN (Below.refl w4.heap.size w4) m5).trans hb6
    have HB6 := Lib.hid (HB4.out.trans (hb6'.mono HB4.out.size))
    have HR6 := Lib.hid (HR4.out.below hb6' (HL0.out.mono HB4.out.size))
    have z6 := hb6'.size
    have HU6 : Hid (OwnL w6 _ u L) := Lib.hid (OwnL.below HU4.out hb6' (Nat.le_refl _))
    have HG6 : Hid (OwnL w6 _ g L) := Lib.hid (OwnL.below HG4.out hb6' (Nat.le_refl _))
    have HX6 : Hid (OwnL w6 w2.heap.size _ xs) := Lib.hid (OwnL.below HX4.out hb6' (Nat.le_refl _))
    have HT6 : Hid (Rds w6 _ xs) := Lib.hid (Rds.of_own h6)
    clear h6 hb6 hb6' HB4 HR4 HU4 HG4 HX4
    go_wp2_with fail
    refine (eqI_same _ _ _ xs (OwnL.rds HX6.out) HT6.out hn).mono ?_
    rintro e w7 ⟨rfl, m7, rfl⟩
    clear HT6
    go_wp2_with fail
    refine (markI_any _ _ _ xs 1 (by omega) (by omega) (by omega) (show (w6.drewN m7).ownsRow _ _ 1 _ xs.length (ints xs) from HX6.out)).mono ?_
    rintro e w8 ⟨rfl, h8, hg8⟩
    have hg8' : w6.grownBy w8 (some w2.heap.size) := ⟨hg8.os, hg8.tape, hg8.output, hg8.size, hg8.block⟩
    have z8 := hg8'.size
    have HB8 := Lib.hid (below_grown HB6.out hg8' (by omega) HB6.out.size)
    have HR8 := Lib.hid (HR6.out.grown hg8' (HL0.out.ne (by omega)))
    have HU8 : Hid (OwnL w8 _ u L) := Lib.hid (World.ownsRow.kept HU6.out hg8' (by
      cases hub : u.ownBlock with
      | none => exact .inl rfl
      | some j => exact .inr (by have := HUG.out j hub; simp; omega)))
    have HG8 : Hid (OwnL w8 _ g L) := Lib.hid (World.ownsRow.kept HG6.out hg8' (by
      cases hgb : g.ownBlock with
      | none => exact .inl rfl
      | some j => exact .inr (by have := HGE.out j hgb; simp; omega)))
    clear h8 hg8 hg8' HB6 HR6 HU6 HG6 HX6
    have hq1 : ¬ ((1 : Int) + (xs.length : Int) < 0) := by omega
    go_wp2_with fail
    refine (eqI_same _ _ _ L (OwnL.rds HG8.out) (OwnL.rds HU8.out) (by omega)).mono ?_
    rintro e w9 ⟨rfl, m9, rfl⟩
    go_wp2_with fail
    refine (markI_any _ _ _ L 1 (by omega) (by omega) (by omega) (show OwnL (w8.drewN m9) _ g L from HG8.out)).mono ?_
    rintro e w10 ⟨rfl, h10, hg10⟩
    have hg10' : w8.grownBy w10 g.ownBlock := ⟨hg10.os, hg10.tape, hg10.output, hg10.size, hg10.block⟩
    have z10 := hg10'.size
    have HB10 := Lib.hid (below_row HB8.out hg10' (fun j hj => (by have := HGE.out j hj; omega)) HB8.out.size)
    have HR10 := Lib.hid (HR8.out.grownRow hg10' (fun h0 j hj => HL0.out.ne (by have := HGE.out j hj; omega) h0))
    have HU10 : Hid (OwnL w10 _ u L) := Lib.hid (World.ownsRow.kept HU8.out hg10' (by
      cases hub : u.ownBlock with
      | none => exact .inl rfl
      | some i => exact .inr (fun hj => by have := HUG.out i hub; have := HGE.out i hj.symm; omega)))
    have HG10 : Hid (OwnL w10 _ g (seqI 1 L.length)) := Lib.hid (by unfold OwnL; rw [seqI_len]; exact h10)
    clear h10 hg10 hg10' HB8 HU8 HG8 HR8
    have hq2 : ¬ ((1 : Int) + (L.length : Int) < 0) := by omega
    go_wp2_with fail
    refine (heldI_any _ _ L.length 1 (by omega) (by omega) (by omega) (OwnL.rds HG10.out)).mono ?_
    rintro e w11 ⟨rfl, rfl⟩
    go_wp2_with fail
    refine (toI_any _ _ xs HR10.out hn).mono ?_
    rintro e w12 ⟨rfl, h12, hb12⟩
    have HB12 := Lib.hid (HB10.out.trans (hb12.mono HB10.out.size))
    have z12 := hb12.size
    have HU12 : Hid (OwnL w12 _ u L) := Lib.hid (OwnL.below HU10.out hb12 (Nat.le_refl _))
    have HG12 : Hid (OwnL w12 _ g (seqI 1 L.length)) := Lib.hid (OwnL.below HG10.out hb12 (Nat.le_refl _))
    have HT12 : Hid (Rds w12 _ xs) := Lib.hid (Rds.of_own h12)
    clear h12 hb12 HB10 HU10 HG10 HR10
    go_wp2_with fail
    refine (HI.out _ _ HT12.out).mono ?_
    rintro e w13 ⟨h0, rfl, hh, hbh⟩
    have HB13 := Lib.hid (HB12.out.trans (hbh.mono HB12.out.size))
    have HU13 : Hid (OwnL w13 _ u L) := Lib.hid (OwnL.below HU12.out hbh (Nat.le_refl _))
    have HG13 : Hid (OwnL w13 _ g (seqI 1 L.length)) := Lib.hid (OwnL.below HG12.out hbh (Nat.le_refl _))
    have HH := Lib.hid hh
    clear hh hbh HB12 HU12 HG12 HT12
    go_wp2_with fail
    refine (eqI_same _ _ _ L (OwnL.rds HH.out) (OwnL.rds HU13.out) (by omega)).mono ?_
    rintro e w14 ⟨rfl, m14, rfl⟩
    go_wp2_with fail
    refine (heldI_any _ _ L.length 1 (by omega) (by omega) (by omega) ((OwnL.rds HG13.out).drewN m14)).mono ?_
    rintro e w15 ⟨rfl, rfl⟩
    go_wp2
    go_ret
    exact ⟨rfl, below_drewN HB13.out m14⟩
end Go.Proofs.Ytdnmoedpajkebaa
