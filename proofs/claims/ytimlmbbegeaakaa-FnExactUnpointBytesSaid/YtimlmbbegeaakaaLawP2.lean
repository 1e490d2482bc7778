/-
  The walk of the law FnExactUnpointBytes: it returns true at every list of numbers. No condition but that the list is one that can be.
-/
import Derived.Test.YtimlmbbegeaakaaWunpS
namespace Go.Proofs.Ytimlmbbegeaakaa
open Go.RowKit
set_option linter.unusedVariables false

set_option maxHeartbeats 3200000 in
theorem fnExactUnpointBytes_walk (a : Option Addr) (len cap : Nat) (zs : List Int) (w : World) (h : IsRow .i64 w a len cap zs) :
    Calls Try.prog 4 #[.slice a len cap] w fun e w' => e = .returned (.bool true) ∧ Below w.heap.size w w' := by
  by_cases hg : (1048576 : Int) < (len : Int)
  · go_enter Try.func4, Try.ntmps4
    go_wp2_with fail
    go_ret
    exact ⟨rfl, Below.refl _ _⟩
  · obtain ⟨xs, rfl, hr0, hl0⟩ := rds_of_row h
    have hn : xs.length ≤ 1048576 := by omega
    have hRl := unpR_len xs
    have hSS := fun W v h => sUP_any W v xs h hn
    have hII := fun W v h hf => iUP_any W v xs h hn hf
    unfold UnPost at hSS hII
    generalize (unpR xs).getD [] = L at hRl hSS hII
    generalize (unpR xs).isSome = bb at hSS hII
    have HSS := Lib.hid hSS
    have HII := Lib.hid hII
    clear hSS hII
    cases bb
    all_goals
      have HL0 := Lib.hid hl0
      have HR0 := Lib.hid hr0
      clear h hg hl0 hr0
      go_enter Try.func4, Try.ntmps4
      -- 1: a copy of the list, for the model
      go_wp2_with fail
      refine (toI_any _ _ xs HR0.out hn).mono ?_
      rintro e w1 ⟨rfl, h1, hb1⟩
      have hr1 := Rds.of_at (c := xs.length) h1.at_
      have HR1 := Lib.hid (HR0.out.below hb1 HL0.out)
      have hlt1 := (h1.lt _ rfl).2
      clear h1 HR0
      -- 2: what the model gives
      go_wp2_with fail
      refine (HSS.out _ _ hr1).mono ?_
      rintro e w2 ⟨u, rfl, hu, hbu⟩
      have hz2 := hbu.size
      have HR2 := Lib.hid (HR1.out.below hbu (HL0.out.mono hb1.size))
      have HB2 := Lib.hid (hb1.trans (hbu.mono hb1.size))
      have HU2 := Lib.hid (Rds.of_own hu)
      have HLU := Lib.hid (own_lies (xs := L) hu)
      clear hr1 HR1 hu hbu
      -- 3: a copy of the list, for the program
      go_wp2_with fail
      refine (toI_any _ _ xs HR2.out hn).mono ?_
      rintro e w3 ⟨rfl, h3, hb3⟩
      have hz3 := hb3.size
      have hs3 := (h3.lt _ rfl).2
      have HR3 := Lib.hid (HR2.out.below hb3 (HL0.out.mono HB2.out.size))
      have HB3 := Lib.hid (HB2.out.trans (hb3.mono HB2.out.size))
      have HU3 := Lib.hid (HU2.out.below hb3 HLU.out)
      have H3 := Lib.hid h3
      clear h3 HR2 HB2 HU2 hb3
      -- 4: what the program gives
      go_wp2_with fail
      refine (HII.out _ _ (Rds.of_at (c := xs.length) H3.out.at_) (fun A n c hv => by cases hv; exact Nat.le_refl _)).mono ?_
      rintro e w4 ⟨g, rfl, hg, hbg⟩
      have hz4 := hbg.size
      have HR4 := Lib.hid (HR3.out.below hbg (HL0.out.mono HB3.out.size))
      have HB4 := Lib.hid (HB3.out.trans (hbg.mono HB3.out.size))
      have HU4 := Lib.hid (HU3.out.below hbg (HLU.out.mono hz3))
      have H4 := Lib.hid (OwnI.below H3.out hbg hs3)
      have HG4 := Lib.hid hg
      have HLG := Lib.hid (own_lies (xs := L) hg)
      have HGE : Hid (∀ j, g.ownBlock = some j → w3.heap.size ≤ j) := fun j hj => (hg.lt j hj).1
      clear H3 HR3 HB3 HU3 hg hbg
      -- 5: the two agree
      go_wp2_with fail
      refine (eqI_same _ _ _ L (Rds.of_own HG4.out) HU4.out (by omega)).mono ?_
      rintro e w5 ⟨rfl, m5, rfl⟩
      -- 6: the argument is as it was
      go_wp2_with fail
      refine (toI_any _ _ xs (HR4.out.drewN m5) hn).mono ?_
      rintro e w6 ⟨rfl, h6, hb6⟩
      have hb6' : Below w4.heap.size w4 w6 := (below_drewN (Below.refl w4.heap.size w4) m5).trans hb6
      have hz6 := hb6'.size
      have HR6 := Lib.hid (HR4.out.below hb6' (HL0.out.mono HB4.out.size))
      have HB6 := Lib.hid (HB4.out.trans (hb6'.mono HB4.out.size))
      have HU6 := Lib.hid (HU4.out.below hb6' (HLU.out.mono (Nat.le_trans hz3 hz4)))
      have H6 := Lib.hid (OwnI.below H4.out hb6' (H4.out.lt _ rfl).2)
      have HG6 := Lib.hid (own_below HG4.out hb6' (fun j hj => (HG4.out.lt j hj).2))
      have HT6 := Lib.hid (Rds.of_at (c := xs.length) h6.at_)
      clear HR4 HB4 HU4 H4 HG4 hb6 hb6' h6
      go_wp2_with fail
      refine (eqI_same _ _ _ xs (Rds.of_at (c := xs.length) H6.out.at_) HT6.out hn).mono ?_
      rintro e w7 ⟨rfl, m7, rfl⟩
      clear HT6
      -- 7: the argument is marked
      go_wp2_with fail
      refine (markI_any _ _ _ xs 1 (by omega) (by omega) (by omega) (show (w6.drewN m7).ownsRow _ _ 1 _ xs.length (ints xs) from H6.out)).mono ?_
      rintro e w8 ⟨rfl, h8, hg8⟩
      have hg8' : w6.grownBy w8 (some w2.heap.size) := ⟨hg8.os, hg8.tape, hg8.output, hg8.size, hg8.block⟩
      have hz8 := hg8'.size
      have HR8 := Lib.hid (HR6.out.grown hg8' (HL0.out.ne (Nat.le_trans hb1.size hz2)))
      have HB8 := Lib.hid (below_grown HB6.out hg8' (Nat.le_trans hb1.size hz2) (HB6.out.size))
      have HU8 := Lib.hid (HU6.out.grown hg8' (HLU.out.ne (Nat.le_refl _)))
      have HG8 := Lib.hid (World.ownsRow.kept HG6.out hg8' (by
        cases hgb : g.ownBlock with
        | none => exact .inl rfl
        | some j => exact .inr (by have := HGE.out j hgb; simp; omega)))
      clear HR6 HB6 HU6 H6 HG6 hg8 hg8' h8
      -- 8: the two agree still
      have hq1 : ¬ ((1 : Int) + (xs.length : Int) < 0) := by omega
      go_wp2_with fail
      refine (eqI_same _ _ _ L (Rds.of_own HG8.out) HU8.out (by omega)).mono ?_
      rintro e w9 ⟨rfl, m9, rfl⟩
      -- 9: the result is marked
      go_wp2_with fail
      refine (markI_any _ _ _ L 1 (by omega) (by omega) (by omega) (show (w8.drewN m9).ownsRow _ _ 1 _ L.length (ints L) from HG8.out)).mono ?_
      rintro e w10 ⟨rfl, h10, hg10⟩
      have hg10' : w8.grownBy w10 g.ownBlock := ⟨hg10.os, hg10.tape, hg10.output, hg10.size, hg10.block⟩
      have hz10 := hg10'.size
      have HR10 := Lib.hid (HR8.out.grownRow hg10' (fun h0 j hj => HL0.out.ne (Nat.le_trans (Nat.le_trans (Nat.le_trans hb1.size hz2) hz3) (HGE.out j hj)) h0))
      have HB10 := Lib.hid (below_row HB8.out hg10' (fun j hj => Nat.le_trans (Nat.le_trans (Nat.le_trans hb1.size hz2) hz3) (HGE.out j hj)) HB8.out.size)
      have HU10 := Lib.hid (HU8.out.grownRow hg10' (fun h0 j hj => HLU.out.ne (Nat.le_trans hz3 (HGE.out j hj)) h0))
      have HGO : Hid (w10.ownsRow w3.heap.size 3 1 g (seqI 1 L.length).length (ints (seqI 1 L.length))) := by rw [show Hid (w10.ownsRow w3.heap.size 3 1 g (seqI 1 L.length).length (ints (seqI 1 L.length))) = w10.ownsRow w3.heap.size 3 1 g (seqI 1 L.length).length (ints (seqI 1 L.length)) from rfl, seqI_len]; exact h10
      clear HR8 HB8 HU8 HG8 hg10 hg10' h10
      -- 10: and holds its marks
      have hq2 : ¬ ((1 : Int) + (L.length : Int) < 0) := by omega
      go_wp2_with fail
      refine (heldI_any _ _ L.length 1 (by omega) (by omega) (by omega) (Rds.of_own HGO.out)).mono ?_
      rintro e w11 ⟨rfl, rfl⟩
      -- 11: another call
      go_wp2_with fail
      refine (toI_any _ _ xs HR10.out hn).mono ?_
      rintro e w12 ⟨rfl, h12, hb12⟩
      have hz12 := hb12.size
      have HB12 := Lib.hid (HB10.out.trans (hb12.mono HB10.out.size))
      have hzu : w2.heap.size ≤ w11.heap.size := by omega
      have HU12 := Lib.hid (HU10.out.below hb12 (HLU.out.mono hzu))
      have HGO12 := Lib.hid (own_below HGO.out hb12 (fun j hj => (HGO.out.lt j hj).2))
      have H12 := Lib.hid h12
      clear HR10 HB10 HU10 hb12 h12
      go_wp2_with fail
      refine (HII.out _ _ (Rds.of_at (c := xs.length) H12.out.at_) (fun A n c hv => by cases hv; exact Nat.le_refl _)).mono ?_
      rintro e w13 ⟨h0, rfl, hh, hbh⟩
      have hz13 := hbh.size
      have HB13 := Lib.hid (HB12.out.trans (hbh.mono HB12.out.size))
      have HU13 := Lib.hid (HU12.out.below hbh (HLU.out.mono (Nat.le_trans hzu hz12)))
      have HGO13 := Lib.hid (own_below HGO12.out hbh (fun j hj => (HGO12.out.lt j hj).2))
      have HH := Lib.hid hh
      clear HB12 HU12 HGO12 H12 HGO hbh hh
      go_wp2_with fail
      refine (eqI_same _ _ _ L (Rds.of_own HH.out) HU13.out (by omega)).mono ?_
      rintro e w14 ⟨rfl, m14, rfl⟩
      -- 12: the first result holds its marks still
      go_wp2_with fail
      refine (heldI_any _ _ L.length 1 (by omega) (by omega) (by omega) ((Rds.of_own HGO13.out).drewN m14)).mono ?_
      rintro e w15 ⟨rfl, rfl⟩
      go_wp2
      go_ret
      exact ⟨rfl, below_drewN HB13.out m14⟩
end Go.Proofs.Ytimlmbbegeaakaa

