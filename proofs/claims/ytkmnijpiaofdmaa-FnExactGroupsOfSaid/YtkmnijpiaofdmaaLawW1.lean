/-
  The walk of the law FnExactGroupsOf: it returns true at every argument that can be. No condition.
-/
import Derived.Test.YtkmnijpiaofdmaaWgr
namespace Go.Proofs.Ytkmnijpiaofdmaa
open Go.RowKit
set_option linter.unusedVariables false

set_option maxHeartbeats 3200000 in
theorem fnExactGroupsOf_walk (x : Int) (w : World) :
    Calls Try.prog 3 #[.int .i64 x] w fun e w' => e = .returned (.bool true) ∧ Below w.heap.size w w' := by
  have HS := Lib.hid (fun W => sGO_any x W)
  have HI := Lib.hid (fun W => iGO_any x W)
  have hRl := goR_len x
  generalize goR x = L at HS HI hRl
  go_enter Try.func3, Try.ntmps3
  go_wp2_with fail
  refine (HS.out _).mono ?_
  rintro e w1 ⟨u, rfl, hu, hb1⟩
  have HB1 := Lib.hid hb1
  have z1 := hb1.size
  have HU1 := Lib.hid hu
  have HUG : Hid (∀ j, u.ownBlock = some j → j < w1.heap.size) := Lib.hid (fun j hj => (World.ownsRow.lt hu j hj).2)
  clear hu hb1
  go_wp2_with fail
  refine (HI.out _).mono ?_
  rintro e w8 ⟨g, rfl, hg4, hb4⟩
  have HB8 := Lib.hid (HB1.out.trans (hb4.mono z1))
  have z8 := hb4.size
  have HU8 : Hid (OwnL w8 _ u L) := Lib.hid (OwnL.below HU1.out hb4 (Nat.le_refl _))
  have HG8 := Lib.hid hg4
  have HGE : Hid (∀ j, g.ownBlock = some j → w1.heap.size ≤ j) := Lib.hid (fun j hj => (World.ownsRow.lt hg4 j hj).1)
  clear hg4 hb4 HB1 HU1
  go_wp2_with fail
  refine (eqI_same _ _ _ L (OwnL.rds HG8.out) (OwnL.rds HU8.out) (by omega)).mono ?_
  rintro e w9 ⟨rfl, m9, rfl⟩
  go_wp2_with fail
  refine (markI_any _ _ _ L 1 (by omega) (by omega) (by omega) (show OwnL (w8.drewN m9) _ g L from HG8.out)).mono ?_
  rintro e w10 ⟨rfl, h10, hg10⟩
  have hg10' : w8.grownBy w10 g.ownBlock := ⟨hg10.os, hg10.tape, hg10.output, hg10.size, hg10.block⟩
  have z10 := hg10'.size
  have HB10 := Lib.hid (below_row HB8.out hg10' (fun j hj => (by have := HGE.out j hj; omega)) HB8.out.size)
  have HU10 : Hid (OwnL w10 _ u L) := Lib.hid (World.ownsRow.kept HU8.out hg10' (by
    cases hub : u.ownBlock with
    | none => exact .inl rfl
    | some i => exact .inr (fun hj => by have := HUG.out i hub; have := HGE.out i hj.symm; omega)))
  have HG10 : Hid (OwnL w10 _ g (seqI 1 L.length)) := Lib.hid (by unfold OwnL; rw [seqI_len]; exact h10)
  clear h10 hg10 hg10' HB8 HU8 HG8
  have hq2 : ¬ ((1 : Int) + (L.length : Int) < 0) := by omega
  go_wp2_with fail
  refine (heldI_any _ _ L.length 1 (by omega) (by omega) (by omega) (OwnL.rds HG10.out)).mono ?_
  rintro e w11 ⟨rfl, rfl⟩
  go_wp2_with fail
  refine (HI.out _).mono ?_
  rintro e w13 ⟨h0, rfl, hh, hbh⟩
  have HB13 := Lib.hid (HB10.out.trans (hbh.mono HB10.out.size))
  have HU13 : Hid (OwnL w13 _ u L) := Lib.hid (OwnL.below HU10.out hbh (Nat.le_refl _))
  have HG13 : Hid (OwnL w13 _ g (seqI 1 L.length)) := Lib.hid (OwnL.below HG10.out hbh (Nat.le_refl _))
  have HH := Lib.hid hh
  clear hh hbh HB10 HU10 HG10
  go_wp2_with fail
  refine (eqI_same _ _ _ L (OwnL.rds HH.out) (OwnL.rds HU13.out) (by omega)).mono ?_
  rintro e w14 ⟨rfl, m14, rfl⟩
  go_wp2_with fail
  refine (heldI_any _ _ L.length 1 (by omega) (by omega) (by omega) ((OwnL.rds HG13.out).drewN m14)).mono ?_
  rintro e w15 ⟨rfl, rfl⟩
  go_wp2
  go_ret
  exact ⟨rfl, below_drewN HB13.out m14⟩
end Go.Proofs.Ytkmnijpiaofdmaa
