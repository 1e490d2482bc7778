/-
  The walk of the law FnExactCutLength: it returns true at all numbers. No condition.
-/
import Derived.Test.YtcebbnmpjlilbaaWcv
namespace Go.Proofs.Ytcebbnmpjlilbaa
open Go.RowKit
set_option linter.unusedVariables false

theorem PRds.grownRow {w w' : World} {v : Value} {ps : List Pc} {row : Option Nat} (h : PRds w v ps) (hg : w.grownBy w' row) (hv : 0 < ps.length → ∀ g, row = some g → v.ownBlock ≠ some g) : PRds w' v ps := by
  obtain ⟨A, c, rfl, h1⟩ := h
  refine ⟨A, c, rfl, fun h0 => ?_⟩
  obtain ⟨b, off, rfl, ha⟩ := h1 h0
  have hb : b < w.heap.size := ha.1
  have hk : w'.heap[b]? = w.heap[b]? := hg.block b hb (fun e => hv h0 b e.symm rfl)
  refine ⟨b, off, rfl, Nat.lt_of_lt_of_le hb hg.size, fun j hj => ?_⟩
  obtain ⟨k0, k1, k2⟩ := ha.2 j hj
  exact ⟨(World.cell?_of_block (w := w) (w' := w') (a := ⟨b, off + j * 3, none⟩) hk).trans k0, (World.cell?_of_block (w := w) (w' := w') (a := ⟨b, off + j * 3 + 1, none⟩) hk).trans k1, (World.cell?_of_block (w := w) (w' := w') (a := ⟨b, off + j * 3 + 2, none⟩) hk).trans k2⟩
theorem cutR_len (L M U : Int) : (cutR L M U).length ≤ 20 := by
  unfold cutR
  split
  · rename_i h
    simp only [cutB, Bool.and_eq_true, decide_eq_true_eq] at h
    exact h.2
  · simp

set_option maxHeartbeats 1600000 in
theorem fnExactCutLength_walk (L M U : Int) (w : World) :
    Calls Try.prog 4 #[.int .i64 L, .int .i64 M, .int .i64 U] w fun e w' => e = .returned (.bool true) ∧ Below w.heap.size w w' := by
  have HS := Lib.hid (fun W => sCL_any W L M U)
  have HI := Lib.hid (fun W => iCL_any W L M U)
  have hlen := cutR_len L M U
  generalize cutR L M U = R at *
  generalize cutB L M U = b at *
  have hbb : (b != b) = false := by simp
  go_enter Try.func4, Try.ntmps4
  go_wp2_with fail
  refine (HS.out _).mono ?_
  rintro e w1 ⟨u, rfl, hu, hb1⟩
  have HU1 := Lib.hid (PRds.of_own hu)
  have HUL : Hid (∀ g, u.ownBlock = some g → g < w1.heap.size) := Lib.hid (fun g hg => (World.ownsRow.lt hu g hg).2)
  have HB1 := Lib.hid hb1
  clear hu hb1
  go_wp2_with fail
  refine (HI.out _).mono ?_
  rintro e w2 ⟨g, rfl, hg, hb2⟩
  have HG2 := Lib.hid hg
  have HU2 := Lib.hid (HU1.out.more hb2)
  have HB2 := Lib.hid (HB1.out.trans (hb2.mono HB1.out.size))
  have HZ2 := Lib.hid hb2.size
  clear hg hb2
  go_wp2_with fail
  refine (eqP_same _ _ _ R (PRds.of_own HG2.out) HU2.out (by omega)).mono ?_
  rintro e w3 ⟨rfl, hb3⟩
  have HG3 : Hid (OwnP w3 w1.heap.size g R) := Lib.hid (own3_below HG2.out hb3 (fun k hk => (World.ownsRow.lt HG2.out k hk).2))
  have HU3 := Lib.hid (HU2.out.more hb3)
  have HB3 := Lib.hid (HB2.out.trans (hb3.mono HB2.out.size))
  clear hb3
  go_wp2_with fail
  refine (markP_any _ _ _ R (by omega) HG3.out).mono ?_
  rintro e w4 ⟨rfl, hm4, hg4⟩
  have HG4 := Lib.hid hm4
  have HU4 := Lib.hid (HU3.out.grownRow hg4 (fun h0 k hk hu => by
    have h1 := (World.ownsRow.lt HG3.out k hk).1
    have h2 := HUL.out k hu
    omega))
  have HB4 := Lib.hid (HB3.out.grown hg4 HB3.out.size (fun k hk => by have h1 := (World.ownsRow.lt HG3.out k hk).1; have := HB1.out.size; omega))
  have HZ4 := Lib.hid hg4.size
  clear hm4 hg4
  go_wp2_with fail
  refine (heldP_any _ _ R.length (by omega) (PRds.of_own HG4.out)).mono ?_
  rintro e w5 ⟨rfl, rfl⟩
  have hd1 : decide ((1 : Int) + 3 * (R.length : Int) < 0) = false := by simp; omega
  have hd2 : ((1 : Int) + 3 * (R.length : Int) != 1 + 3 * (R.length : Int)) = false := by simp
  go_wp2_with fail
  refine (HI.out _).mono ?_
  rintro e w6 ⟨h, rfl, hh, hb6⟩
  have HH6 := Lib.hid (PRds.of_own hh)
  have HU6 := Lib.hid (HU4.out.more hb6)
  have HG6 : Hid (OwnP w6 w1.heap.size g (mk3 R.length)) := Lib.hid (own3_below HG4.out hb6 (fun k hk => (World.ownsRow.lt HG4.out k hk).2))
  have HB6 := Lib.hid (HB4.out.trans (hb6.mono HB4.out.size))
  clear hh hb6
  go_wp2_with fail
  refine (eqP_same _ _ _ R HH6.out HU6.out (by omega)).mono ?_
  rintro e w7 ⟨rfl, hb7⟩
  have HG7 : Hid (OwnP w7 w1.heap.size g (mk3 R.length)) := Lib.hid (own3_below HG6.out hb7 (fun k hk => (World.ownsRow.lt HG6.out k hk).2))
  have HB7 := Lib.hid (HB6.out.trans (hb7.mono HB6.out.size))
  clear hb7
  go_wp2_with fail
  refine (heldP_any _ _ R.length (by omega) (PRds.of_own HG7.out)).mono ?_
  rintro e w8 ⟨rfl, rfl⟩
  go_wp2
  go_ret
  exact ⟨rfl, HB7.out⟩
end Go.Proofs.Ytcebbnmpjlilbaa
