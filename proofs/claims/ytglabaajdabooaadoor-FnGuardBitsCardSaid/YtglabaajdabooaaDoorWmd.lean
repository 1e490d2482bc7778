/-
  The walk of the program's function that takes four bits out of seven. Condition: what the two tables hold.
-/
import Derived.Test.YtglabaajdabooaaDoorWgb
import Derived.Deep.LoopGhost
namespace Go.Proofs.YtglabaajdabooaaDoor
open Go.RowKit
set_option linter.unusedVariables false

/-- The four bits among seven. -/
def four (y : Nat → UInt8) : List UInt8 := [y 2, y 4, y 5, y 6]
/-- Seven bytes as a value. -/
def sevenV (y : Nat → UInt8) : Array Value := #[.int .u8 ((y 0).toNat : Int), .int .u8 ((y 1).toNat : Int), .int .u8 ((y 2).toNat : Int), .int .u8 ((y 3).toNat : Int), .int .u8 ((y 4).toNat : Int), .int .u8 ((y 5).toNat : Int), .int .u8 ((y 6).toNat : Int)]
/-- What stands while the four are taken: the seven in their block, the tables, and what is taken so far. -/
structure Gdd (w w' : World) (y : Nat → UInt8) : Prop where
  s : ∀ j, j < 7 → w'.cell? ⟨w.heap.size, j, none⟩ = some (.int .u8 ((y j).toNat : Int))
  t : Tabs w'
  b : Below w.heap.size w w'
  z : w.heap.size < w'.heap.size
  z0 : 1 < w.heap.size
theorem Gdd.new {w : World} (h : Tabs w) (y : Nat → UInt8) (t : TypeId) : Gdd w (w.alloc (.cells (sevenV y) t)) y := by
  refine ⟨fun j hj => ?_, h.below ((Below.refl _ _).alloc (Nat.le_refl _) _) h.sz, (Below.refl _ _).alloc (Nat.le_refl _) _, by simp, h.sz⟩
  rw [cell_of_row _ w.heap.size j _ t (0, 0) (heap_alloc_new w _)]
  match j, hj with
  | 0, _ => rfl
  | 1, _ => rfl
  | 2, _ => rfl
  | 3, _ => rfl
  | 4, _ => rfl
  | 5, _ => rfl
  | 6, _ => rfl
  | n + 7, h => omega
theorem Gdd.grown {w w1 w2 : World} {y : Nat → UInt8} {row : Option Nat} (h : Gdd w w1 y) (hg : w1.grownBy w2 row) (hr : ∀ k, row = some k → w.heap.size + 1 ≤ k) : Gdd w w2 y := by
  have hb : Below (w.heap.size + 1) w1 w2 := (Below.refl _ w1).grown hg (by have := h.z; omega) hr
  exact ⟨fun j hj => (hb.cell (p := ⟨w.heap.size, j, none⟩) (by simp)).trans (h.s j hj), h.t.below hb (by have := h.z0; omega), h.b.trans (hb.mono (by omega)), Nat.lt_of_lt_of_le h.z hb.size, h.z0⟩
theorem Gdd.alloc {w w1 : World} {y : Nat → UInt8} (h : Gdd w w1 y) (o : Obj) : Gdd w (w1.alloc o) y := by
  have hb : Below (w.heap.size + 1) w1 (w1.alloc o) := (Below.refl _ _).alloc (by have := h.z; omega) _
  exact ⟨fun j hj => (hb.cell (p := ⟨w.heap.size, j, none⟩) (by simp)).trans (h.s j hj), h.t.below hb (by have := h.z0; omega), h.b.trans (hb.mono (by omega)), Nat.lt_of_lt_of_le h.z hb.size, h.z0⟩

set_option maxHeartbeats 3200000 in
theorem igr_any (w : World) (h : Tabs w) (y : Nat → UInt8) :
    Calls Tryd.prog 20 #[.agg (sevenV y)] w fun e w' => e = .returned (.string ⟨(four y).toArray⟩) ∧ Below w.heap.size w w' := by
  obtain ⟨i0, hi, hz0, hz1, hz2⟩ := info_parts info5
  have HI := Lib.hid hi
  have HZ0 := Lib.hid hz0
  have HZ1 := Lib.hid hz1
  have HZ2 := Lib.hid hz2
  have HG := Lib.hid (Gdd.new h y 31)
  clear hi hz0 hz1 hz2 h
  unfold sevenV at *
  go_enter Tryd.func20, Tryd.ntmps20
  go_wp2_with (at_make; refine wpList_make_own _ rfl _ _ 26 rfl (w.heap.size + 1) 5 i0 (.int .u8 0) 1 Tryd.underlying26 HI.out HZ0.out HZ1.out _ _ _ 4 rfl rfl rfl (by rw [HZ2.out]; omega) (by unfold maxLen; omega) (by simp) ?_; intro w1 hown1 hg1; have HG1 := Lib.hid ((HG.out).grown hg1 (by intro k hk; cases hk)); have t0 := HG1.out.t.a0; have t1 := HG1.out.t.a1; have t2 := HG1.out.t.a2; have t3 := HG1.out.t.a3; have HO1 := Lib.hid hown1; clear hown1 hg1)
  clear t0 t1 t2 t3
  go_loopg [3, 8] 4 (fun g bv iv wr => ∃ i : Nat, i ≤ 4 ∧ g = 4 - i ∧ iv = .int .i64 i ∧ wr.ownsRow (w.heap.size + 1) 5 1 bv i (cellsOf ((four y).take i)) ∧ Gdd w wr y)
  case atStart => exact ⟨0, by omega, rfl, rfl, by simpa [cellsOf, World.size_alloc] using HO1.out, HG1.out⟩
  case round =>
    obtain ⟨i, hi, hg, rfl, hown, hG⟩ := hrel
    have HGG := Lib.hid hg
    have HGD := Lib.hid hG
    have HOW := Lib.hid hown
    obtain ⟨A, cp, rfl⟩ := own_form hown
    have hzz := hG.z
    have hz0 := hG.z0
    clear hg hown
    rcases (show i = 0 ∨ i = 1 ∨ i = 2 ∨ i = 3 ∨ i = 4 from by omega) with rfl | rfl | rfl | rfl | rfl
    · have hix := idx4_0 wr
      have hcx := hG.s 2 (by omega)
      clear hG
      go_wp2_with (at_builtin; refine wpList_append_own _ rfl (.tmp 11) (.tmp 16) 26 rfl (w.heap.size + 1) 5 i0 (.int .u8 0) 1 1 Tryd.underlying26 HI.out HZ0.out HZ1.out HZ2.out rfl (by decide) _ _ _ rfl (HOW.out.alloc _) ⟨wr.heap.size, 0, none⟩ 1 1 [.int .u8 ((y 2).toNat : Int)] rfl rfl (cell_one_new _ _ _) (one_cell _ rfl) (by unfold maxLen; omega) (by omega) (by simp; omega) ?_; intro v9 w9 hown9 hg9 hnil; clear hnil)
      go_roundg 3
      case measure => have := HGG.out; omega
      case rel => exact ⟨1, by omega, rfl, rfl, by simpa [four, cellsOf] using hown9, (HGD.out.alloc _).grown hg9 (fun j hj => (HOW.out.lt j hj).1)⟩
    · have hix := idx4_1 wr
      have hcx := hG.s 4 (by omega)
      clear hG
      go_wp2_with (at_builtin; refine wpList_append_own _ rfl (.tmp 11) (.tmp 16) 26 rfl (w.heap.size + 1) 5 i0 (.int .u8 0) 1 1 Tryd.underlying26 HI.out HZ0.out HZ1.out HZ2.out rfl (by decide) _ _ _ rfl (HOW.out.alloc _) ⟨wr.heap.size, 0, none⟩ 1 1 [.int .u8 ((y 4).toNat : Int)] rfl rfl (cell_one_new _ _ _) (one_cell _ rfl) (by unfold maxLen; omega) (by omega) (by simp; omega) ?_; intro v9 w9 hown9 hg9 hnil; clear hnil)
      go_roundg 2
      case measure => have := HGG.out; omega
      case rel => exact ⟨2, by omega, rfl, rfl, by simpa [four, cellsOf] using hown9, (HGD.out.alloc _).grown hg9 (fun j hj => (HOW.out.lt j hj).1)⟩
    · have hix := idx4_2 wr
      have hcx := hG.s 5 (by omega)
      clear hG
      go_wp2_with (at_builtin; refine wpList_append_own _ rfl (.tmp 11) (.tmp 16) 26 rfl (w.heap.size + 1) 5 i0 (.int .u8 0) 1 1 Tryd.underlying26 HI.out HZ0.out HZ1.out HZ2.out rfl (by decide) _ _ _ rfl (HOW.out.alloc _) ⟨wr.heap.size, 0, none⟩ 1 1 [.int .u8 ((y 5).toNat : Int)] rfl rfl (cell_one_new _ _ _) (one_cell _ rfl) (by unfold maxLen; omega) (by omega) (by simp; omega) ?_; intro v9 w9 hown9 hg9 hnil; clear hnil)
      go_roundg 1
      case measure => have := HGG.out; omega
      case rel => exact ⟨3, by omega, rfl, rfl, by simpa [four, cellsOf] using hown9, (HGD.out.alloc _).grown hg9 (fun j hj => (HOW.out.lt j hj).1)⟩
    · have hix := idx4_3 wr
      have hcx := hG.s 6 (by omega)
      clear hG
      go_wp2_with (at_builtin; refine wpList_append_own _ rfl (.tmp 11) (.tmp 16) 26 rfl (w.heap.size + 1) 5 i0 (.int .u8 0) 1 1 Tryd.underlying26 HI.out HZ0.out HZ1.out HZ2.out rfl (by decide) _ _ _ rfl (HOW.out.alloc _) ⟨wr.heap.size, 0, none⟩ 1 1 [.int .u8 ((y 6).toNat : Int)] rfl rfl (cell_one_new _ _ _) (one_cell _ rfl) (by unfold maxLen; omega) (by omega) (by simp; omega) ?_; intro v9 w9 hown9 hg9 hnil; clear hnil)
      go_roundg 0
      case measure => have := HGG.out; omega
      case rel => exact ⟨4, by omega, rfl, rfl, by simpa [four, cellsOf] using hown9, (HGD.out.alloc _).grown hg9 (fun j hj => (HOW.out.lt j hj).1)⟩
    · clear hG
      have hcv := own_text (P := Tryd.prog) (src := 26) (dst := 9) Tryd.underlying26 Tryd.underlying5 Tryd.underlying9 (l := four y) (show wr.ownsRow (w.heap.size + 1) 5 1 (.slice A 4 cp) (four y).length (cellsOf (four y)) from HOW.out)
      go_wp2
      go_ret
      exact ⟨rfl, HGD.out.b⟩
end Go.Proofs.YtglabaajdabooaaDoor
