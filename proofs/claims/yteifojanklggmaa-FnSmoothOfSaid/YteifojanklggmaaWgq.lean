/-
  The walk of a queue that lets loads through. Conditions: where it lies, and the bounds that are typed.
-/
import Derived.Test.YteifojanklggmaaWgt
import Derived.RegionTactic
import Derived.ChangeAlike
namespace Go.Proofs.Yteifojanklggmaa
open Go.RowKit
set_option linter.unusedVariables false

/-- A queue at block g. -/
def Que (w : World) (g : Nat) (r t m : Int) : Prop := Blk w g 58 #[.int .i64 r, .int .i64 t, .int .i64 m]

set_option maxHeartbeats 1600000 in
theorem qlt_any (w : World) (g : Nat) (r t m x : Int) (hr : 1 ≤ r ∧ r ≤ 30) (ht : 0 ≤ t ∧ t ≤ 20000) (hm : 0 ≤ m ∧ m ≤ 20000) (hx : 0 ≤ x ∧ x ≤ 30) (hb : Que w g r t m) :
    Calls Try.prog 62 #[.pointer (some ⟨g, 0, none⟩), .int .i64 x] w
      fun e w' => e = .returned (.int .i64 (min (t + x) r)) ∧ Que w' g r (t + x - min (t + x) r) (max m (t + x - min (t + x) r)) ∧ w.grownBy w' (some g) := by
  obtain ⟨w1, hw1⟩ : ∃ w1, w1 = w.setCell ⟨g, 1, none⟩ (.int .i64 (t + x)) := ⟨_, rfl⟩
  have hb1 : Que w1 g r (t + x) m := by rw [hw1]; exact Blk.set_ hb 1 _
  have hg1 : w.grownBy w1 (some g) := by rw [hw1]; exact grown_set (World.grownBy.refl _ _)
  have c0 := Blk.cell hb 0
  have c1 := Blk.cell hb 1
  have f1 := Blk.frozen hb 1
  have d0 := Blk.cell hb1 0
  have d1 := Blk.cell hb1 1
  have hlt := Blk.lt hb1
  simp at c0 c1 d0 d1
  have hw := IntWalk.i64_in (t + x) (by omega)
  obtain ⟨M, hM⟩ : ∃ M, M = min (t + x) r := ⟨_, rfl⟩
  have hMb : 0 ≤ M ∧ M ≤ t + x ∧ M ≤ 30 := by omega
  obtain ⟨C, hC⟩ : ∃ C, C = max m (t + x - M) := ⟨_, rfl⟩
  rw [← hM, ← hC]
  have HL : Hid (Calls Try.prog 61 #[.int .i64 (t + x), .slice (some ⟨w1.heap.size, 0, none⟩) 1 1] (w1.alloc (.cells #[.int .i64 r] 3)).drew fun e w' => e = .returned (.int .i64 M) ∧ (w1.alloc (.cells #[.int .i64 r] 3)).drew = w') := by
    rw [hM]; exact Lib.hid (lst2_any (t + x) r w1.heap.size 1 (w1.alloc (.cells #[.int .i64 r] 3)).drew (new1_cell w1 _ _))
  have HB : Hid (Que ((w1.alloc (.cells #[.int .i64 r] 3)).drew) g r (t + x) m ∧ w.grownBy ((w1.alloc (.cells #[.int .i64 r] 3)).drew) (some g)) :=
    Lib.hid ⟨Blk.alloc hb1 _, grown_drew (grown_alloc hg1)⟩
  have HC := Lib.hid hC
  have HW1 := Lib.hid hw1
  clear hb hb1 hg1 hM hC hw1
  go_enter Try.func62, Try.ntmps62
  go_wp2_with fail
  rw [← HW1.out]
  go_region_with (go_at_call 61; refine HL.out.mono ?_; rintro e w' ⟨rfl, rfl⟩)
  all_goals
    clear c0 c1 f1 d0 d1 hlt HL
    generalize (w1.alloc (.cells #[.int .i64 r] 3)).drew = w2 at *
    have k1 := Blk.cell HB.out.1 1
    have l1 := Blk.frozen HB.out.1 1
    simp at k1
    obtain ⟨w3, hw3⟩ : ∃ w3, w3 = w2.setCell ⟨g, 1, none⟩ (.int .i64 (t + x - M)) := ⟨_, rfl⟩
    have hb3 : Que w3 g r (t + x - M) m := by rw [hw3]; exact Blk.set_ HB.out.1 1 _
    have hg3 : w.grownBy w3 (some g) := by rw [hw3]; exact grown_set HB.out.2
    have HW3 := Lib.hid hw3
    have e1 := Blk.cell hb3 1
    have e2 := Blk.cell hb3 2
    have g2 := Blk.frozen hb3 2
    simp at e1 e2
    have hmx := run_maxD m (t + x - M) C HC.out
    have HB3 := Lib.hid hb3
    have HG3 := Lib.hid hg3
    clear hb3 hg3 hw3
    go_wp2_with fail
    rw [← HW3.out]
    go_region
    all_goals
      go_wp2
      go_ret
      exact ⟨rfl, Blk.set_ HB3.out 2 _, grown_drew (grown_set HG3.out)⟩
end Go.Proofs.Yteifojanklggmaa
