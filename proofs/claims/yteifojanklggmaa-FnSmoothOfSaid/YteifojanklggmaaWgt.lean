/-
  The walks of a bucket and of a queue that let loads through. Conditions: where they lie, and the bounds that are typed.
-/
import Derived.Test.YteifojanklggmaaWlo
import Derived.Test.YteifojanklggmaaFbk
import Derived.Test.YteifojanklggmaaWhq
import Derived.Deep.RegionWith
import Derived.BigRegion
namespace Go.Proofs.Yteifojanklggmaa
open Go.RowKit
set_option linter.unusedVariables false

theorem grown_set {w w' : World} {g i : Nat} {u : Value} (h : w.grownBy w' (some g)) : w.grownBy (w'.setCell ⟨g, i, none⟩ u) (some g) :=
  ⟨h.os, h.tape, h.output, by simpa [World.setCell] using h.size, fun j hj hn => (Below.heap_setCell w' ⟨g, i, none⟩ u j (fun e => hn (by rw [e]))).trans (h.block j hj hn)⟩
theorem grown_alloc {w w' : World} {row : Option Nat} {o : Obj} (h : w.grownBy w' row) : w.grownBy (w'.alloc o) row :=
  ⟨h.os, h.tape, h.output, by have := h.size; simp; omega, fun j hj hn => (Below.heap_alloc w' o j (Nat.lt_of_lt_of_le hj h.size)).trans (h.block j hj hn)⟩
theorem grown_drew {w w' : World} {row : Option Nat} (h : w.grownBy w' row) : w.grownBy w'.drew row := ⟨h.os, h.tape, h.output, h.size, h.block⟩
/-- A bucket at block g. -/
def Bkt (w : World) (g : Nat) (r d h : Int) : Prop := Blk w g 51 #[.int .i64 r, .int .i64 d, .int .i64 h]

set_option maxHeartbeats 1600000 in
theorem blt_any (w : World) (g : Nat) (r d h x : Int) (hr : 0 ≤ r ∧ r ≤ 30) (hd : 0 ≤ d ∧ d ≤ 200) (hh : 0 ≤ h ∧ h ≤ 200) (hx : 0 ≤ x ∧ x ≤ 30) (hb : Bkt w g r d h) :
    Calls Try.prog 60 #[.pointer (some ⟨g, 0, none⟩), .int .i64 x] w
      fun e w' => e = .returned (.int .i64 (if x ≤ min (h + r) d then x else 0)) ∧ Bkt w' g r d (if x ≤ min (h + r) d then min (h + r) d - x else min (h + r) d) ∧ w.grownBy w' (some g) := by
  have c0 := Blk.cell hb 0
  have c1 := Blk.cell hb 1
  have c2 := Blk.cell hb 2
  have f2 := Blk.frozen hb 2
  have hlt := Blk.lt hb
  simp at c0 c1 c2
  have hw : IntKind.i64.wrap (h + r) = h + r := IntWalk.i64_in _ (by omega)
  obtain ⟨M, hM⟩ : ∃ M, M = min (h + r) d := ⟨_, rfl⟩
  have hMb : 0 ≤ M ∧ M ≤ 200 := by omega
  have HL : Hid (Calls Try.prog 61 #[.int .i64 (h + r), .slice (some ⟨w.heap.size, 0, none⟩) 1 1] (w.alloc (.cells #[.int .i64 d] 3)).drew fun e w' => e = .returned (.int .i64 M) ∧ (w.alloc (.cells #[.int .i64 d] 3)).drew = w') := by
    rw [hM]; exact Lib.hid (lst2_any (h + r) d w.heap.size 1 (w.alloc (.cells #[.int .i64 d] 3)).drew (new1_cell w _ _))
  rw [← hM]
  have HB : Hid (Bkt (((w.setCell ⟨g, 2, none⟩ (.int .i64 M)).alloc (.cells #[.int .i64 d] 3)).drew) g r d M ∧ w.grownBy (((w.setCell ⟨g, 2, none⟩ (.int .i64 M)).alloc (.cells #[.int .i64 d] 3)).drew) (some g)) :=
    Lib.hid ⟨Blk.alloc (Blk.set_ hb 2 _) _, grown_drew (grown_alloc (grown_set (World.grownBy.refl _ _)))⟩
  obtain ⟨A, hA⟩ : ∃ A, A = (if x ≤ M then x else 0) := ⟨_, rfl⟩
  obtain ⟨C, hC⟩ : ∃ C, C = (if x ≤ M then M - x else M) := ⟨_, rfl⟩
  rw [← hA, ← hC]
  have HA := Lib.hid hA
  have HC := Lib.hid hC
  clear hb hM hA hC
  go_enter Try.func60, Try.ntmps60
  go_wp2_with fail
  go_region_with (go_at_call 61; refine HL.out.mono ?_; rintro e w' ⟨rfl, rfl⟩)
  all_goals
    generalize ((w.setCell ⟨g, 2, none⟩ (.int .i64 M)).alloc (.cells #[.int .i64 d] 3)).drew = w2 at *
    have k2 := Blk.cell HB.out.1 2
    have l2 := Blk.frozen HB.out.1 2
    simp at k2
    by_cases hp : x ≤ M
    · have eA : A = x := HA.out.trans (if_pos hp)
      have eC : C = M - x := HC.out.trans (if_pos hp)
      have EA := Lib.hid eA
      have EC := Lib.hid eC
      clear eA eC
      go_wp2
      go_ret
      exact ⟨ret_int EA.out.symm, by rw [EC.out]; exact Blk.set_ HB.out.1 2 _, grown_set HB.out.2⟩
    · have eA : A = 0 := HA.out.trans (if_neg hp)
      have eC : C = M := HC.out.trans (if_neg hp)
      have EA := Lib.hid eA
      have EC := Lib.hid eC
      clear eA eC
      go_wp2
      go_ret
      exact ⟨ret_int EA.out.symm, by rw [EC.out]; exact HB.out.1, HB.out.2⟩
end Go.Proofs.Yteifojanklggmaa
