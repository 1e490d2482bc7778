/-
  The walks of the laws' functions that measure and compare fields. Conditions: where the lists lie, and the lengths that are typed.
-/
import Derived.Test.YthogkhifgkgplaaDoorWpf
import Derived.Deep.Cut
import Derived.Deep.RegionWith
namespace Go.Proofs.YthogkhifgkgplaaDoor
open Go.RowKit
set_option linter.unusedVariables false

/-- The bytes of all fields. -/
def allF (L : List Fd) : Nat := (L.map fun f => f.b.length).sum
theorem allF_snoc (L : List Fd) (k : Nat) (h : k < L.length) : allF (L.take (k + 1)) = allF (L.take k) + (L.getD k f0).b.length := by
  rw [takeF_snoc L k h]; simp [allF]
theorem allF_take_le (L : List Fd) (k : Nat) (h : k < L.length) : allF (L.take k) + (L.getD k f0).b.length ≤ allF L := by
  rw [← allF_snoc L k h]
  have e : allF L = allF (L.take (k + 1)) + allF (L.drop (k + 1)) := by
    conv => lhs; rw [← List.take_append_drop (k + 1) L]
    unfold allF
    rw [List.map_append, List.sum_append]
  omega

/-- What is left of room behind n numbers. -/
def szR (l : Int) (n : Nat) : Int := if l - (n : Int) < 0 then -1 else l - (n : Int)
def SzfPost (L : List Fd) (w : World) (e : Ending) (w' : World) : Prop := ∃ r : Int, e = .returned (.int .i64 r) ∧ Below w.heap.size w w' ∧ (r = -1 ∨ (0 ≤ r ∧ r ≤ 1048576 ∧ L.length + allF L ≤ 1048576))

set_option maxHeartbeats 1600000 in
theorem eqF_same (t : Int) (b : List Int) (v u : Value) (w : World) (h : Rds w v b) (h2 : Rds w u b) (hn : b.length ≤ 1048576) :
    Calls Tryd.prog 24 #[.agg #[.int .i64 t, v], .agg #[.int .i64 t, u]] w fun e w' => e = .returned (.bool true) ∧ Below w.heap.size w w' := by
  have hb0 := ((Below.refl w.heap.size w).alloc (Nat.le_refl _) (.cells #[.int .i64 t, v] 48)).alloc (by simp) (.cells #[.int .i64 t, u] 48)
  have hr := h.more8 hb0
  have hr2 := h2.more8 hb0
  have k0 := (Blk.new w 48 #[.int .i64 t, v]).alloc (.cells #[.int .i64 t, u] 48)
  have k1 := Blk.new (w.alloc (.cells #[.int .i64 t, v] 48)) 48 #[.int .i64 t, u]
  rw [World.size_alloc] at k1
  obtain ⟨a0, a1⟩ := two_blk k0
  obtain ⟨b0, b1⟩ := two_blk k1
  have HBL := Lib.hid hb0
  have HR := Lib.hid hr
  have HR2 := Lib.hid hr2
  clear hb0 hr hr2 h h2 k0 k1
  go_enter Tryd.func24, Tryd.ntmps24
  go_upto_region 1 with fail
  generalize (w.alloc (.cells #[.int .i64 t, v] 48)).alloc (.cells #[.int .i64 t, u] 48) = w1 at *
  go_wp2_with fail
  refine (eqI_same w1 v u b HR.out HR2.out hn).mono ?_
  rintro e w2 ⟨rfl, m, rfl⟩
  go_wp2
  go_ret
  exact ⟨rfl, below_drewN HBL.out m⟩
end Go.Proofs.YthogkhifgkgplaaDoor
