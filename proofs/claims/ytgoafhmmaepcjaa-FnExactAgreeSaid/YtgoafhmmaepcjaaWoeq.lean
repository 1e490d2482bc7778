/-
  The walk of the laws' comparison of offers. Conditions: where the lists of needs lie, and their length.
-/
import Derived.Test.YtgoafhmmaepcjaaWoto
import Derived.Deep.RegionWith
namespace Go.Proofs.Ytgoafhmmaepcjaa
open Go.RowKit
set_option linter.unusedVariables false

set_option maxHeartbeats 1600000 in
theorem eqO_same (o : Ofr) (v u : Value) (w : World) (h : Rds w v o.nd) (h2 : Rds w u o.nd) (hn : o.nd.length ≤ 1048576) :
    Calls Try.prog 21 #[ofv o v, ofv o u] w fun e w' => e = .returned (.bool true) ∧ Below w.heap.size w w' := by
  obtain ⟨lo, hi, ca, nd⟩ := o
  simp only at h h2 hn
  unfold ofv
  simp only
  have hb0 := ((Below.refl w.heap.size w).alloc (Nat.le_refl _) (.cells #[.int .i64 lo, .int .i64 hi, .int .i64 ca, v] 34)).alloc (by simp) (.cells #[.int .i64 lo, .int .i64 hi, .int .i64 ca, u] 34)
  have hr := h.more6 hb0
  have hr2 := h2.more6 hb0
  have k0 := (Blk.new w 34 #[.int .i64 lo, .int .i64 hi, .int .i64 ca, v]).alloc (.cells #[.int .i64 lo, .int .i64 hi, .int .i64 ca, u] 34)
  have k1 := Blk.new (w.alloc (.cells #[.int .i64 lo, .int .i64 hi, .int .i64 ca, v] 34)) 34 #[.int .i64 lo, .int .i64 hi, .int .i64 ca, u]
  rw [World.size_alloc] at k1
  obtain ⟨a0, a1, a2, a3⟩ := k0.c4
  obtain ⟨b0, b1, b2, b3⟩ := k1.c4
  have HBL := Lib.hid hb0
  have HR := Lib.hid hr
  have HR2 := Lib.hid hr2
  clear hb0 hr hr2 h h2 k0 k1
  go_enter Try.func21, Try.ntmps21
  go_upto_region 1 with fail
  generalize (w.alloc (.cells #[.int .i64 lo, .int .i64 hi, .int .i64 ca, v] 34)).alloc (.cells #[.int .i64 lo, .int .i64 hi, .int .i64 ca, u] 34) = w1 at *
  go_wp2_with fail
  refine (eqI_same w1 v u nd HR.out HR2.out hn).mono ?_
  rintro e w2 ⟨rfl, m, rfl⟩
  go_wp2
  go_ret
  exact ⟨rfl, below_drewN HBL.out m⟩
end Go.Proofs.Ytgoafhmmaepcjaa
