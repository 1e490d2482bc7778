/-
  The walks of what draws one number. No condition but that the code is a list that can be.
-/
import Derived.Test.YtgoafhmmaepcjaaWnr
import Derived.Test.YtgoafhmmaepcjaaIrow
namespace Go.Proofs.Ytgoafhmmaepcjaa
open Go.RowKit
set_option linter.unusedVariables false

set_option maxHeartbeats 1600000 in
theorem dfs_any (w : World) (a : Option Addr) (len cap : Nat) (zs : List Int) (h : IsRow .u8 w a len cap zs) :
    Calls Try.prog 15 #[.slice a len cap] w fun e w' => ∃ x : Int, e = .returned (.int .i64 x) ∧ Below w.heap.size w w' := by
  have H := Lib.hid (nr_any w a len cap zs h)
  clear h
  go_enter Try.func15, Try.ntmps15
  go_wp2_with fail
  refine H.out.mono ?_
  rintro e w0 ⟨rfl, hr0, hb0, hsz⟩
  have hs0 : w.heap.size < w0.heap.size := by omega
  clear hsz
  have HR0 := Lib.hid hr0
  clear hr0 H
  go_wp2_with fail
  refine (pick_any HR0.out (by omega) 256 (by omega) (by omega)).mono ?_
  rintro e w1 ⟨r, m, rfl, hr, hw⟩
  have hr1 : Rd w.heap.size w1 w.heap.size 1 := by rw [hw]; exact HR0.out.picked m
  have hb1 : Below w.heap.size w w1 := by rw [hw]; exact hb0.trans (picked_below HR0.out m)
  have hs1 : w.heap.size < w1.heap.size := by rw [hw, picked_size]; exact hs0
  have HR1 := Lib.hid hr1
  clear hw hr1 hb0 hs0 HR0
  go_wp2_with fail
  refine (pick_any HR1.out (by omega) 256 (by omega) (by omega)).mono ?_
  rintro e w2 ⟨s, m, rfl, hs, hw⟩
  have hr2 : Rd w.heap.size w2 w.heap.size 2 := by rw [hw]; exact HR1.out.picked m
  have hb2 : Below w.heap.size w w2 := by rw [hw]; exact hb1.trans (picked_below HR1.out m)
  have hs2 : w.heap.size < w2.heap.size := by rw [hw, picked_size]; exact hs1
  have HR2 := Lib.hid hr2
  clear hw hr2 hb1 hs1 HR1
  go_wp2_with fail
  refine (one_any (HR2.out.alloc _) (by omega) w2.heap.size 6 6 [(r : Int), -(s : Int), -1000000, 1000000, 1000001, -1000001] rfl (by omega) (by omega) (by omega) (new_ints w2 [(r : Int), -(s : Int), -1000000, 1000000, 1000001, -1000001] _)).mono ?_
  rintro e w9 ⟨x, m, rfl, hx, hw⟩
  have hb9 : Below w.heap.size w w9 := by rw [hw]; exact (hb2.alloc (by omega) _).trans (picked_below (HR2.out.alloc _) m)
  clear hw
  go_wp2
  go_ret
  exact ⟨x, rfl, hb9⟩
set_option maxHeartbeats 1600000 in
theorem dus_any (w : World) (a : Option Addr) (len cap : Nat) (zs : List Int) (h : IsRow .u8 w a len cap zs) :
    Calls Try.prog 16 #[.slice a len cap] w fun e w' => ∃ x : Int, e = .returned (.int .i64 x) ∧ Below w.heap.size w w' := by
  have H := Lib.hid (nr_any w a len cap zs h)
  clear h
  go_enter Try.func16, Try.ntmps16
  go_wp2_with fail
  refine H.out.mono ?_
  rintro e w0 ⟨rfl, hr0, hb0, hsz⟩
  have hs0 : w.heap.size < w0.heap.size := by omega
  clear hsz
  have HR0 := Lib.hid hr0
  clear hr0 H
  go_wp2_with fail
  refine (pick_any HR0.out (by omega) 256 (by omega) (by omega)).mono ?_
  rintro e w1 ⟨r, m, rfl, hr, hw⟩
  have hr1 : Rd w.heap.size w1 w.heap.size 1 := by rw [hw]; exact HR0.out.picked m
  have hb1 : Below w.heap.size w w1 := by rw [hw]; exact hb0.trans (picked_below HR0.out m)
  have hs1 : w.heap.size < w1.heap.size := by rw [hw, picked_size]; exact hs0
  have HR1 := Lib.hid hr1
  clear hw hr1 hb0 hs0 HR0
  go_wp2_with fail
  refine (pick_any HR1.out (by omega) 256 (by omega) (by omega)).mono ?_
  rintro e w2 ⟨s, m, rfl, hs, hw⟩
  have hr2 : Rd w.heap.size w2 w.heap.size 2 := by rw [hw]; exact HR1.out.picked m
  have hb2 : Below w.heap.size w w2 := by rw [hw]; exact hb1.trans (picked_below HR1.out m)
  have hs2 : w.heap.size < w2.heap.size := by rw [hw, picked_size]; exact hs1
  have HR2 := Lib.hid hr2
  clear hw hr2 hb1 hs1 HR1
  go_wp2_with fail
  refine (one_any (HR2.out.alloc _) (by omega) w2.heap.size 6 6 [(r : Int), 256 * (s : Int), 1999999, 2000000, 2000001, -1] rfl (by omega) (by omega) (by omega) (new_ints w2 [(r : Int), 256 * (s : Int), 1999999, 2000000, 2000001, -1] _)).mono ?_
  rintro e w9 ⟨x, m, rfl, hx, hw⟩
  have hb9 : Below w.heap.size w w9 := by rw [hw]; exact (hb2.alloc (by omega) _).trans (picked_below (HR2.out.alloc _) m)
  clear hw
  go_wp2
  go_ret
  exact ⟨x, rfl, hb9⟩
end Go.Proofs.Ytgoafhmmaepcjaa
