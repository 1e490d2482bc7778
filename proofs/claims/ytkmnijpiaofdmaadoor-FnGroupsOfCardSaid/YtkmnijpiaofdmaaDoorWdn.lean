/-
  The walks of what draws one number. No condition but that the code is a list that can be.
-/
import Derived.Test.YtkmnijpiaofdmaaDoorWnr
import Derived.Test.YtkmnijpiaofdmaaDoorIrow
namespace Go.Proofs.YtkmnijpiaofdmaaDoor
open Go.RowKit
set_option linter.unusedVariables false

set_option maxHeartbeats 1600000 in
theorem dgo_any (w : World) (a : Option Addr) (len cap : Nat) (zs : List Int) (h : IsRow .u8 w a len cap zs) :
    Calls Tryd.prog 6 #[.slice a len cap] w fun e w' => ∃ x : Int, e = .returned (.int .i64 x) ∧ Below w.heap.size w w' := by
  have H := Lib.hid (nr_any w a len cap zs h)
  clear h
  go_enter Tryd.func6, Tryd.ntmps6
  go_wp2_with fail
  refine H.out.mono ?_
  rintro e w0 ⟨rfl, hr0, hb0, hsz⟩
  have hs0 : w.heap.size < w0.heap.size := by omega
  clear hsz
  have HR0 := Lib.hid hr0
  clear hr0 H
  go_wp2_with fail
  refine (pick_any HR0.out (by omega) 256 (by omega) (by omega)).mono ?_
  rintro e w1 ⟨r, m, rfl, hr, hw⟩
  have hr1 : Rd w.heap.size w1 w.heap.size 1 := by rw [hw]; exact HR0.out.picked m
  have hb1 : Below w.heap.size w w1 := by rw [hw]; exact hb0.trans (picked_below HR0.out m)
  have hs1 : w.heap.size < w1.heap.size := by rw [hw, picked_size]; exact hs0
  have HR1 := Lib.hid hr1
  clear hw hr1 hb0 hs0 HR0
  go_wp2_with fail
  refine (pick_any HR1.out (by omega) 256 (by omega) (by omega)).mono ?_
  rintro e w2 ⟨s, m, rfl, hs, hw⟩
  have hr2 : Rd w.heap.size w2 w.heap.size 2 := by rw [hw]; exact HR1.out.picked m
  have hb2 : Below w.heap.size w w2 := by rw [hw]; exact hb1.trans (picked_below HR1.out m)
  have hs2 : w.heap.size < w2.heap.size := by rw [hw, picked_size]; exact hs1
  have HR2 := Lib.hid hr2
  clear hw hr2 hb1 hs1 HR1
  go_wp2_with fail
  refine (pick_any HR2.out (by omega) 256 (by omega) (by omega)).mono ?_
  rintro e w3 ⟨c, m, rfl, hc, hw⟩
  have hr3 : Rd w.heap.size w3 w.heap.size 3 := by rw [hw]; exact HR2.out.picked m
  have hb3 : Below w.heap.size w w3 := by rw [hw]; exact hb2.trans (picked_below HR2.out m)
  have hs3 : w.heap.size < w3.heap.size := by rw [hw, picked_size]; exact hs2
  have HR3 := Lib.hid hr3
  clear hw hr3 hb2 hs2 HR2
  go_wp2_with fail
  refine (pick_any HR3.out (by omega) 256 (by omega) (by omega)).mono ?_
  rintro e w4 ⟨d, m, rfl, hd, hw⟩
  have hr4 : Rd w.heap.size w4 w.heap.size 4 := by rw [hw]; exact HR3.out.picked m
  have hb4 : Below w.heap.size w w4 := by rw [hw]; exact hb3.trans (picked_below HR3.out m)
  have hs4 : w.heap.size < w4.heap.size := by rw [hw, picked_size]; exact hs3
  have HR4 := Lib.hid hr4
  clear hw hr4 hb3 hs3 HR3
  go_wp2_with fail
  refine (pick_any HR4.out (by omega) 100 (by omega) (by omega)).mono ?_
  rintro e w5 ⟨q, m, rfl, hq, hw⟩
  have hr5 : Rd w.heap.size w5 w.heap.size 5 := by rw [hw]; exact HR4.out.picked m
  have hb5 : Below w.heap.size w w5 := by rw [hw]; exact hb4.trans (picked_below HR4.out m)
  have hs5 : w.heap.size < w5.heap.size := by rw [hw, picked_size]; exact hs4
  have HR5 := Lib.hid hr5
  clear hw hr5 hb4 hs4 HR4
  go_wp2_with fail
  refine (one_any (HR5.out.alloc _) (by omega) w5.heap.size 8 8 [(r : Int), 128 * (s : Int), wrap64 ((c : Int) * (d : Int)), 16384 + (q : Int), 1000000, 1000001, -1, 0] rfl (by omega) (by omega) (by omega) (new_ints w5 [(r : Int), 128 * (s : Int), wrap64 ((c : Int) * (d : Int)), 16384 + (q : Int), 1000000, 1000001, -1, 0] _)).mono ?_
  rintro e w9 ⟨x, m, rfl, hx, hw⟩
  have hb9 : Below w.heap.size w w9 := by rw [hw]; exact (hb5.alloc (by omega) _).trans (picked_below (HR5.out.alloc _) m)
  clear hw
  go_wp2
  go_ret
  exact ⟨x, rfl, hb9⟩
end Go.Proofs.YtkmnijpiaofdmaaDoor
