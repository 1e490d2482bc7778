/-
  The walks of what draws a text that may be bent. Conditions: where the reader lies, and the bounds that are typed.
-/
import Derived.Test.YtogoedjcacnfcaaDoorWsome
import Derived.Deep.RegionWith
namespace Go.Proofs.YtogoedjcacnfcaaDoor
open Go.RowKit
set_option linter.unusedVariables false

theorem mut_below {B : Nat} {w w2 w3 : World} {g p m : Nat} {o : Obj} (hb : Below B w w2) (hr : Hid (Rd B w2 g p)) (h : w3 = picked (w2.alloc o).drew g p m) : Below B w w3 := by
  rw [h]
  exact (hb.alloc (by have := hr.out.lt; have := hr.out.1; omega) o).drew.trans (picked_below (hr.out.alloc o).drew m)
theorem mut_size {x : ByteArray} (hx : x ∈ [(⟨#[48]⟩ : ByteArray), ⟨#[49]⟩, ⟨#[50]⟩, ⟨#[44]⟩, ⟨#[120]⟩, ⟨#[32]⟩]) : x.size ≤ 1 := by
  simp only [List.mem_cons, List.not_mem_nil, or_false] at hx
  rcases hx with rfl | rfl | rfl | rfl | rfl | rfl <;> decide

set_option maxHeartbeats 1600000 in
theorem mut_any {B : Nat} {w : World} {g p : Nat} (h : Rd B w g p) (hp : p ≤ 900000) (s : ByteArray) (hs : s.size ≤ 900) :
    Calls Tryd.prog 29 #[.pointer (some ⟨g, 0, none⟩), .string s] w
      fun e w' => ∃ (t : ByteArray), e = .returned (.string t) ∧ t.size ≤ s.size + 1 ∧ Below B w w' := by
  have hgl := h.lt
  have hBg := h.1
  go_enter Tryd.func29, Tryd.ntmps29
  go_wp2_with fail
  refine (pick_any h (by omega) ((s.size : Int) + 1) (by omega) (by omega)).mono ?_
  rintro e w1 ⟨k, m, rfl, hk, hw1⟩
  have hr1 : Rd B w1 g (p + 1) := by rw [hw1]; exact h.picked m
  have hb1 : Below B w w1 := by rw [hw1]; exact picked_below h m
  clear hw1
  go_wp2_with fail
  refine (pick_any hr1 (by omega) 5 (by omega) (by omega)).mono ?_
  rintro e w2 ⟨c, m, rfl, hc, hw2⟩
  have hr2 : Rd B w2 g (p + 1 + 1) := by rw [hw2]; exact hr1.picked m
  have hb2 : Below B w w2 := by rw [hw2]; exact hb1.trans (picked_below hr1 m)
  have hgl2 := hr2.lt
  have HR2 := Lib.hid hr2
  clear hw2 hr1 hb1 h hr2
  rcases (show c = 0 ∨ c = 1 ∨ c = 2 ∨ c = 3 ∨ c = 4 from by omega) with rfl | rfl | rfl | rfl | rfl
  · by_cases hks : k < s.size
    · have hki : (k : Int) < (s.size : Int) := by omega
      have hrem : (0 : Int) ≤ (k : Int) + 1 ∧ (k : Int) + 1 ≤ (s.size : Int) := by omega
      go_wp2_with fail
      have q1 : IntKind.i64.wrap ((k : Int) + 1) = (k : Int) + 1 := wrap_id _ (by omega)
      have q2 : ((k : Int) + 1).toNat = k + 1 := by omega
      have q3 : (0 : Int) ≤ (k : Int) + 1 := by omega
      have q4 : (k : Int) + 1 ≤ (s.size : Int) := by omega
      have q5 : k + 1 ≤ s.size := by omega
      have q6 : k ≤ s.size := by omega
      have q7 : ¬ ((k : Int) + 1 < 0) := by omega
      have q8 : ¬ ((s.size : Int) < (k : Int) + 1) := by omega
      have hx1 : (s.extract 0 k).size ≤ k := by rw [ByteArray.size_extract]; omega
      have hx2 : (s.extract (k + 1) s.size).size ≤ s.size - (k + 1) := by rw [ByteArray.size_extract]; omega
      go_region_with (go_at_call 35; refine (of_any (HR2.out.alloc _).drew (by omega) w2.heap.size 6 6 [⟨#[48]⟩, ⟨#[49]⟩, ⟨#[50]⟩, ⟨#[44]⟩, ⟨#[120]⟩, ⟨#[32]⟩] rfl (by omega) (by omega) (by omega) (new_strs w2 [⟨#[48]⟩, ⟨#[49]⟩, ⟨#[50]⟩, ⟨#[44]⟩, ⟨#[120]⟩, ⟨#[32]⟩] _)).mono ?_; rintro e w3 ⟨x, m3, rfl, hx, hw3⟩; have hb3 := mut_below hb2 HR2 hw3; have hxl := mut_size hx; clear hw3 hx; have ha1 := fun W => run_string_add_sum (P := Tryd.prog) W (s.extract 0 k) x (by omega); have ha2 := fun W => run_string_add_sum (P := Tryd.prog) W (s.extract 0 k ++ x) (s.extract (k + 1) s.size) (by rw [ByteArray.size_append]; omega); generalize s.extract 0 k = s1 at *; generalize s.extract (k + 1) s.size = s2 at *)
      go_wp2
      go_ret
      refine ⟨_, rfl, ?_, hb3⟩
      rw [ByteArray.size_append, ByteArray.size_append]; omega
    · go_wp2
      go_ret
      exact ⟨_, rfl, by omega, hb2⟩
  · by_cases hks : k < s.size
    · have hki : (k : Int) < (s.size : Int) := by omega
      have hrem : (0 : Int) ≤ (k : Int) + 1 ∧ (k : Int) + 1 ≤ (s.size : Int) := by omega
      go_wp2_with fail
      have q1 : IntKind.i64.wrap ((k : Int) + 1) = (k : Int) + 1 := wrap_id _ (by omega)
      have q2 : ((k : Int) + 1).toNat = k + 1 := by omega
      have q3 : (0 : Int) ≤ (k : Int) + 1 := by omega
      have q4 : (k : Int) + 1 ≤ (s.size : Int) := by omega
      have q5 : k + 1 ≤ s.size := by omega
      have q6 : k ≤ s.size := by omega
      have q7 : ¬ ((k : Int) + 1 < 0) := by omega
      have q8 : ¬ ((s.size : Int) < (k : Int) + 1) := by omega
      have hx1 : (s.extract 0 k).size ≤ k := by rw [ByteArray.size_extract]; omega
      have hx2 : (s.extract (k + 1) s.size).size ≤ s.size - (k + 1) := by rw [ByteArray.size_extract]; omega
      go_region_with (go_at_call 35; refine (of_any (HR2.out.alloc _).drew (by omega) w2.heap.size 6 6 [⟨#[48]⟩, ⟨#[49]⟩, ⟨#[50]⟩, ⟨#[44]⟩, ⟨#[120]⟩, ⟨#[32]⟩] rfl (by omega) (by omega) (by omega) (new_strs w2 [⟨#[48]⟩, ⟨#[49]⟩, ⟨#[50]⟩, ⟨#[44]⟩, ⟨#[120]⟩, ⟨#[32]⟩] _)).mono ?_; rintro e w3 ⟨x, m3, rfl, hx, hw3⟩; have hb3 := mut_below hb2 HR2 hw3; have hxl := mut_size hx; clear hw3 hx; have ha1 := fun W => run_string_add_sum (P := Tryd.prog) W (s.extract 0 k) x (by omega); have ha2 := fun W => run_string_add_sum (P := Tryd.prog) W (s.extract 0 k ++ x) (s.extract (k + 1) s.size) (by rw [ByteArray.size_append]; omega); generalize s.extract 0 k = s1 at *; generalize s.extract (k + 1) s.size = s2 at *)
      go_wp2
      go_ret
      refine ⟨_, rfl, ?_, hb3⟩
      rw [ByteArray.size_append, ByteArray.size_append]; omega
    · go_wp2
      go_ret
      exact ⟨_, rfl, by omega, hb2⟩
  · go_wp2
    go_ret
    exact ⟨_, rfl, by rw [ByteArray.size_extract]; omega, hb2⟩
  · go_wp2_with fail
    refine (of_any (HR2.out.alloc _) (by omega) w2.heap.size 4 4 [⟨#[48]⟩, ⟨#[49]⟩, ⟨#[32]⟩, ⟨#[120]⟩] rfl (by omega) (by omega) (by omega) (new_strs w2 [⟨#[48]⟩, ⟨#[49]⟩, ⟨#[32]⟩, ⟨#[120]⟩] _)).mono ?_
    rintro e w3 ⟨x, m3, rfl, hx, hw3⟩
    have hb3 : Below B w w3 := by rw [hw3]; exact (hb2.alloc (by omega) _).trans (picked_below (HR2.out.alloc _) m3)
    have hxl : x.size ≤ 1 := by
      simp only [List.mem_cons, List.not_mem_nil, or_false] at hx
      rcases hx with rfl | rfl | rfl | rfl <;> decide
    clear hw3 hx hb2
    go_wp2
    go_ret
    exact ⟨_, rfl, by rw [ByteArray.size_append]; omega, hb3⟩
  · go_wp2
    go_ret
    exact ⟨_, rfl, by omega, hb2⟩
end Go.Proofs.YtogoedjcacnfcaaDoor
