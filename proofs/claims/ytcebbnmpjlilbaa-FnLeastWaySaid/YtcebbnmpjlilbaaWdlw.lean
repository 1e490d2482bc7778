/-
  The walk of what draws a way. Condition: the code is a list that can be.
-/
import Derived.Test.YtcebbnmpjlilbaaWsomy
namespace Go.Proofs.Ytcebbnmpjlilbaa
open Go.RowKit
set_option linter.unusedVariables false

def lenOf (v : Value) : Nat := match v with | .slice _ n _ => n | _ => 0

set_option maxHeartbeats 3200000 in
theorem dlw_any (w : World) (a : Option Addr) (len cap : Nat) (zs : List Int) (h : IsRow .u8 w a len cap zs) :
    Calls Try.prog 27 #[.slice a len cap] w fun e w' => ∃ u l B, e = .returned u ∧ w'.ownsRow B 3 1 u l.length (ints l) ∧ l.length ≤ 9 ∧ Below w.heap.size w w' := by
  have H := Lib.hid (nr_any w a len cap zs h)
  clear h
  obtain ⟨i0, hi, hz0, hz1, hz2⟩ := info_parts info3
  have HI := Lib.hid hi
  have HZ0 := Lib.hid hz0
  have HZ1 := Lib.hid hz1
  have HZ2 := Lib.hid hz2
  clear hi hz0 hz1 hz2
  go_enter Try.func27, Try.ntmps27
  go_wp2_with fail
  refine H.out.mono ?_
  rintro e v ⟨rfl, hr, hb, hz⟩
  have HM := Lib.hid (World.ownsRow_made (base := v.heap.size) (e := 3) (size := 1) v #[] 0 (Nat.le_refl _) (by unfold maxLen; omega) rfl)
  have HRV := Lib.hid hr
  have HBV := Lib.hid hb
  have hgl : w.heap.size < v.heap.size := hr.lt
  clear hr hb hz
  generalize hB : w.heap.size = B at *
  go_wp2_with fail
  refine (one_any ((HRV.out.alloc (.cells #[] 3)).alloc _) (by omega) (v.heap.size + 1) 7 7 [3, 4, 2, 1, 8, 0, 9] rfl (by omega) (by omega) (by omega) (by have e := new_ints (v.alloc (.cells #[] 3)) [3, 4, 2, 1, 8, 0, 9] 3; rw [World.size_alloc] at e; exact e)).mono ?_
  rintro e w1 ⟨x, m, rfl, hx, hw1⟩
  have hr1 : Rd B w1 B 1 := by rw [hw1]; exact ((HRV.out.alloc _).alloc _).picked m
  have hb1 : Below B w w1 := by rw [hw1]; exact ((HBV.out.alloc (by omega) _).alloc (by simp; omega) _).trans (picked_below ((HRV.out.alloc _).alloc _) m)
  have ho1 : w1.ownsRow v.heap.size 3 1 (.slice (some ⟨v.heap.size, 0, none⟩) 0 0) 0 [] := by rw [hw1]; exact own_picked (HM.out.alloc _) hgl
  have hz1 : v.heap.size ≤ w1.heap.size := by rw [hw1, picked_size]; simp; omega
  clear hw1
  obtain ⟨n, rfl, hn⟩ : ∃ n : Nat, x = n ∧ n ≤ 9 := by
    simp only [List.mem_cons, List.not_mem_nil, or_false] at hx
    exact ⟨x.toNat, by omega, by omega⟩
  clear hx
  go_wp2
  go_loopw [4] (fun sv wr => ∃ (l : List Int) (p' : Nat), wr.ownsRow v.heap.size 3 1 sv l.length (ints l) ∧ l.length ≤ 9 ∧ Rd B wr B p' ∧ p' ≤ l.length + 1 ∧ Below B w wr ∧ v.heap.size ≤ wr.heap.size) (fun sv _ => n - lenOf sv)
  case atStart => exact ⟨[], 1, ho1, by simp, hr1, by simp, hb1, hz1⟩
  case round =>
    clear hr1 hb1 ho1 hz1
    obtain ⟨l, p', hown, hlk, hr, hpk, hb, hz⟩ := hrel
    have HOW := Lib.hid hown
    have HR := Lib.hid hr
    have hgr := hr.lt
    obtain ⟨A, cp, rfl⟩ := own_form hown
    clear hown hr
    by_cases hk0 : l.length < n
    · have hk1 : decide ((l.length : Int) < (n : Int)) = true := by simp; omega
      go_wp2_with fail
      refine (pick_any HR.out (by omega) 60 (by omega) (by omega)).mono ?_
      rintro e w3 ⟨x, m, rfl, hx, hw3⟩
      have hr3 : Rd B w3 B (p' + 1) := by rw [hw3]; exact HR.out.picked m
      have hb3 : Below B w w3 := by rw [hw3]; exact hb.trans (picked_below HR.out m)
      have ho3 : w3.ownsRow v.heap.size 3 1 (.slice A l.length cp) l.length (ints l) := by rw [hw3]; exact own_picked HOW.out hgl
      have hz3 : v.heap.size ≤ w3.heap.size := by rw [hw3, picked_size]; exact hz
      have HR3 := Lib.hid hr3
      have HO3 := Lib.hid ho3
      clear hw3 hr3 ho3 hb HR HOW hgr hz
      have hgr3 := HR3.out.lt
      go_wp2_with (at_builtin; refine wpList_append_own _ rfl (.tmp 16) (.tmp 20) 35 rfl v.heap.size 3 i0 (.int .i64 0) 1 8 Try.underlying35 HI.out HZ0.out HZ1.out HZ2.out rfl (by decide) _ _ _ rfl (HO3.out.alloc _) ⟨w3.heap.size, 0, none⟩ 1 1 [.int .i64 (1 + (x : Int))] rfl rfl (cell_one_new _ _ _) (one_cell _ rfl) (by rw [mx]; omega) (by omega) (by simp; omega) ?_; intro v9 w9 hown9 hg9 hnil; clear hnil)
      have R := (hb3.alloc (by omega) (.cells #[.int .i64 (1 + (x : Int))] 3)).grown hg9 (by simp; omega) (fun j hj => by have := (HO3.out.lt j hj).1; omega)
      have R2 := push_below HO3.out hg9 (Below.refl _ w3) hz3
      have hr9 : Rd B w9 B (p' + 1) := (HR3.out.alloc _).keep ((Below.refl B (w3.alloc _)).grown hg9 (by simp; omega) (fun j hj => by have := (HO3.out.lt j hj).1; omega)) (hg9.block B (by simp; omega) (fun e => own_ne HO3.out hgl e.symm))
      have hv9 : lenOf v9 = l.length + 1 := by
        obtain ⟨A9, c9, rfl⟩ := own_form hown9; rfl
      go_roundw
      case rel => exact ⟨l ++ [1 + (x : Int)], p' + 1, ownI_snoc hown9, by simp; omega, hr9, by simp; omega, R, R2.2⟩
      case measure => simp [lenOf] at hv9 ⊢; omega
    · have hk1 : decide ((l.length : Int) < (n : Int)) = false := by simp; omega
      by_cases h0 : l.length = 0
      · obtain rfl : l = [] := List.eq_nil_of_length_eq_zero h0
        go_wp2
        go_ret
        exact ⟨_, [], _, rfl, HOW.out, by simp, by rw [hB]; exact hb⟩
      · have hk2 : decide ((0 : Int) < (l.length : Int)) = true := by simp; omega
        go_wp2_with fail
        refine (pick_any HR.out (by omega) 24 (by omega) (by omega)).mono ?_
        rintro e w4 ⟨c, m, rfl, hc, hw4⟩
        have hr4 : Rd B w4 B (p' + 1) := by rw [hw4]; exact HR.out.picked m
        have hb4 : Below B w w4 := by rw [hw4]; exact hb.trans (picked_below HR.out m)
        have ho4 : w4.ownsRow v.heap.size 3 1 (.slice A l.length cp) l.length (ints l) := by rw [hw4]; exact own_picked HOW.out hgl
        have hz4 : v.heap.size ≤ w4.heap.size := by rw [hw4, picked_size]; exact hz
        have HR4 := Lib.hid hr4
        have HO4 := Lib.hid ho4
        clear hw4 hr4 ho4 hb HR HOW hgr hz
        by_cases hc0 : c = 0
        · subst hc0
          obtain ⟨g, cg, hform⟩ := own_form_some HO4.out (by omega)
          cases hform
          have hgb := (HO4.out.lt g rfl).1
          go_wp2_with fail
          refine (one_any (HR4.out.alloc _) (by omega) w4.heap.size 2 2 [0, 61] rfl (by omega) (by omega) (by have := HR4.out.lt; omega) (new_ints w4 [0, 61] _)).mono ?_
          rintro e w5 ⟨x, m, rfl, hx, hw5⟩
          have hb5 : Below B w w5 := by rw [hw5]; exact (hb4.alloc (by omega) _).trans (picked_below (HR4.out.alloc _) m)
          have ho5 : w5.ownsRow v.heap.size 3 1 (.slice (some ⟨g, 0, none⟩) l.length cp) l.length (ints l) := by rw [hw5]; exact own_picked (HO4.out.alloc _) hgl
          have hz5 : v.heap.size ≤ w5.heap.size := by rw [hw5, picked_size]; simp; omega
          clear hw5 HR4 HO4 hb4 hz4 hx
          have hf := ho5.frozenAt 0
          have hc1 := ho5.cellAt 0 (by omega)
          rw [ints_get l 0 (by omega)] at hc1
          have hst := ho5.stored 0 (.int .i64 x)
          rw [ints_set] at hst
          have HST := Lib.hid hst
          clear ho5 hst
          go_wp2
          go_ret
          refine ⟨_, l.set 0 x, v.heap.size, rfl, ?_, by simp; omega, ?_⟩
          · rw [List.length_set]; exact HST.out.1
          · rw [hB]; exact below_grown hb5 HST.out.2 (by omega) (by omega)
        · have q0 : ((c : Int) == 0) = false := by simp; omega
          go_wp2
          go_ret
          exact ⟨_, l, _, rfl, HO4.out, hlk, by rw [hB]; exact hb4⟩
end Go.Proofs.Ytcebbnmpjlilbaa
