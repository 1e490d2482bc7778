/-
  The walk of what draws bytes, of which there are at most so many. Conditions: where the reader lies, and the bounds that are typed.
-/
import Derived.Test.YthogkhifgkgplaaDoorWnr
import Derived.Test.YthogkhifgkgplaaDoorWkp
import Derived.Test.YthogkhifgkgplaaDoorIrow
namespace Go.Proofs.YthogkhifgkgplaaDoor
open Go.RowKit
set_option linter.unusedVariables false

theorem own_ne {w : World} {B e n g : Nat} {v : Value} {xs : List Value} (h : w.ownsRow B e 1 v n xs) (hg : g < B) : v.ownBlock ≠ some g := fun he => by have := (h.lt g he).1; omega
theorem own_picked {w : World} {B e n g p m : Nat} {v : Value} {xs : List Value} (h : w.ownsRow B e 1 v n xs) (hg : g < B) : (picked w g p m).ownsRow B e 1 v n xs :=
  ownsRow_setCell_other (a := ⟨g, 1, none⟩) h (own_ne h hg) _
theorem rd_grown {B : Nat} {w w' : World} {g p : Nat} {row : Option Nat} (h : Rd B w g p) (hg : w.grownBy w' row) (hb : Below B w w') (hr : ∀ j, row = some j → g < j) : Rd B w' g p :=
  h.keep hb (hg.block g h.lt (fun e => by have := hr g e.symm; omega))
theorem new_cells (w : World) (xs : List Int) (t : TypeId) : ∀ j u, (ints xs)[j]? = some u → (w.alloc (.cells (ints xs).toArray t)).cell? ((⟨w.heap.size, 0, none⟩ : Addr).add j) = some u := by
  intro j u hj
  have hlt : j < xs.length := by
    have := (List.getElem?_eq_some_iff.1 hj).1
    simpa [ints] using this
  have e : (⟨w.heap.size, 0, none⟩ : Addr).add j = ⟨w.heap.size, j, none⟩ := by unfold Addr.add; split <;> simp_all
  rw [e, ← hj, ints_get xs j hlt]
  exact new_ints w xs t j hlt
theorem ints_one (xs : List Int) : ∀ u ∈ ints xs, u.oneCell' = true := by
  intro u hu
  obtain ⟨x, _, rfl⟩ := List.mem_map.1 hu
  rfl

/-- What someBytes leaves: some numbers in memory of the call's own. -/
def SomyPost (B W0 : Nat) (w : World) (g p : Nat) (e : Ending) (w' : World) : Prop :=
  ∃ (u : Value) (l : List Int) (p' : Nat), e = .returned u ∧ w'.ownsRow W0 3 1 u l.length (ints l) ∧ l.length ≤ 40 ∧ Rd B w' g p' ∧ p' ≤ p + 200 ∧ BK B g w w'

set_option maxHeartbeats 3200000 in
theorem syM_any {B : Nat} {w : World} {g p : Nat} (M : Nat) (hM : M ≤ 16) (h : Rd B w g p) (hp : p ≤ 900000) :
    Calls Tryd.prog 43 #[.pointer (some ⟨g, 0, none⟩), .int .i64 (M : Int)] w (SomyPost B w.heap.size w g p) := by
  have hgl := h.lt
  have hBg := h.1
  obtain ⟨i0, hi, hz0, hz1, hz2⟩ := info_parts info3
  have HI := Lib.hid hi
  have HZ0 := Lib.hid hz0
  have HZ1 := Lib.hid hz1
  have HZ2 := Lib.hid hz2
  have HM := Lib.hid (World.ownsRow_made (base := w.heap.size) (e := 3) (size := 1) w #[] 0 (Nat.le_refl _) (by unfold maxLen; omega) rfl)
  clear hi hz0 hz1 hz2
  go_enter Tryd.func43, Tryd.ntmps43
  go_wp2_with fail
  refine (one_any ((h.alloc (.cells #[] 3)).alloc _) (by omega) (w.heap.size + 1) 8 8 [4, 6, 3, 8, 2, 1, 0, 16] rfl (by omega) (by omega) (by omega) (by have e := new_ints (w.alloc (.cells #[] 3)) [4, 6, 3, 8, 2, 1, 0, 16] 3; rw [World.size_alloc] at e; exact e)).mono ?_
  rintro e w1 ⟨x, m, rfl, hx, hw1⟩
  have hr1 : Rd B w1 g (p + 1) := by rw [hw1]; exact ((h.alloc _).alloc _).picked m
  have hb1 : BK B g w w1 := by rw [hw1]; exact (((BK.refl g (by omega)).alloc _).alloc _).picked ((h.alloc _).alloc _) m
  have ho1 : w1.ownsRow w.heap.size 3 1 (.slice (some ⟨w.heap.size, 0, none⟩) 0 0) 0 [] := by rw [hw1]; exact own_picked (HM.out.alloc _) hgl
  have hz1 : w.heap.size ≤ w1.heap.size := by rw [hw1, picked_size]; simp; omega
  clear hw1
  obtain ⟨k, rfl, hk⟩ : ∃ k : Nat, x = k ∧ k ≤ 16 := by
    simp only [List.mem_cons, List.not_mem_nil, or_false] at hx
    exact ⟨x.toNat, by omega, by omega⟩
  clear hx
  go_wp2
  go_loopw [5, 6] (fun sv nv wr => ∃ (l : List Int) (k p' : Nat), nv = .int .i64 k ∧ wr.ownsRow w.heap.size 3 1 sv l.length (ints l) ∧ l.length + k ≤ 16 ∧ Rd B wr g p' ∧ p' + 3 * k ≤ p + 60 ∧ BK B g w wr ∧ w.heap.size ≤ wr.heap.size) (fun _ nv _ => (intOf nv).toNat)
  case atStart => exact ⟨[], k, p + 1, rfl, ho1, by simpa using hk, hr1, by omega, hb1, hz1⟩
  case round =>
    clear hr1 hb1 ho1 hz1
    obtain ⟨l, k, p', rfl, hown, hlk, hr, hpk, hb, hz⟩ := hrel
    have HOW := Lib.hid hown
    have HR := Lib.hid hr
    have hgr := hr.lt
    obtain ⟨A, cp, rfl⟩ := own_form hown
    clear hown hr
    by_cases hk0 : 0 < k
    · by_cases hlM : l.length < M
      · have hk1 : decide ((0 : Int) < (k : Int)) = true := by simp; omega
        have hl1 : decide ((l.length : Int) < (M : Int)) = true := by simp; omega
        go_wp2_with fail
        refine (pick_any HR.out (by omega) 256 (by omega) (by omega)).mono ?_
        rintro e w1 ⟨a, m, rfl, ha, hw1⟩
        have hr1 : Rd B w1 g (p' + 1) := by rw [hw1]; exact HR.out.picked m
        have hb1 : BK B g w w1 := by rw [hw1]; exact hb.picked HR.out m
        have ho1 : w1.ownsRow w.heap.size 3 1 (.slice A l.length cp) l.length (ints l) := by rw [hw1]; exact own_picked HOW.out hgl
        have hz1 : w.heap.size ≤ w1.heap.size := by rw [hw1, picked_size]; exact hz
        have HR1 := Lib.hid hr1
        have HO1 := Lib.hid ho1
        clear hw1 hr1 ho1 hb HR HOW hgr hz
        go_wp2_with fail
        refine (pick_any HR1.out (by omega) 4 (by omega) (by omega)).mono ?_
        rintro e w2 ⟨d, m, rfl, hd, hw2⟩
        have hr2 : Rd B w2 g (p' + 1 + 1) := by rw [hw2]; exact HR1.out.picked m
        have hb2 : BK B g w w2 := by rw [hw2]; exact hb1.picked HR1.out m
        have ho2 : w2.ownsRow w.heap.size 3 1 (.slice A l.length cp) l.length (ints l) := by rw [hw2]; exact own_picked HO1.out hgl
        have hz2 : w.heap.size ≤ w2.heap.size := by rw [hw2, picked_size]; exact hz1
        have HR2 := Lib.hid hr2
        have HO2 := Lib.hid ho2
        clear hw2 hr2 ho2 hb1 HR1 HO1 hz1
        go_wp2_with fail
        refine (one_any (HR2.out.alloc _) (by omega) w2.heap.size 6 6 [(a : Int), 0, 192, 219, (d : Int), 255] rfl (by omega) (by omega) (by omega) (new_ints w2 [(a : Int), 0, 192, 219, (d : Int), 255] _)).mono ?_
        rintro e w3 ⟨x, m, rfl, hx, hw3⟩
        have hr3 : Rd B w3 g (p' + 1 + 1 + 1) := by rw [hw3]; exact (HR2.out.alloc _).picked m
        have hb3 : BK B g w w3 := by rw [hw3]; exact (hb2.alloc _).picked (HR2.out.alloc _) m
        have ho3 : w3.ownsRow w.heap.size 3 1 (.slice A l.length cp) l.length (ints l) := by rw [hw3]; exact own_picked (HO2.out.alloc _) hgl
        have hz3 : w.heap.size ≤ w3.heap.size := by rw [hw3, picked_size]; simp; omega
        have hgr3 := hr3.lt
        have HR3 := Lib.hid hr3
        have HO3 := Lib.hid ho3
        clear hw3 hr3 ho3 hb2 HR2 HO2 hz2 hx
        go_wp2_with (at_builtin; refine wpList_append_own _ rfl (.tmp 21) (.tmp 29) 22 rfl w.heap.size 3 i0 (.int .i64 0) 1 8 Tryd.underlying22 HI.out HZ0.out HZ1.out HZ2.out rfl (by decide) _ _ _ rfl (HO3.out.alloc _) ⟨w3.heap.size, 0, none⟩ 1 1 [.int .i64 x] rfl rfl (cell_one_new _ _ _) (one_cell _ rfl) (by rw [mx]; omega) (by omega) (by simp; omega) ?_; intro v9 w9 hown9 hg9 hnil; clear hnil)
        have R := (hb3.alloc (.cells #[.int .i64 x] 3)).grown hg9 (fun j hj => (HO3.out.lt j hj).1)
        have R2 := push_below HO3.out hg9 (Below.refl _ w3) hz3
        have hr9 : Rd B w9 g (p' + 1 + 1 + 1) := (HR3.out.alloc _).keep ((Below.refl B (w3.alloc _)).grown hg9 (by simp; omega) (fun j hj => by have := (HO3.out.lt j hj).1; omega)) (hg9.block g (by simp; omega) (fun e => own_ne HO3.out hgl e.symm))
        go_roundw
        case rel => exact ⟨l ++ [x], k - 1, p' + 1 + 1 + 1, by go_num, ownI_snoc hown9, by simp; omega, hr9, by omega, R, R2.2⟩
        case measure => simp [intOf]; omega
      · have hk1 : decide ((0 : Int) < (k : Int)) = true := by simp; omega
        have hl1 : decide ((l.length : Int) < (M : Int)) = false := by simp; omega
        go_wp2_with fail
        refine (pick_any HR.out (by omega) 30 (by omega) (by omega)).mono ?_
        rintro e w4 ⟨c, m, rfl, hc, hw4⟩
        have hr4 : Rd B w4 g (p' + 1) := by rw [hw4]; exact HR.out.picked m
        have hb4 : BK B g w w4 := by rw [hw4]; exact hb.picked HR.out m
        have ho4 : w4.ownsRow w.heap.size 3 1 (.slice A l.length cp) l.length (ints l) := by rw [hw4]; exact own_picked HOW.out hgl
        have hz4 : w.heap.size ≤ w4.heap.size := by rw [hw4, picked_size]; exact hz
        have hgr4 := hr4.lt
        have HR4 := Lib.hid hr4
        have HO4 := Lib.hid ho4
        clear hw4 hr4 ho4 hb HR HOW hgr hz
        rcases (show c = 0 ∨ c = 1 ∨ c = 2 ∨ (3 ≤ c ∧ c < 30) from by omega) with rfl | rfl | rfl | ⟨h3, h30⟩
        · go_wp2_with (at_builtin; refine wpList_append_own _ rfl (.tmp 35) (.tmp 36) 22 rfl w.heap.size 3 i0 (.int .i64 0) 1 8 Tryd.underlying22 HI.out HZ0.out HZ1.out HZ2.out rfl (by decide) _ _ _ rfl (HO4.out.alloc _) ⟨w4.heap.size, 0, none⟩ 1 1 [.int .i64 256] rfl rfl (cell_one_new _ _ _) (one_cell _ rfl) (by rw [mx]; omega) (by omega) (by simp; omega) ?_; intro v9 w9 hown9 hg9 hnil; clear hnil)
          have R := (hb4.alloc (.cells #[.int .i64 256] 3)).grown hg9 (fun j hj => (HO4.out.lt j hj).1)
          have hr9 : Rd B w9 g (p' + 1) := (HR4.out.alloc _).keep ((Below.refl B (w4.alloc _)).grown hg9 (by simp; omega) (fun j hj => by have := (HO4.out.lt j hj).1; omega)) (hg9.block g (by simp; omega) (fun e => own_ne HO4.out hgl e.symm))
          go_ret
          exact ⟨v9, l ++ [256], p' + 1, rfl, ownI_snoc hown9, by simp; omega, hr9, by omega, R⟩
        · go_wp2_with (at_builtin; refine wpList_append_own _ rfl (.tmp 40) (.tmp 41) 22 rfl w.heap.size 3 i0 (.int .i64 0) 1 8 Tryd.underlying22 HI.out HZ0.out HZ1.out HZ2.out rfl (by decide) _ _ _ rfl (HO4.out.alloc _) ⟨w4.heap.size, 0, none⟩ 1 1 [.int .i64 (-1)] rfl rfl (cell_one_new _ _ _) (one_cell _ rfl) (by rw [mx]; omega) (by omega) (by simp; omega) ?_; intro v9 w9 hown9 hg9 hnil; clear hnil)
          have R := (hb4.alloc (.cells #[.int .i64 (-1)] 3)).grown hg9 (fun j hj => (HO4.out.lt j hj).1)
          have hr9 : Rd B w9 g (p' + 1) := (HR4.out.alloc _).keep ((Below.refl B (w4.alloc _)).grown hg9 (by simp; omega) (fun j hj => by have := (HO4.out.lt j hj).1; omega)) (hg9.block g (by simp; omega) (fun e => own_ne HO4.out hgl e.symm))
          go_ret
          exact ⟨v9, l ++ [-1], p' + 1, rfl, ownI_snoc hown9, by simp; omega, hr9, by omega, R⟩
        · go_wp2_with (at_builtin; refine wpList_append_own _ rfl (.tmp 45) (.tmp 46) 22 rfl w.heap.size 3 i0 (.int .i64 0) 1 8 Tryd.underlying22 HI.out HZ0.out HZ1.out HZ2.out rfl (by decide) _ _ _ rfl (HO4.out.alloc _) ⟨w4.heap.size, 0, none⟩ 17 17 (ints [1, 2, 3, 4, 5, 6, 7, 8, 9, 10, 11, 12, 13, 14, 15, 16, 17]) rfl rfl (new_cells _ [1, 2, 3, 4, 5, 6, 7, 8, 9, 10, 11, 12, 13, 14, 15, 16, 17] _) (ints_one _) (by rw [mx]; omega) (by omega) (by simp; omega) ?_; intro v9 w9 hown9 hg9 hnil; clear hnil)
          have R := (hb4.alloc (.cells (ints [1, 2, 3, 4, 5, 6, 7, 8, 9, 10, 11, 12, 13, 14, 15, 16, 17]).toArray 3)).grown hg9 (fun j hj => (HO4.out.lt j hj).1)
          have hr9 : Rd B w9 g (p' + 1) := (HR4.out.alloc _).keep ((Below.refl B (w4.alloc _)).grown hg9 (by simp; omega) (fun j hj => by have := (HO4.out.lt j hj).1; omega)) (hg9.block g (by simp; omega) (fun e => own_ne HO4.out hgl e.symm))
          go_ret
          exact ⟨v9, l ++ [1, 2, 3, 4, 5, 6, 7, 8, 9, 10, 11, 12, 13, 14, 15, 16, 17], p' + 1, rfl, by rw [ints_app]; simpa using hown9, by simp; omega, hr9, by omega, R⟩
        · have q0 : ((c : Int) == 0) = false := by simp; omega
          have q1 : ((c : Int) == 1) = false := by simp; omega
          have q2 : ((c : Int) == 2) = false := by simp; omega
          go_wp2
          go_ret
          exact ⟨_, l, p' + 1, rfl, HO4.out, by omega, HR4.out, by omega, hb4⟩
    · obtain rfl : k = 0 := by omega
      go_wp2_with fail
      refine (pick_any HR.out (by omega) 30 (by omega) (by omega)).mono ?_
      rintro e w4 ⟨c, m, rfl, hc, hw4⟩
      have hr4 : Rd B w4 g (p' + 1) := by rw [hw4]; exact HR.out.picked m
      have hb4 : BK B g w w4 := by rw [hw4]; exact hb.picked HR.out m
      have ho4 : w4.ownsRow w.heap.size 3 1 (.slice A l.length cp) l.length (ints l) := by rw [hw4]; exact own_picked HOW.out hgl
      have hz4 : w.heap.size ≤ w4.heap.size := by rw [hw4, picked_size]; exact hz
      have hgr4 := hr4.lt
      have HR4 := Lib.hid hr4
      have HO4 := Lib.hid ho4
      clear hw4 hr4 ho4 hb HR HOW hgr hz
      rcases (show c = 0 ∨ c = 1 ∨ c = 2 ∨ (3 ≤ c ∧ c < 30) from by omega) with rfl | rfl | rfl | ⟨h3, h30⟩
      · go_wp2_with (at_builtin; refine wpList_append_own _ rfl (.tmp 35) (.tmp 36) 22 rfl w.heap.size 3 i0 (.int .i64 0) 1 8 Tryd.underlying22 HI.out HZ0.out HZ1.out HZ2.out rfl (by decide) _ _ _ rfl (HO4.out.alloc _) ⟨w4.heap.size, 0, none⟩ 1 1 [.int .i64 256] rfl rfl (cell_one_new _ _ _) (one_cell _ rfl) (by rw [mx]; omega) (by omega) (by simp; omega) ?_; intro v9 w9 hown9 hg9 hnil; clear hnil)
        have R := (hb4.alloc (.cells #[.int .i64 256] 3)).grown hg9 (fun j hj => (HO4.out.lt j hj).1)
        have hr9 : Rd B w9 g (p' + 1) := (HR4.out.alloc _).keep ((Below.refl B (w4.alloc _)).grown hg9 (by simp; omega) (fun j hj => by have := (HO4.out.lt j hj).1; omega)) (hg9.block g (by simp; omega) (fun e => own_ne HO4.out hgl e.symm))
        go_ret
        exact ⟨v9, l ++ [256], p' + 1, rfl, ownI_snoc hown9, by simp; omega, hr9, by omega, R⟩
      · go_wp2_with (at_builtin; refine wpList_append_own _ rfl (.tmp 40) (.tmp 41) 22 rfl w.heap.size 3 i0 (.int .i64 0) 1 8 Tryd.underlying22 HI.out HZ0.out HZ1.out HZ2.out rfl (by decide) _ _ _ rfl (HO4.out.alloc _) ⟨w4.heap.size, 0, none⟩ 1 1 [.int .i64 (-1)] rfl rfl (cell_one_new _ _ _) (one_cell _ rfl) (by rw [mx]; omega) (by omega) (by simp; omega) ?_; intro v9 w9 hown9 hg9 hnil; clear hnil)
        have R := (hb4.alloc (.cells #[.int .i64 (-1)] 3)).grown hg9 (fun j hj => (HO4.out.lt j hj).1)
        have hr9 : Rd B w9 g (p' + 1) := (HR4.out.alloc _).keep ((Below.refl B (w4.alloc _)).grown hg9 (by simp; omega) (fun j hj => by have := (HO4.out.lt j hj).1; omega)) (hg9.block g (by simp; omega) (fun e => own_ne HO4.out hgl e.symm))
        go_ret
        exact ⟨v9, l ++ [-1], p' + 1, rfl, ownI_snoc hown9, by simp; omega, hr9, by omega, R⟩
      · go_wp2_with (at_builtin; refine wpList_append_own _ rfl (.tmp 45) (.tmp 46) 22 rfl w.heap.size 3 i0 (.int .i64 0) 1 8 Tryd.underlying22 HI.out HZ0.out HZ1.out HZ2.out rfl (by decide) _ _ _ rfl (HO4.out.alloc _) ⟨w4.heap.size, 0, none⟩ 17 17 (ints [1, 2, 3, 4, 5, 6, 7, 8, 9, 10, 11, 12, 13, 14, 15, 16, 17]) rfl rfl (new_cells _ [1, 2, 3, 4, 5, 6, 7, 8, 9, 10, 11, 12, 13, 14, 15, 16, 17] _) (ints_one _) (by rw [mx]; omega) (by omega) (by simp; omega) ?_; intro v9 w9 hown9 hg9 hnil; clear hnil)
        have R := (hb4.alloc (.cells (ints [1, 2, 3, 4, 5, 6, 7, 8, 9, 10, 11, 12, 13, 14, 15, 16, 17]).toArray 3)).grown hg9 (fun j hj => (HO4.out.lt j hj).1)
        have hr9 : Rd B w9 g (p' + 1) := (HR4.out.alloc _).keep ((Below.refl B (w4.alloc _)).grown hg9 (by simp; omega) (fun j hj => by have := (HO4.out.lt j hj).1; omega)) (hg9.block g (by simp; omega) (fun e => own_ne HO4.out hgl e.symm))
        go_ret
        exact ⟨v9, l ++ [1, 2, 3, 4, 5, 6, 7, 8, 9, 10, 11, 12, 13, 14, 15, 16, 17], p' + 1, rfl, by rw [ints_app]; simpa using hown9, by simp; omega, hr9, by omega, R⟩
      · have q0 : ((c : Int) == 0) = false := by simp; omega
        have q1 : ((c : Int) == 1) = false := by simp; omega
        have q2 : ((c : Int) == 2) = false := by simp; omega
        go_wp2
        go_ret
        exact ⟨_, l, p' + 1, rfl, HO4.out, by omega, HR4.out, by omega, hb4⟩
end Go.Proofs.YthogkhifgkgplaaDoor
