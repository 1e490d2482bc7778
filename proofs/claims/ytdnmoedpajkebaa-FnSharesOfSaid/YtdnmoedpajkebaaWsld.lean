/-
  The walk of what draws loads. Conditions: where the reader lies, and the bounds that are typed.
-/
import Derived.Test.YtdnmoedpajkebaaWsomy
import Derived.Test.YtdnmoedpajkebaaWai
namespace Go.Proofs.Ytdnmoedpajkebaa
open Go.RowKit
set_option linter.unusedVariables false

/-- What someLoads leaves: some numbers in memory of the call's own. -/
def SldPost (B W0 : Nat) (w : World) (g p : Nat) (e : Ending) (w' : World) : Prop :=
  ∃ (u : Value) (l : List Int) (p' : Nat), e = .returned u ∧ OwnL w' W0 u l ∧ l.length ≤ 40 ∧ Rd B w' g p' ∧ p' ≤ p + 200 ∧ Below B w w'
def lenS (v : Value) : Nat := match v with | .slice _ n _ => n | _ => 0

set_option maxHeartbeats 3200000 in
theorem sld_any {B : Nat} {w : World} {g p : Nat} (h : Rd B w g p) (hp : p ≤ 900000) :
    Calls Try.prog 23 #[.pointer (some ⟨g, 0, none⟩)] w (SldPost B w.heap.size w g p) := by
  have hgl := h.lt
  have hBg := h.1
  obtain ⟨i0, hi, hz0, hz1, hz2⟩ := info_parts info3
  have HI := Lib.hid hi
  have HZ0 := Lib.hid hz0
  have HZ1 := Lib.hid hz1
  have HZ2 := Lib.hid hz2
  have HM := Lib.hid (OwnL.empty w w.heap.size (Nat.le_refl _))
  clear hi hz0 hz1 hz2
  go_enter Try.func23, Try.ntmps23
  go_wp2_with fail
  refine (one_any ((h.alloc (.cells #[] 3)).alloc _) (by omega) (w.heap.size + 1) 9 9 [5, 8, 4, 3, 12, 2, 1, 0, 16] rfl (by omega) (by omega) (by omega) (by have e := new_ints (w.alloc (.cells #[] 3)) [5, 8, 4, 3, 12, 2, 1, 0, 16] 3; rw [World.size_alloc] at e; exact e)).mono ?_
  rintro e w1 ⟨x, m, rfl, hx, hw1⟩
  have hr1 : Rd B w1 g (p + 1) := by rw [hw1]; exact ((h.alloc _).alloc _).picked m
  have hb1 : Below B w w1 := by rw [hw1]; exact (((Below.refl B w).alloc (by omega) _).alloc (by simp; omega) _).trans (picked_below ((h.alloc _).alloc _) m)
  have ho1 : OwnL w1 w.heap.size (.slice (some ⟨w.heap.size, 0, none⟩) 0 0) [] := by rw [hw1]; exact own_picked (HM.out.alloc _) hgl
  have hz1 : w.heap.size ≤ w1.heap.size := by rw [hw1, picked_size]; simp; omega
  clear hw1
  obtain ⟨n, rfl, hn⟩ : ∃ k : Nat, x = k ∧ k ≤ 16 := by
    simp only [List.mem_cons, List.not_mem_nil, or_false] at hx
    exact ⟨x.toNat, by omega, by omega⟩
  clear hx
  go_wp2
  go_loopw [3] (fun sv wr => ∃ (l : List Int) (p' : Nat), OwnL wr w.heap.size sv l ∧ l.length ≤ 16 ∧ Rd B wr g p' ∧ p' ≤ p + 1 + 4 * l.length ∧ Below B w wr ∧ w.heap.size ≤ wr.heap.size) (fun sv _ => n - lenS sv)
  case atStart => exact ⟨[], p + 1, ho1, by simp, hr1, by simp, hb1, hz1⟩
  case round =>
    clear hr1 hb1 ho1 hz1
    obtain ⟨l, p', hown, hlk, hr, hpk, hb, hz⟩ := hrel
    have HOW := Lib.hid hown
    have HR := Lib.hid hr
    have hgr := hr.lt
    obtain ⟨A, cp, hsv⟩ := hown.form
    subst hsv
    clear hown hr
    by_cases hk0 : l.length < n
    · have hk1 : decide (l.length < n) = true := decide_eq_true hk0
      go_wp2_with fail
      refine (pick_any HR.out (by omega) 31 (by omega) (by omega)).mono ?_
      rintro e w1 ⟨a, m, rfl, ha, hw1⟩
      have hr1 : Rd B w1 g (p' + 1) := by rw [hw1]; exact HR.out.picked m
      have hb1 : Below B w w1 := by rw [hw1]; exact hb.trans (picked_below HR.out m)
      have ho1 : OwnL w1 w.heap.size (.slice A l.length cp) l := by rw [hw1]; exact own_picked HOW.out hgl
      have hz1 : w.heap.size ≤ w1.heap.size := by rw [hw1, picked_size]; exact hz
      have HR1 := Lib.hid hr1
      have HO1 := Lib.hid ho1
      clear hw1 hr1 ho1 hb HR HOW hgr hz
      go_wp2_with fail
      refine (pick_any HR1.out (by omega) 6 (by omega) (by omega)).mono ?_
      rintro e w2 ⟨d, m, rfl, hd, hw2⟩
      have hr2 : Rd B w2 g (p' + 1 + 1) := by rw [hw2]; exact HR1.out.picked m
      have hb2 : Below B w w2 := by rw [hw2]; exact hb1.trans (picked_below HR1.out m)
      have ho2 : OwnL w2 w.heap.size (.slice A l.length cp) l := by rw [hw2]; exact own_picked HO1.out hgl
      have hz2 : w.heap.size ≤ w2.heap.size := by rw [hw2, picked_size]; exact hz1
      have HR2 := Lib.hid hr2
      have HO2 := Lib.hid ho2
      clear hw2 hr2 ho2 hb1 HR1 HO1 hz1
      go_wp2_with fail
      refine (pick_any HR2.out (by omega) 12 (by omega) (by omega)).mono ?_
      rintro e w5 ⟨f, m, rfl, hf, hw5⟩
      have hr5 : Rd B w5 g (p' + 1 + 1 + 1) := by rw [hw5]; exact HR2.out.picked m
      have hb5 : Below B w w5 := by rw [hw5]; exact hb2.trans (picked_below HR2.out m)
      have ho5 : OwnL w5 w.heap.size (.slice A l.length cp) l := by rw [hw5]; exact own_picked HO2.out hgl
      have hz5 : w.heap.size ≤ w5.heap.size := by rw [hw5, picked_size]; exact hz2
      have HR5 := Lib.hid hr5
      have HO5 := Lib.hid ho5
      clear hw5 hr5 ho5 hb2 HR2 HO2 hz2
      go_wp2_with fail
      refine (one_any (HR5.out.alloc _) (by omega) w5.heap.size 4 4 [(a : Int), (d : Int), 0, (f : Int)] rfl (by omega) (by omega) (by omega) (new_ints w5 [(a : Int), (d : Int), 0, (f : Int)] _)).mono ?_
      rintro e w3 ⟨x, m, rfl, hx, hw3⟩
      have hr3 : Rd B w3 g (p' + 1 + 1 + 1 + 1) := by rw [hw3]; exact (HR5.out.alloc _).picked m
      have hb3 : Below B w w3 := by rw [hw3]; exact (hb5.alloc (by omega) _).trans (picked_below (HR5.out.alloc _) m)
      have ho3 : OwnL w3 w.heap.size (.slice A l.length cp) l := by rw [hw3]; exact own_picked (HO5.out.alloc _) hgl
      have hz3 : w.heap.size ≤ w3.heap.size := by rw [hw3, picked_size]; simp; omega
      have hgr3 := hr3.lt
      have HR3 := Lib.hid hr3
      have HO3 := Lib.hid ho3
      clear hw3 hr3 ho3 hb5 HR5 HO5 hz5 hx
      go_wp2_with (at_builtin; refine append_oneI rfl (.tmp 13) (.tmp 23) rfl w.heap.size _ l x rfl rfl HO3.out (by omega) hz3 ?_; intro A9 c9 w9 hown9 hg9 hb9 hz9)
      have hr9 : Rd B w9 g (p' + 1 + 1 + 1 + 1) := (HR3.out.alloc _).keep ((Below.refl B (w3.alloc _)).grown hg9 (by simp; omega) (fun j hj => by have := (World.ownsRow.lt HO3.out j hj).1; omega)) (hg9.block g (by simp; omega) (fun e => own_ne HO3.out hgl e.symm))
      go_roundw
      case rel => exact ⟨l ++ [x], p' + 1 + 1 + 1 + 1, by simpa [OwnL] using hown9, by simp; omega, hr9, by simp; omega, hb3.trans (hb9.mono (by omega)), by omega⟩
      case measure => simp [lenS]; omega
    · have hk1 : decide (l.length < n) = false := decide_eq_false hk0
      go_wp2_with fail
      refine (pick_any HR.out (by omega) 30 (by omega) (by omega)).mono ?_
      rintro e w4 ⟨c, m, rfl, hc, hw4⟩
      have hr4 : Rd B w4 g (p' + 1) := by rw [hw4]; exact HR.out.picked m
      have hb4 : Below B w w4 := by rw [hw4]; exact hb.trans (picked_below HR.out m)
      have ho4 : OwnL w4 w.heap.size (.slice A l.length cp) l := by rw [hw4]; exact own_picked HOW.out hgl
      have hz4 : w.heap.size ≤ w4.heap.size := by rw [hw4, picked_size]; exact hz
      have hgr4 := hr4.lt
      have HR4 := Lib.hid hr4
      have HO4 := Lib.hid ho4
      clear hw4 hr4 ho4 hb HR HOW hgr hz
      rcases (show c = 0 ∨ c = 1 ∨ c = 2 ∨ (3 ≤ c ∧ c < 30) from by omega) with rfl | rfl | rfl | ⟨h3, h30⟩
      · go_wp2_with (at_builtin; refine append_oneI rfl (.tmp 29) (.tmp 30) rfl w.heap.size _ l 31 rfl rfl HO4.out (by omega) hz4 ?_; intro A9 c9 w9 hown9 hg9 hb9 hz9)
        have hr9 : Rd B w9 g (p' + 1) := (HR4.out.alloc _).keep ((Below.refl B (w4.alloc _)).grown hg9 (by simp; omega) (fun j hj => by have := (World.ownsRow.lt HO4.out j hj).1; omega)) (hg9.block g (by simp; omega) (fun e => own_ne HO4.out hgl e.symm))
        go_ret
        exact ⟨_, l ++ [31], p' + 1, rfl, by simpa [OwnL] using hown9, by simp; omega, hr9, by omega, hb4.trans (hb9.mono (by omega))⟩
      · go_wp2_with (at_builtin; refine append_oneI rfl (.tmp 34) (.tmp 35) rfl w.heap.size _ l (-1) rfl rfl HO4.out (by omega) hz4 ?_; intro A9 c9 w9 hown9 hg9 hb9 hz9)
        have hr9 : Rd B w9 g (p' + 1) := (HR4.out.alloc _).keep ((Below.refl B (w4.alloc _)).grown hg9 (by simp; omega) (fun j hj => by have := (World.ownsRow.lt HO4.out j hj).1; omega)) (hg9.block g (by simp; omega) (fun e => own_ne HO4.out hgl e.symm))
        go_ret
        exact ⟨_, l ++ [-1], p' + 1, rfl, by simpa [OwnL] using hown9, by simp; omega, hr9, by omega, hb4.trans (hb9.mono (by omega))⟩
      · go_wp2_with (at_builtin; refine wpList_append_own _ rfl (.tmp 39) (.tmp 40) 22 rfl w.heap.size 3 i0 (.int .i64 0) 1 8 Try.underlying22 HI.out HZ0.out HZ1.out HZ2.out rfl (by decide) _ _ _ rfl (HO4.out.alloc _) ⟨w4.heap.size, 0, none⟩ 17 17 (ints [1, 1, 1, 1, 1, 1, 1, 1, 1, 1, 1, 1, 1, 1, 1, 1, 1]) rfl rfl (new_cells _ [1, 1, 1, 1, 1, 1, 1, 1, 1, 1, 1, 1, 1, 1, 1, 1, 1] _) (ints_one _) (by rw [mx]; omega) (by omega) (by simp; omega) ?_; intro v9 w9 hown9 hg9 hnil; clear hnil)
        have R := (hb4.alloc (by omega) (.cells (ints [1, 1, 1, 1, 1, 1, 1, 1, 1, 1, 1, 1, 1, 1, 1, 1, 1]).toArray 3)).grown hg9 (by simp; omega) (fun j hj => by have := (World.ownsRow.lt HO4.out j hj).1; omega)
        have hr9 : Rd B w9 g (p' + 1) := (HR4.out.alloc _).keep ((Below.refl B (w4.alloc _)).grown hg9 (by simp; omega) (fun j hj => by have := (World.ownsRow.lt HO4.out j hj).1; omega)) (hg9.block g (by simp; omega) (fun e => own_ne HO4.out hgl e.symm))
        go_ret
        exact ⟨v9, l ++ [1, 1, 1, 1, 1, 1, 1, 1, 1, 1, 1, 1, 1, 1, 1, 1, 1], p' + 1, rfl, by unfold OwnL; rw [ints_app]; simpa using hown9, by simp; omega, hr9, by omega, R⟩
      · have q0 : ((c : Int) == 0) = false := by simp; omega
        have q1 : ((c : Int) == 1) = false := by simp; omega
        have q2 : ((c : Int) == 2) = false := by simp; omega
        go_wp2
        go_ret
        exact ⟨_, l, p' + 1, rfl, HO4.out, by omega, HR4.out, by omega, hb4⟩

/-- What a draw of a number and of loads leaves. -/
def DldPost (w : World) (e : Ending) (w' : World) : Prop := ∃ (r : Int) (u : Value) (l : List Int) (B : Nat), e = .returned (.tuple #[.int .i64 r, u]) ∧ OwnL w' B u l ∧ l.length ≤ 40 ∧ w.heap.size ≤ B ∧ (-1 ≤ r ∧ r ≤ 300) ∧ Below w.heap.size w w'


set_option maxHeartbeats 800000 in
theorem dsh_any (w : World) (a : Option Addr) (len cap : Nat) (zs : List Int) (h : IsRow .u8 w a len cap zs) :
    Calls Try.prog 11 #[.slice a len cap] w (DldPost w) := by
  have H := Lib.hid (nr_any w a len cap zs h)
  clear h
  go_enter Try.func11, Try.ntmps11
  go_wp2_with fail
  refine H.out.mono ?_
  rintro e v ⟨rfl, hr, hb, hz⟩
  have HRV := Lib.hid hr
  have HBV := Lib.hid hb
  have hgl : w.heap.size < v.heap.size := hr.lt
  clear hr hb hz
  go_wp2_with fail
  refine (one_any (HRV.out.alloc _) (by omega) v.heap.size 8 8 [20, 50, 10, 100, 0, 200, 201, -1] rfl (by omega) (by omega) (by omega) (new_ints v [20, 50, 10, 100, 0, 200, 201, -1] _)).mono ?_
  rintro e w1 ⟨x, m, rfl, hx, hw1⟩
  have hr1 : Rd w.heap.size w1 w.heap.size 1 := by rw [hw1]; exact (HRV.out.alloc _).picked m
  have hb1 : Below w.heap.size w w1 := by rw [hw1]; exact (HBV.out.alloc (by omega) _).trans (picked_below (HRV.out.alloc _) m)
  have hz1 := hr1.lt
  have hxb : -1 ≤ x ∧ x ≤ 300 := by
    simp only [List.mem_cons, List.not_mem_nil, or_false] at hx
    omega
  have HS := Lib.hid (sld_any hr1 (by omega))
  have HB1 := Lib.hid hb1
  clear hw1 hx hr1 hb1
  go_wp2_with fail
  refine HS.out.mono ?_
  rintro e w2 ⟨u, l, p', rfl, hu, hl, hr2, _, hb2⟩
  have HU := Lib.hid hu
  have HB2 := Lib.hid (HB1.out.trans hb2)
  clear hu hr2 hb2
  go_wp2
  go_ret2
  exact ⟨x, u, l, _, rfl, HU.out, hl, by omega, hxb, HB2.out⟩

/-- What the draw of PassesOf leaves. -/
def DpaPost (w : World) (e : Ending) (w' : World) : Prop := ∃ (r d : Int) (u : Value) (l : List Int) (B : Nat), e = .returned (.tuple #[.int .i64 r, .int .i64 d, u]) ∧ OwnL w' B u l ∧ l.length ≤ 40 ∧ w.heap.size ≤ B ∧ Below w.heap.size w w'
end Go.Proofs.Ytdnmoedpajkebaa
