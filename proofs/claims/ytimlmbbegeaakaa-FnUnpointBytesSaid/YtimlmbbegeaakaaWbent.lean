/-
  The walk of what bends bytes. Conditions: where the reader and the list lie, and the bounds that are typed.
-/
import Derived.Test.YtimlmbbegeaakaaWsomy
namespace Go.Proofs.Ytimlmbbegeaakaa
open Go.RowKit
set_option linter.unusedVariables false

/-- What bentBytes leaves: no more numbers than came in, in the call's own memory. -/
def BentPost (B W0 : Nat) (w : World) (n : Nat) (e : Ending) (w' : World) : Prop :=
  ∃ (u : Value) (l : List Int), e = .returned u ∧ w'.ownsRow W0 3 1 u l.length (ints l) ∧ l.length ≤ n ∧ Below B w w'

theorem own_pop {w : World} {B g m cap : Nat} {l : List Int} (hl : l.length = m + 1) (h : w.ownsRow B 3 1 (.slice (some ⟨g, 0, none⟩) (m + 1) cap) (m + 1) (ints l)) :
    w.ownsRow B 3 1 (.slice (some ⟨g, 0, none⟩) m cap) (l.take m).length (ints (l.take m)) := by
  have e : ints l = ints (l.take m) ++ ints (l.drop m) := by rw [← ints_app, List.take_append_drop]
  have e2 : (l.take m).length = m := by rw [List.length_take]; omega
  rw [e] at h
  rw [e2]
  exact ownsRow_pop (by rw [ints_len, e2]; omega) h

theorem own_cap {w : World} {B e n cap g : Nat} {xs : List Value} (h : w.ownsRow B e 1 (.slice (some ⟨g, 0, none⟩) n cap) n xs) : n ≤ cap := by
  rcases h.2 with ⟨hv, _⟩ | ⟨g', cap', cur, hv, _, _, hnc, _⟩
  · cases hv
  · cases hv; exact hnc

set_option maxHeartbeats 400000 in
theorem bent_nil {B W0 : Nat} {w : World} {g p : Nat} (A : Option Addr) (c : Nat) (hown : w.ownsRow W0 3 1 (.slice A 0 c) 0 (ints [])) :
    Calls Try.prog 23 #[.pointer (some ⟨g, 0, none⟩), .slice A 0 c] w (BentPost B W0 w 0) := by
  have HO := Lib.hid hown
  clear hown
  go_enter Try.func23, Try.ntmps23
  go_wp2
  go_ret
  exact ⟨_, [], rfl, HO.out, Nat.le_refl _, Below.refl _ _⟩

set_option maxHeartbeats 1600000 in
/-- The second half: the last number may be left out. -/
theorem bent_at {B W0 : Nat} {w : World} {g p gg m cap : Nat} {l : List Int} (h : Rd B w g p) (hp : p ≤ 900000) (hg : g < W0) (hl : l.length = m + 1) (hm : m ≤ 1000)
    (hown : w.ownsRow W0 3 1 (.slice (some ⟨gg, 0, none⟩) (m + 1) cap) (m + 1) (ints l)) :
    Calls Try.prog 23 #[.pointer (some ⟨g, 0, none⟩), .slice (some ⟨gg, 0, none⟩) (m + 1) cap] w (BentPost B W0 w (m + 1)) := by
  have hgl := h.lt
  have hBg := h.1
  have hggW := (hown.lt gg rfl).1
  have hcap := own_cap hown
  have HO := Lib.hid hown
  have HR := Lib.hid h
  clear hown h
  have hq : decide ((0 : Int) < (m : Int) + 1) = true := decide_eq_true (by omega)
  go_enter Try.func23, Try.ntmps23
  go_wp2_with fail
  refine (pick_any HR.out (by omega) 4 (by omega) (by omega)).mono ?_
  rintro e w1 ⟨a, ma, rfl, ha, hw1⟩
  have hr1 : Rd B w1 g (p + 1) := by rw [hw1]; exact HR.out.picked ma
  have hb1 : Below B w w1 := by rw [hw1]; exact picked_below HR.out ma
  have ho1 : w1.ownsRow W0 3 1 (.slice (some ⟨gg, 0, none⟩) (m + 1) cap) (m + 1) (ints l) := by rw [hw1]; exact own_picked HO.out hg
  have HR1 := Lib.hid hr1
  have HO1 := Lib.hid ho1
  clear hw1 hr1 ho1 HR HO
  cases ha0 : ((a : Int) == 0)
  · go_wp2_with fail
    refine (pick_any HR1.out (by omega) 8 (by omega) (by omega)).mono ?_
    rintro e w2 ⟨d, md, rfl, hd, hw2⟩
    have hb2 : Below B w w2 := by rw [hw2]; exact hb1.trans (picked_below HR1.out md)
    have ho2 : w2.ownsRow W0 3 1 (.slice (some ⟨gg, 0, none⟩) (m + 1) cap) (m + 1) (ints l) := by rw [hw2]; exact own_picked HO1.out hg
    have HO2 := Lib.hid ho2
    clear hw2 ho2 HR1 HO1 hb1
    cases hd0 : ((d : Int) == 0)
    · go_wp2
      go_ret
      exact ⟨_, l, rfl, by rw [hl]; exact HO2.out, by omega, hb2⟩
    · go_wp2
      go_ret
      exact ⟨_, l.take m, rfl, own_pop hl HO2.out, by rw [List.length_take]; omega, hb2⟩
  · go_wp2_with fail
    refine (pick_any HR1.out (by omega) ((m : Int) + 1) (by omega) (by omega)).mono ?_
    rintro e w2 ⟨j, mj, rfl, hj, hw2⟩
    have hr2 : Rd B w2 g (p + 1 + 1) := by rw [hw2]; exact HR1.out.picked mj
    have hb2 : Below B w w2 := by rw [hw2]; exact hb1.trans (picked_below HR1.out mj)
    have ho2 : w2.ownsRow W0 3 1 (.slice (some ⟨gg, 0, none⟩) (m + 1) cap) (m + 1) (ints l) := by rw [hw2]; exact own_picked HO1.out hg
    have hgl2 := hr2.lt
    have HR2 := Lib.hid hr2
    have HO2 := Lib.hid ho2
    clear hw2 hr2 ho2 HR1 HO1 hb1
    go_wp2_with fail
    refine (one_any (HR2.out.alloc _) (by omega) w2.heap.size 7 7 [0, 192, 219, 220, 1, 2, 200] rfl (by omega) (by omega) (by omega) (new_ints w2 [0, 192, 219, 220, 1, 2, 200] _)).mono ?_
    rintro e w3 ⟨x, mx3, rfl, hx, hw3⟩
    have hr3 : Rd B w3 g (p + 1 + 1 + 1) := by rw [hw3]; exact (HR2.out.alloc _).picked mx3
    have hb3 : Below B w w3 := by rw [hw3]; exact (hb2.alloc (by omega) _).trans (picked_below (HR2.out.alloc _) mx3)
    have ho3 : w3.ownsRow W0 3 1 (.slice (some ⟨gg, 0, none⟩) (m + 1) cap) (m + 1) (ints l) := by rw [hw3]; exact own_picked (HO2.out.alloc _) hg
    have hc3 := ho3.cellAt j (by omega)
    rw [ints_get l j (by omega)] at hc3
    have hf3 := ho3.frozenAt j
    have hst := ho3.stored j (.int .i64 x)
    rw [ints_set] at hst
    have hb4 := hb3.setCell (p := ⟨gg, j, none⟩) (by show B ≤ gg; omega) (.int .i64 x)
    have hr4 : Rd B (w3.setCell ⟨gg, j, none⟩ (.int .i64 x)) g (p + 1 + 1 + 1) := rd_grown hr3 hst.2 ((Below.refl B w3).setCell (p := ⟨gg, j, none⟩) (by show B ≤ gg; omega) _) (fun k hk => by cases hk; omega)
    have HR4 := Lib.hid hr4
    have HO4 := Lib.hid hst.1
    clear hw3 hr3 ho3 hst hr4 HR2 HO2 hb2 hx hb3
    generalize l.getD j 0 = y at *
    go_wp2_with fail
    refine (pick_any HR4.out (by omega) 8 (by omega) (by omega)).mono ?_
    rintro e w5 ⟨d, md, rfl, hd, hw5⟩
    have hb5 : Below B w w5 := by rw [hw5]; exact hb4.trans (picked_below HR4.out md)
    have ho5 : w5.ownsRow W0 3 1 (.slice (some ⟨gg, 0, none⟩) (m + 1) cap) (m + 1) (ints (l.set j x)) := by rw [hw5]; exact own_picked HO4.out hg
    have hl5 : (l.set j x).length = m + 1 := by simpa using hl
    have HO5 := Lib.hid ho5
    have HL5 := Lib.hid hl5
    clear hw5 ho5 HR4 HO4 hb4 hl5
    cases hd0 : ((d : Int) == 0)
    · go_wp2
      go_ret
      exact ⟨_, l.set j x, rfl, by rw [HL5.out]; exact HO5.out, by rw [HL5.out]; omega, hb5⟩
    · go_wp2
      go_ret
      exact ⟨_, (l.set j x).take m, rfl, own_pop HL5.out HO5.out, by rw [List.length_take]; omega, hb5⟩

theorem bent_any {B W0 : Nat} {w : World} {g p : Nat} {v : Value} {l : List Int} (h : Rd B w g p) (hp : p ≤ 900000) (hg : g < W0) (hm : l.length ≤ 1000) (hown : w.ownsRow W0 3 1 v l.length (ints l)) :
    Calls Try.prog 23 #[.pointer (some ⟨g, 0, none⟩), v] w (BentPost B W0 w l.length) := by
  rcases Nat.eq_zero_or_pos l.length with h0 | h0
  · obtain rfl : l = [] := List.eq_nil_of_length_eq_zero h0
    obtain ⟨A, c, rfl⟩ := own_form hown
    exact bent_nil (p := p) A c hown
  · obtain ⟨m, hm1⟩ : ∃ m, l.length = m + 1 := ⟨l.length - 1, by omega⟩
    rcases hown.2 with ⟨_, h1⟩ | ⟨gg, cap, cur, rfl, _⟩
    · omega
    · rw [hm1] at hown ⊢
      exact bent_at h hp hg hm1 (by omega) hown
end Go.Proofs.Ytimlmbbegeaakaa
