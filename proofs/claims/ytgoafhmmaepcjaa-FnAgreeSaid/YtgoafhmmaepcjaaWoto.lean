/-
  The walks of the laws' functions that measure and copy offers. Conditions: where the list of needs lies, and its length.
-/
import Derived.Test.YtgoafhmmaepcjaaWofr
import Derived.Test.YtgoafhmmaepcjaaWbk
namespace Go.Proofs.Ytgoafhmmaepcjaa
open Go.RowKit
set_option linter.unusedVariables false

theorem Blk.set4 {w : World} {g : Nat} {t : TypeId} {x0 x1 x2 x3 : Value} (h : Blk w g t #[x0, x1, x2, x3]) (a b c d : Value) :
    Blk ((((w.setCell ⟨g, 0, none⟩ a).setCell ⟨g, 1, none⟩ b).setCell ⟨g, 2, none⟩ c).setCell ⟨g, 3, none⟩ d) g t #[a, b, c, d] := by
  have := (((h.set_ 0 a).set_ 1 b).set_ 2 c).set_ 3 d
  simpa using this
theorem toIL_any (w : World) (v : Value) (xs : List Int) (h : Rds w v xs) (hn : xs.length ≤ 1048576) :
    Calls Try.prog 35 #[v] w fun e w' => ∃ u, e = .returned u ∧ OwnL w' w.heap.size u xs ∧ Below w.heap.size w w' :=
  (toI_any w v xs h hn).mono fun e w' ⟨h1, h2, h3⟩ => ⟨_, h1, h2, h3⟩

/-- What is left of room behind n numbers. -/
def szR (l : Int) (n : Nat) : Int := if l - (n : Int) < 0 then -1 else l - (n : Int)
set_option maxHeartbeats 400000 in
theorem szI_any (A : Option Addr) (n c : Nat) (l : Int) (w : World) (hl : -1 ≤ l ∧ l ≤ 1048576) (hn : n ≤ maxLen) :
    Calls Try.prog 33 #[.slice A n c, .int .i64 l] w fun e w' => e = .returned (.int .i64 (szR l n)) ∧ w = w' := by
  have hn2 : (n : Int) ≤ 9223372036854775807 := by unfold maxLen at hn; omega
  unfold szR
  by_cases h : l - (n : Int) < 0
  · rw [if_pos h]
    go_enter Try.func33, Try.ntmps33
    go_wp2
    go_ret
    exact ⟨rfl, rfl⟩
  · rw [if_neg h]
    go_enter Try.func33, Try.ntmps33
    go_wp2
    go_ret
    exact ⟨rfl, rfl⟩

set_option maxHeartbeats 800000 in
theorem szO_any (lo hi ca : Int) (A : Option Addr) (n c : Nat) (l : Int) (w : World) (hl : 0 ≤ l ∧ l ≤ 1048576) (hn : n ≤ maxLen) :
    Calls Try.prog 17 #[.agg #[.int .i64 lo, .int .i64 hi, .int .i64 ca, .slice A n c], .int .i64 l] w fun e w' => e = .returned (.int .i64 (szR l n)) ∧ Below w.heap.size w w' := by
  have hb0 := (Below.refl w.heap.size w).alloc (Nat.le_refl _) (.cells #[.int .i64 lo, .int .i64 hi, .int .i64 ca, .slice A n c] 31)
  obtain ⟨c0, c1, c2, c3⟩ := (Blk.new w 31 #[.int .i64 lo, .int .i64 hi, .int .i64 ca, .slice A n c]).c4
  have HBL := Lib.hid hb0
  have HS := Lib.hid (fun W => szI_any A n c l W ⟨by omega, hl.2⟩ hn)
  have hr : szR l n = -1 ∨ 0 ≤ szR l n := by unfold szR; split <;> omega
  generalize szR l n = r at *
  clear hb0
  go_enter Try.func17, Try.ntmps17
  go_upto_region 1 with fail
  generalize w.alloc (.cells #[.int .i64 lo, .int .i64 hi, .int .i64 ca, .slice A n c] 31) = w1 at *
  go_wp2_with fail
  refine (HS.out w1).mono ?_
  rintro e w2 ⟨rfl, rfl⟩
  rcases hr with rfl | h0
  · go_wp2
    go_ret
    exact ⟨rfl, HBL.out⟩
  · have hd : decide (r < 0) = false := decide_eq_false (by omega)
    go_wp2
    go_ret
    exact ⟨rfl, HBL.out⟩

set_option maxHeartbeats 1600000 in
theorem toO_any (o : Ofr) (v : Value) (w : World) (h : Rds w v o.nd) (hn : o.nd.length ≤ 1048576) :
    Calls Try.prog 19 #[ofv o v] w fun e w' => ∃ u, e = .returned (ofv o u) ∧ OwnL w' w.heap.size u o.nd ∧ Below w.heap.size w w' := by
  obtain ⟨lo, hi, ca, nd⟩ := o
  simp only at h hn ⊢
  unfold ofv
  simp only
  have hb0 := (((Below.refl w.heap.size w).alloc (Nat.le_refl _) (.cells #[.int .i64 lo, .int .i64 hi, .int .i64 ca, v] 31)).alloc (by simp) (.cells #[.int .i64 0, .int .i64 0, .int .i64 0, .slice none 0 0] 34)).alloc (by simp; omega) (.cells #[.int .i64 lo, .int .i64 hi, .int .i64 ca, .slice none 0 0] 34)
  have hr := h.more6 hb0
  have k0 := ((Blk.new w 31 #[.int .i64 lo, .int .i64 hi, .int .i64 ca, v]).alloc (.cells #[.int .i64 0, .int .i64 0, .int .i64 0, .slice none 0 0] 34)).alloc (.cells #[.int .i64 lo, .int .i64 hi, .int .i64 ca, .slice none 0 0] 34)
  have k1 := (Blk.new (w.alloc (.cells #[.int .i64 lo, .int .i64 hi, .int .i64 ca, v] 31)) 34 #[.int .i64 0, .int .i64 0, .int .i64 0, .slice none 0 0]).alloc (.cells #[.int .i64 lo, .int .i64 hi, .int .i64 ca, .slice none 0 0] 34)
  have k2 := Blk.new ((w.alloc (.cells #[.int .i64 lo, .int .i64 hi, .int .i64 ca, v] 31)).alloc (.cells #[.int .i64 0, .int .i64 0, .int .i64 0, .slice none 0 0] 34)) 34 #[.int .i64 lo, .int .i64 hi, .int .i64 ca, .slice none 0 0]
  rw [World.size_alloc] at k1
  rw [World.size_alloc, World.size_alloc] at k2
  have hz : (((w.alloc (.cells #[.int .i64 lo, .int .i64 hi, .int .i64 ca, v] 31)).alloc (.cells #[.int .i64 0, .int .i64 0, .int .i64 0, .slice none 0 0] 34)).alloc (.cells #[.int .i64 lo, .int .i64 hi, .int .i64 ca, .slice none 0 0] 34)).heap.size = w.heap.size + 3 := by simp
  have HBL := Lib.hid hb0
  have HZ := Lib.hid hz
  have HK1 := Lib.hid k1
  have HK2 := Lib.hid k2
  have HRD := Lib.hid hr
  obtain ⟨a0, a1, a2, a3⟩ := k0.c4
  clear hb0 h k0 k1 k2 hr hz
  go_enter Try.func19, Try.ntmps19
  go_upto_region 5 with fail
  generalize ((w.alloc (.cells #[.int .i64 lo, .int .i64 hi, .int .i64 ca, v] 31)).alloc (.cells #[.int .i64 0, .int .i64 0, .int .i64 0, .slice none 0 0] 34)).alloc (.cells #[.int .i64 lo, .int .i64 hi, .int .i64 ca, .slice none 0 0] 34) = w3 at *
  go_wp2_with fail
  refine (toIL_any w3 v nd HRD.out hn).mono ?_
  rintro e w4 ⟨u, rfl, hu, hb4⟩
  have hz3 := HZ.out
  have q1 := HK1.out.below hb4 (by omega)
  have q2 := HK2.out.below hb4 (by omega)
  have HB4 := Lib.hid (HBL.out.trans (hb4.mono (by omega)))
  have HU := Lib.hid hu
  have HQ1 := Lib.hid q1
  obtain ⟨b0, b1, b2, b3⟩ := q2.c4
  obtain ⟨d0, d1, d2, d3⟩ := q1.c4
  have f3 := q2.frozen 3
  have f20 := q2.frozen 0
  have f21 := q2.frozen 1
  have f22 := q2.frozen 2
  have f10 := q1.frozen 0
  have f11 := q1.frozen 1
  have f12 := q1.frozen 2
  have f13 := q1.frozen 3
  have HZ4 : Hid (w.heap.size + 3 ≤ w3.heap.size) := Lib.hid (by omega)
  obtain ⟨Au, cu, rfl⟩ := hu.form
  have HZ5 : Hid (w.heap.size ≤ w3.heap.size) := Lib.hid (by omega)
  clear hz3 hu hb4 HBL HRD q1 q2
  go_wp2
  have hB : ∀ g, (Value.slice Au nd.length cu).ownBlock = some g → w.heap.size + 3 ≤ g := fun g hg => Nat.le_trans HZ4.out (World.ownsRow.lt HU.out g hg).1
  have hne : ∀ (k i : Nat), k < 3 → (Value.slice Au nd.length cu).ownBlock ≠ some (⟨w.heap.size + k, i, none⟩ : Addr).block := fun k i hk e => by have := hB _ e; simp at this; omega
  have o1 : ∀ (W : World) (k i : Nat) (y : Value), k < 3 → OwnL W w3.heap.size (.slice Au nd.length cu) nd → OwnL (W.setCell ⟨w.heap.size + k, i, none⟩ y) w3.heap.size (.slice Au nd.length cu) nd := fun W k i y hk h => ownsRow_setCell_other (a := ⟨w.heap.size + k, i, none⟩) h (hne k i hk) y
  have hown := o1 _ 1 3 (.slice Au nd.length cu) (by omega) (o1 _ 1 2 (.int .i64 ca) (by omega) (o1 _ 1 1 (.int .i64 hi) (by omega) (o1 _ 1 0 (.int .i64 lo) (by omega) (o1 _ 2 3 (.slice Au nd.length cu) (by omega) HU.out))))
  have b1 : ∀ (W : World) (k i : Nat) (y : Value), Below w.heap.size w W → Below w.heap.size w (W.setCell ⟨w.heap.size + k, i, none⟩ y) := fun W k i y h => h.setCell (p := ⟨w.heap.size + k, i, none⟩) (by show w.heap.size ≤ w.heap.size + k; omega) y
  have hbel := b1 _ 1 3 (.slice Au nd.length cu) (b1 _ 1 2 (.int .i64 ca) (b1 _ 1 1 (.int .i64 hi) (b1 _ 1 0 (.int .i64 lo) (b1 _ 2 3 (.slice Au nd.length cu) HB4.out))))
  exact bodyPost_ret (results_cell_row (p := 2) (ty := 34) rfl _ _ (w.heap.size + 1) 34 #[.int .i64 lo, .int .i64 hi, .int .i64 ca, .slice Au nd.length cu] (0, 0) _ rfl
    (Blk.set4 (HQ1.out.far (p := ⟨w.heap.size + 1 + 1, 3, none⟩) (by show w.heap.size + 1 ≠ w.heap.size + 1 + 1; omega) _) _ _ _ _) Try.underlying34 rfl (by kernel_rfl)) rfl ⟨_, rfl, hown.base HZ5.out, hbel⟩
end Go.Proofs.Ytgoafhmmaepcjaa
