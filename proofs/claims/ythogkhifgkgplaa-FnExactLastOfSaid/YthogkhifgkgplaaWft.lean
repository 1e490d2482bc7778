/-
  The walks of the laws' functions that copy and mark fields. Conditions: where the lists lie, and the lengths that are typed.
-/
import Derived.Test.YthogkhifgkgplaaWfe
import Derived.Lib.SmallJoins
import Derived.OwnWalk
import Derived.OneCell
namespace Go.Proofs.Ythogkhifgkgplaa
open Go.RowKit
set_option linter.unusedVariables false

theorem grown_set7 {w w' : World} {g i : Nat} {u : Value} (h : w.grownBy w' (some g)) : w.grownBy (w'.setCell ⟨g, i, none⟩ u) (some g) :=
  ⟨h.os, h.tape, h.output, by simpa [World.setCell] using h.size, fun j hj hn => (Below.heap_setCell w' ⟨g, i, none⟩ u j (fun e => hn (by rw [e]))).trans (h.block j hj hn)⟩
theorem own_base7 {w : World} {B B' : Nat} {v : Value} {l : List Int} (h : OwnL w B v l) (hB : B' ≤ B) : OwnL w B' v l := h.base hB
theorem Blk.set2 {w : World} {g : Nat} {t : TypeId} {x0 x1 : Value} (h : Blk w g t #[x0, x1]) (a b : Value) : Blk ((w.setCell ⟨g, 0, none⟩ a).setCell ⟨g, 1, none⟩ b) g t #[a, b] := by
  have := (h.set_ 0 a).set_ 1 b
  simpa using this

set_option maxHeartbeats 1600000 in
theorem toF_any (t : Int) (bs : List Int) (v : Value) (w : World) (h : Rds w v bs) (hn : bs.length ≤ 1048576) :
    Calls Try.prog 22 #[.agg #[.int .i64 t, v]] w fun e w' => ∃ g, e = .returned (.agg #[.int .i64 t, .slice (some ⟨g, 0, none⟩) bs.length bs.length]) ∧ w.heap.size ≤ g ∧ g < w'.heap.size ∧ OwnL w' w.heap.size (.slice (some ⟨g, 0, none⟩) bs.length bs.length) bs ∧ Below w.heap.size w w' := by
  have hb0 := (((Below.refl w.heap.size w).alloc (Nat.le_refl _) (.cells #[.int .i64 t, v] 43)).alloc (by simp) (.cells #[.int .i64 0, .slice none 0 0] 40)).alloc (by simp; omega) (.cells #[.int .i64 t, .slice none 0 0] 40)
  have hr := h.more8 hb0
  have k0 := ((Blk.new w 43 #[.int .i64 t, v]).alloc (.cells #[.int .i64 0, .slice none 0 0] 40)).alloc (.cells #[.int .i64 t, .slice none 0 0] 40)
  have k1 := (Blk.new (w.alloc (.cells #[.int .i64 t, v] 43)) 40 #[.int .i64 0, .slice none 0 0]).alloc (.cells #[.int .i64 t, .slice none 0 0] 40)
  have k2 := Blk.new ((w.alloc (.cells #[.int .i64 t, v] 43)).alloc (.cells #[.int .i64 0, .slice none 0 0] 40)) 40 #[.int .i64 t, .slice none 0 0]
  rw [World.size_alloc] at k1
  rw [World.size_alloc, World.size_alloc] at k2
  have hz : (((w.alloc (.cells #[.int .i64 t, v] 43)).alloc (.cells #[.int .i64 0, .slice none 0 0] 40)).alloc (.cells #[.int .i64 t, .slice none 0 0] 40)).heap.size = w.heap.size + 3 := by simp
  have HBL := Lib.hid hb0
  have HZ := Lib.hid hz
  have HK1 := Lib.hid k1
  have HK2 := Lib.hid k2
  have HRD := Lib.hid hr
  obtain ⟨a0, a1⟩ := two_blk k0
  clear hb0 h k0 k1 k2 hr hz
  go_enter Try.func22, Try.ntmps22
  go_upto_region 3 with fail
  generalize ((w.alloc (.cells #[.int .i64 t, v] 43)).alloc (.cells #[.int .i64 0, .slice none 0 0] 40)).alloc (.cells #[.int .i64 t, .slice none 0 0] 40) = w3 at *
  go_wp2_with fail
  refine (toI_any w3 v bs HRD.out hn).mono ?_
  rintro e w4 ⟨rfl, hu0, hb4⟩
  have hu : OwnL w4 w3.heap.size (.slice (some ⟨w3.heap.size, 0, none⟩) bs.length bs.length) bs := hu0
  have hgl : w3.heap.size < w4.heap.size := (World.ownsRow.lt hu _ rfl).2
  have hz3 := HZ.out
  have q1 := HK1.out.below hb4 (by omega)
  have q2 := HK2.out.below hb4 (by omega)
  have HB4 := Lib.hid (HBL.out.trans (hb4.mono (by omega)))
  have HU := Lib.hid hu
  have HQ1 := Lib.hid q1
  have HGL := Lib.hid hgl
  obtain ⟨b0, b1⟩ := two_blk q2
  obtain ⟨d0, d1⟩ := two_blk q1
  have f20 := q2.frozen 0
  have f21 := q2.frozen 1
  have f10 := q1.frozen 0
  have f11 := q1.frozen 1
  have HZ4 : Hid (w.heap.size + 3 ≤ w3.heap.size) := Lib.hid (by omega)
  have HZ5 : Hid (w.heap.size ≤ w3.heap.size) := Lib.hid (by omega)
  clear hz3 hu0 hu hb4 HBL HRD q1 q2 HZ hgl
  generalize w3.heap.size = g at *
  go_wp2
  have hne : ∀ (k i : Nat), k < 3 → (Value.slice (some ⟨g, 0, none⟩) bs.length bs.length).ownBlock ≠ some (⟨w.heap.size + k, i, none⟩ : Addr).block := fun k i hk e => by have := HZ4.out; simp [Value.ownBlock] at e; omega
  have o1 : ∀ (W : World) (k i : Nat) (y : Value), k < 3 → OwnL W g (.slice (some ⟨g, 0, none⟩) bs.length bs.length) bs → OwnL (W.setCell ⟨w.heap.size + k, i, none⟩ y) g (.slice (some ⟨g, 0, none⟩) bs.length bs.length) bs := fun W k i y hk h => ownsRow_setCell_other (a := ⟨w.heap.size + k, i, none⟩) h (hne k i hk) y
  have hown := o1 _ 1 1 (.slice (some ⟨g, 0, none⟩) bs.length bs.length) (by omega) (o1 _ 1 0 (.int .i64 t) (by omega) (o1 _ 2 1 (.slice (some ⟨g, 0, none⟩) bs.length bs.length) (by omega) HU.out))
  have b1 : ∀ (W : World) (k i : Nat) (y : Value), Below w.heap.size w W → Below w.heap.size w (W.setCell ⟨w.heap.size + k, i, none⟩ y) := fun W k i y h => h.setCell (p := ⟨w.heap.size + k, i, none⟩) (by show w.heap.size ≤ w.heap.size + k; omega) y
  have hbel := b1 _ 1 1 (.slice (some ⟨g, 0, none⟩) bs.length bs.length) (b1 _ 1 0 (.int .i64 t) (b1 _ 2 1 (.slice (some ⟨g, 0, none⟩) bs.length bs.length) HB4.out))
  exact bodyPost_ret (results_cell_row (p := 2) (ty := 40) rfl _ _ (w.heap.size + 1) 40 #[.int .i64 t, .slice (some ⟨g, 0, none⟩) bs.length bs.length] (0, 0) _ rfl
    (Blk.set2 (HQ1.out.far (p := ⟨w.heap.size + 1 + 1, 1, none⟩) (by show w.heap.size + 1 ≠ w.heap.size + 1 + 1; omega) _) _ _) Try.underlying40 rfl (by kernel_rfl)) rfl ⟨g, rfl, HZ5.out, by have := HGL.out; simpa [World.setCell] using this, hown.base HZ5.out, hbel⟩
end Go.Proofs.Ythogkhifgkgplaa
