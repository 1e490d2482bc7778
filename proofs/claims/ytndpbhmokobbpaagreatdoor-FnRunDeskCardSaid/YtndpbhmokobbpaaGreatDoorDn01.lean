/-
  The walks of the reader of numbers that are drawn: pick, one and of. Conditions: where the reader lies, and the bounds that are typed.
  The walk that makes a reader of numbers. Condition: the code is a list that can be.
  The walk that draws one of several texts. Conditions: where the reader lies, and the bounds that are typed.
-/
import Derived.Test.YtndpbhmokobbpaaGreatDoorDm01
import Derived.Test.YtndpbhmokobbpaaGreatDoorRows
import Derived.WalkLawsBesides
import Derived.WalkSpells
import Derived.Outline
import Derived.BigQuiet
import Derived.Deep.QuietTactic
import Derived.IntWalk
import Derived.OpenShut
namespace Go.Proofs.YtndpbhmokobbpaaGreatDoor
open Go.RowKit
set_option linter.unusedVariables false

/-- Block g is a reader of the bytes at A that stands at p. -/
def RdBlk (w : World) (g : Nat) (A : Option Addr) (n c p : Nat) : Prop := w.heap[g]? = some (.cells #[.slice A n c, .int .i64 p] 57 (0, 0))
theorem RdBlk.c0 {w : World} {g : Nat} {A : Option Addr} {n c p : Nat} (h : RdBlk w g A n c p) : w.cell? ⟨g, 0, none⟩ = some (.slice A n c) := cell_of_row w g 0 _ _ (0, 0) h
theorem RdBlk.c1 {w : World} {g : Nat} {A : Option Addr} {n c p : Nat} (h : RdBlk w g A n c p) : w.cell? ⟨g, 1, none⟩ = some (.int .i64 p) := cell_of_row w g 1 _ _ (0, 0) h
theorem RdBlk.f {w : World} {g i : Nat} {A : Option Addr} {n c p : Nat} (h : RdBlk w g A n c p) : w.frozen? ⟨g, i, none⟩ = false := by
  unfold RdBlk at h
  simp [World.frozen?, h]

/-- What pick leaves: a number below n, and the reader one further. -/
def PickPost (w : World) (g p : Nat) (n : Int) (e : Ending) (w' : World) : Prop :=
  ∃ (r m : Nat), e = .returned (.int .i64 r) ∧ (r : Int) < n ∧ w' = (w.setCell ⟨g, 1, none⟩ (.int .i64 ((p + 1 : Nat) : Int))).drewN m

set_option maxHeartbeats 400000 in
theorem pick_nil (w : World) (g p c : Nat) (A : Option Addr) (n : Int) (h : RdBlk w g A 0 c p) (hp : p ≤ 1000000) (hn : 1 ≤ n) (hn2 : n ≤ 1000000) :
    Calls Tryz.prog 17 #[.pointer (some ⟨g, 0, none⟩), .int .i64 n] w (PickPost w g p n) := by
  have h0 := h.c0
  have h1 := h.c1
  have f1 := h.f (i := 1)
  clear h
  go_enter Tryz.func17, Tryz.ntmps17
  go_wp2
  go_ret
  exact ⟨0, 0, rfl, by omega, rfl⟩

set_option maxHeartbeats 400000 in
theorem pick_at (w : World) (g p c l b off : Nat) (z : Nat → Int) (n : Int) (h : RdBlk w g (some ⟨b, off, none⟩) l c p) (hp : p ≤ 1000000) (hl : l ≤ 2000) (hn : 1 ≤ n) (hn2 : n ≤ 1000000) (hbg : b ≠ g)
    (hc : ∀ j, j < l → w.cell? ⟨b, off + j, none⟩ = some (.int .u8 (z j))) (hz : ∀ j, 0 ≤ z j ∧ z j ≤ 255) (hpl : p < l) :
    Calls Tryz.prog 17 #[.pointer (some ⟨g, 0, none⟩), .int .i64 n] w (PickPost w g p n) := by
  have h0 := h.c0
  have h1 := h.c1
  have f1 := h.f (i := 1)
  have hcp := hc p hpl
  obtain ⟨hz0, hz1⟩ := hz p
  generalize z p = zp at *
  have hl0 : ((l : Int) == 0) = false := by simp; omega
  clear h hc hz
  go_enter Tryz.func17, Tryz.ntmps17
  go_wp2
  go_ret
  have hm := Int.emod_nonneg zp (b := n) (by omega)
  have hm2 := Int.emod_lt_of_pos zp (b := n) (by omega)
  exact ⟨(zp % n).toNat, 0, ret_int (by omega), by omega, rfl⟩

theorem wrap_id (x : Int) (h : -9223372036854775808 ≤ x ∧ x ≤ 9223372036854775807) : IntKind.i64.wrap x = x := IntWalk.i64_in _ h
theorem run_rem (x y : Int) (r : Nat) (hx : 0 ≤ x) (hy : 1 ≤ y) (h : x % y = r) (W : World) : (Op.intDiv .rem .i64 x y).run Tryz.prog W = .ok (.int .i64 (r : Int)) W := by
  unfold Op.intDiv
  rw [if_neg (by omega)]
  simp only [Sem.run_pure]
  rw [Int.tmod_eq_emod_of_nonneg hx, h]
theorem run_quo (x y : Int) (r : Nat) (hx : 0 ≤ x ∧ x ≤ 9223372036854775807) (hy : 1 ≤ y) (h : x / y = r) (W : World) : (Op.intDiv .quo .i64 x y).run Tryz.prog W = .ok (.int .i64 (r : Int)) W := by
  unfold Op.intDiv
  rw [if_neg (by omega)]
  simp only [Sem.run_pure]
  rw [IntWalk.i64_quo _ _ ⟨hx.1, hx.2, hy⟩, h]

theorem ofInt_i64 (a : Nat) (ha : a < 9223372036854775808) : (BitVec.ofInt 64 (a : Int)).toNat = a := by
  rw [BitVec.ofInt_natCast, BitVec.toNat_ofNat]; exact Nat.mod_eq_of_lt (by omega)
theorem i64_xor_nat (a b : Nat) (ha : a < 9223372036854775808) (hb : b < 9223372036854775808) : bits .xor .i64 (a : Int) (b : Int) = ((a ^^^ b : Nat) : Int) := by
  have hx : a ^^^ b < 2 ^ 63 := Nat.xor_lt_two_pow (by omega) (by omega)
  show IntKind.i64.wrap ((BitVec.ofInt 64 (a : Int) ^^^ BitVec.ofInt 64 (b : Int)).toNat : Int) = _
  rw [BitVec.toNat_xor, ofInt_i64 a ha, ofInt_i64 b hb, IntKind.wrap_i64]
  omega

set_option maxHeartbeats 1000000 in
theorem pick_far (w : World) (g p c l b off : Nat) (z : Nat → Int) (n : Int) (h : RdBlk w g (some ⟨b, off, none⟩) l c p) (hp : p ≤ 1000000) (hl : l ≤ 2000) (hn : 1 ≤ n) (hn2 : n ≤ 1000000) (hbg : b ≠ g)
    (hc : ∀ j, j < l → w.cell? ⟨b, off + j, none⟩ = some (.int .u8 (z j))) (hz : ∀ j, 0 ≤ z j ∧ z j ≤ 255) (hpl : l ≤ p) (hl1 : 1 ≤ l) :
    Calls Tryz.prog 17 #[.pointer (some ⟨g, 0, none⟩), .int .i64 n] w (PickPost w g p n) := by
  have h0 := h.c0
  have h1 := h.c1
  have f1 := h.f (i := 1)
  have hi1 : p % l < l := Nat.mod_lt _ (by omega)
  have hi2 : (p * 7 + 3) % l < l := Nat.mod_lt _ (by omega)
  have hd : p / l ≤ p := Nat.div_le_self _ _
  have hc1 := hc _ hi1
  have hc2 := hc _ hi2
  obtain ⟨hz1, hz1'⟩ := hz (p % l)
  obtain ⟨hz2, hz2'⟩ := hz ((p * 7 + 3) % l)
  generalize z (p % l) = z1 at *
  generalize z ((p * 7 + 3) % l) = z2 at *
  have hne : ¬ l = 0 := by omega
  have q1 : (p : Int).tmod (l : Int) = ((p % l : Nat) : Int) := by rw [Int.tmod_eq_emod_of_nonneg (by omega)]; simp
  have q2 : ((p : Int) * 7 + 3).tmod (l : Int) = (((p * 7 + 3) % l : Nat) : Int) := by rw [Int.tmod_eq_emod_of_nonneg (by omega)]; simp
  generalize p % l = i1 at *
  generalize (p * 7 + 3) % l = i2 at *
  have b1 : (0 : Int) ≤ (i1 : Int) := by omega
  have b1' : (i1 : Int) < (l : Int) := by omega
  have b2 : (0 : Int) ≤ (i2 : Int) := by omega
  have b2' : (i2 : Int) < (l : Int) := by omega
  have e1 := wrap_id ((p : Int) * 7) (by omega)
  have e2 := wrap_id ((p : Int) * 7 + 3) (by omega)
  have e3 := wrap_id z1 (by omega)
  have e4 := wrap_id z2 (by omega)
  have e5 := wrap_id (z1 * 131) (by omega)
  have e6 := wrap_id (z2 * 1117) (by omega)
  have e7 := wrap_id (z1 * 131 + z2 * 1117) (by omega)
  have e8 := wrap_id ((p : Int) * 29) (by omega)
  have e9 := wrap_id (z1 * 131 + z2 * 1117 + (p : Int) * 29) (by omega)
  have hd2 : (0 : Int) ≤ (p : Int) / (l : Int) ∧ (p : Int) / (l : Int) ≤ p := ⟨Int.ediv_nonneg (by omega) (by omega), Int.ediv_le_self _ (by omega)⟩
  obtain ⟨x, hx1, hx⟩ : ∃ x : Nat, x ≤ 100000000 ∧ wrap64 (z1 * 131 + z2 * 1117 + (p : Int) * 29 + wrap64 (wrap64 ((p : Int) / (l : Int)) * 53)) = x := by
    rw [IntWalk.wrap64_in ((p : Int) / (l : Int)) (by omega), IntWalk.wrap64_in ((p : Int) / (l : Int) * 53) (by omega), IntWalk.wrap64_in _ (by omega)]
    exact ⟨(z1 * 131 + z2 * 1117 + (p : Int) * 29 + (p : Int) / (l : Int) * 53).toNat, by omega, by omega⟩
  have hl0 : ((l : Int) == 0) = false := by simp; omega
  have HX := Lib.hid hx
  clear h hc hz hx hd2 hd
  go_enter Tryz.func17, Tryz.ntmps17
  go_wp2
  go_quiet (fail)
  rw [HX.out]
  clear q1 q2 e1 e2 e3 e4 e5 e6 e7 e8 e9 b1 b1' b2 b2' hi1 hi2 hc1 hc2 hz1 hz1' hz2 hz2' HX
  have hxd : (x : Int) / 64 = ((x / 64 : Nat) : Int) := by simp
  have hxor := i64_xor_nat x (x / 64) (by omega) (by omega)
  have hlt : x ^^^ (x / 64) < 2 ^ 63 := Nat.xor_lt_two_pow (by omega) (by omega)
  generalize x / 64 = y at *
  generalize x ^^^ y = u at *
  have HL := Lib.hid hlt
  have hu : u ≤ 9223372036854775807 := by omega
  clear hlt
  go_wp2
  go_ret
  have hm := Int.emod_nonneg (u : Int) (b := n) (by omega)
  have hm2 := Int.emod_lt_of_pos (u : Int) (b := n) (by omega)
  exact ⟨((u : Int) % n).toNat, nq, ret_int (by omega), by omega, rfl⟩

/-- Block g is a reader that stands at p, of bytes that lie below block B. -/
def Rd (B : Nat) (w : World) (g p : Nat) : Prop :=
  B ≤ g ∧ ∃ (A : Option Addr) (n c : Nat) (z : Nat → Int), RdBlk w g A n c p ∧ n ≤ 2000 ∧ (∀ j, 0 ≤ z j ∧ z j ≤ 255) ∧
    (0 < n → ∃ b off, A = some ⟨b, off, none⟩ ∧ b < B ∧ ∀ j, j < n → w.cell? ⟨b, off + j, none⟩ = some (.int .u8 (z j)))

theorem Rd.lt {B : Nat} {w : World} {g p : Nat} (h : Rd B w g p) : g < w.heap.size := by
  obtain ⟨_, A, n, c, z, h1, _⟩ := h
  exact (Array.getElem?_eq_some_iff.1 h1).1
theorem Rd.keep {B : Nat} {w w' : World} {g p : Nat} (h : Rd B w g p) (hb : Below B w w') (hg : w'.heap[g]? = w.heap[g]?) : Rd B w' g p := by
  obtain ⟨h0, A, n, c, z, h1, h2, h3, h4⟩ := h
  refine ⟨h0, A, n, c, z, hg.trans h1, h2, h3, fun hn => ?_⟩
  obtain ⟨b, off, e, hbB, hc⟩ := h4 hn
  exact ⟨b, off, e, hbB, fun j hj => (hb.cell (p := ⟨b, off + j, none⟩) hbB).trans (hc j hj)⟩
theorem Rd.alloc {B : Nat} {w : World} {g p : Nat} (h : Rd B w g p) (o : Obj) : Rd B (w.alloc o) g p :=
  h.keep ((Below.refl B w).alloc (by have := h.lt; have := h.1; omega) o) (Below.heap_alloc w o g h.lt)
theorem Rd.drew {B : Nat} {w : World} {g p : Nat} (h : Rd B w g p) : Rd B w.drew g p := h
/-- The world behind a draw of one number. -/
def picked (w : World) (g p m : Nat) : World := (w.setCell ⟨g, 1, none⟩ (.int .i64 ((p + 1 : Nat) : Int))).drewN m
theorem picked_below {B : Nat} {w : World} {g p : Nat} (h : Rd B w g p) (m : Nat) : Below B w (picked w g p m) :=
  below_drewN ((Below.refl B w).setCell (p := ⟨g, 1, none⟩) h.1 _) m
theorem picked_size (w : World) (g p m : Nat) : (picked w g p m).heap.size = w.heap.size := by
  show (w.setCell _ _).heap.size = _
  simp [World.setCell]
theorem picked_other (w : World) (g p m k : Nat) (h : k ≠ g) : (picked w g p m).heap[k]? = w.heap[k]? := Below.heap_setCell w ⟨g, 1, none⟩ _ k h
theorem picked_cell (w : World) (g p m b i : Nat) (h : b ≠ g) : (picked w g p m).cell? ⟨b, i, none⟩ = w.cell? ⟨b, i, none⟩ := World.cell?_of_block (a := ⟨b, i, none⟩) (picked_other w g p m b h)
theorem Rd.picked {B : Nat} {w : World} {g p : Nat} (h : Rd B w g p) (m : Nat) : Rd B (picked w g p m) g (p + 1) := by
  have hb := picked_below h m
  obtain ⟨h0, A, n, c, z, h1, h2, h3, h4⟩ := h
  refine ⟨h0, A, n, c, z, ?_, h2, h3, fun hn => ?_⟩
  · show (w.setCell ⟨g, 1, none⟩ _).heap[g]? = _
    unfold RdBlk at h1
    simp [World.setCell, Array.getElem?_modify, h1]
  · obtain ⟨b, off, e, hbB, hc⟩ := h4 hn
    exact ⟨b, off, e, hbB, fun j hj => (hb.cell (p := ⟨b, off + j, none⟩) hbB).trans (hc j hj)⟩

theorem pick_any {B : Nat} {w : World} {g p : Nat} (h : Rd B w g p) (hp : p ≤ 1000000) (n : Int) (hn : 1 ≤ n) (hn2 : n ≤ 1000000) :
    Calls Tryz.prog 17 #[.pointer (some ⟨g, 0, none⟩), .int .i64 n] w
      fun e w' => ∃ (r m : Nat), e = .returned (.int .i64 r) ∧ (r : Int) < n ∧ w' = picked w g p m := by
  obtain ⟨h0, A, l, c, z, h1, h2, h3, h4⟩ := h
  rcases Nat.eq_zero_or_pos l with rfl | hl
  · exact pick_nil w g p c A n h1 hp hn hn2
  · obtain ⟨b, off, rfl, hbB, hc⟩ := h4 hl
    by_cases hpl : p < l
    · exact pick_at w g p c l b off z n h1 hp h2 hn hn2 (by omega) hc h3 hpl
    · exact pick_far w g p c l b off z n h1 hp h2 hn hn2 (by omega) hc h3 (by omega) hl

set_option maxHeartbeats 400000 in
theorem one_any {B : Nat} {w : World} {g p : Nat} (h : Rd B w g p) (hp : p ≤ 1000000) (b len cap : Nat) (xs : List Int) (hx : xs.length = len) (h1 : 1 ≤ len) (h2 : len ≤ 1000) (hbg : b ≠ g)
    (hc : ∀ j, j < len → w.cell? ⟨b, j, none⟩ = some (.int .i64 (xs.getD j 0))) :
    Calls Tryz.prog 15 #[.pointer (some ⟨g, 0, none⟩), .slice (some ⟨b, 0, none⟩) len cap] w
      fun e w' => ∃ (x : Int) (m : Nat), e = .returned (.int .i64 x) ∧ x ∈ xs ∧ w' = picked w g p m := by
  have H := Lib.hid (pick_any h hp (len : Int) (by omega) (by omega))
  have HC := Lib.hid hc
  clear hc
  go_enter Tryz.func15, Tryz.ntmps15
  go_wp2_with fail
  refine H.out.mono ?_
  rintro e w' ⟨r, m, rfl, hr, rfl⟩
  have hrl : r < len := by omega
  have hcr := (picked_cell w g p m b r hbg).trans (HC.out r hrl)
  have hmem : xs.getD r 0 ∈ xs := by
    rw [List.getD_eq_getElem?_getD, List.getElem?_eq_getElem (by omega)]; exact List.getElem_mem _
  generalize xs.getD r 0 = x at *
  generalize hW : picked w g p m = W at *
  have HW := Lib.hid hW
  clear hW
  go_wp2
  go_ret
  exact ⟨x, m, rfl, hmem, HW.out.symm⟩

end Go.Proofs.YtndpbhmokobbpaaGreatDoor

namespace Go.Proofs.YtndpbhmokobbpaaGreatDoor
open Go.RowKit
set_option linter.unusedVariables false

theorem u8_of_wf {zs : List Int} (h : ∀ n ∈ zs, (Lit.int .u8 n).wf = true) (j : Nat) : 0 ≤ zs.getD j 0 ∧ zs.getD j 0 ≤ 255 := by
  rw [List.getD_eq_getElem?_getD]
  exact range_u8 h j

set_option maxHeartbeats 400000 in
theorem nr_any (w : World) (a : Option Addr) (len cap : Nat) (zs : List Int) (h : IsRow .u8 w a len cap zs) :
    Calls Tryz.prog 14 #[.slice a len cap] w
      fun e w' => e = .returned (.pointer (some ⟨w.heap.size, 0, none⟩)) ∧ Rd w.heap.size w' w.heap.size 0 ∧ Below w.heap.size w w' ∧ w'.heap.size = w.heap.size + 1 := by
  have fin : ∀ (n c : Nat), n ≤ 2000 → n ≤ len → Rd w.heap.size (w.alloc (.cells #[.slice a n c, .int .i64 0] 57)) w.heap.size 0 := by
    intro n c hn hnl
    refine ⟨Nat.le_refl _, a, n, c, fun j => zs.getD j 0, heap_alloc_new w _, hn, ?_, ?_⟩
    · rcases h with ⟨_, _, _, rfl⟩ | ⟨x, _, _, _, _, _, hwf⟩
      · intro j; simp
      · exact u8_of_wf hwf
    · intro h0
      rcases h with ⟨rfl, rfl, _, _⟩ | ⟨⟨b, off, spot⟩, rfl, hlc, _, hzl, hc, _⟩
      · omega
      · have hc0 := hc 0 (by omega)
        have hspot : spot = none := by simpa [Addr.add] using World.cell?_spot hc0
        subst hspot
        have hb : b < w.heap.size := by simpa [Addr.add] using World.block_lt_of_cell? w _ hc0
        refine ⟨b, off, rfl, hb, fun j hj => ?_⟩
        have := hc j (by omega)
        have e : (⟨b, off, none⟩ : Addr).add j = ⟨b, off + j, none⟩ := by unfold Addr.add; split <;> simp_all
        rw [e] at this
        rw [World.cell?_alloc_past _ _ _ hb]; exact this
  have HF := fun n c h1 h2 => Lib.hid (fin n c h1 h2)
  clear fin
  have hcap : len ≤ cap := by
    rcases h with ⟨_, rfl, rfl, _⟩ | ⟨_, _, h, _⟩ <;> omega
  clear h
  by_cases hg : (2000 : Int) < (len : Int)
  · go_enter Tryz.func14, Tryz.ntmps14
    go_wp2
    go_ret
    exact ⟨rfl, (HF 2000 cap (by omega) (by omega)).out, (Below.refl _ _).alloc (Nat.le_refl _) _, by simp⟩
  · go_enter Tryz.func14, Tryz.ntmps14
    go_wp2
    go_ret
    exact ⟨rfl, (HF len cap (by omega) (by omega)).out, (Below.refl _ _).alloc (Nat.le_refl _) _, by simp⟩

theorem new_ints (w : World) (xs : List Int) (t : TypeId) (j : Nat) (h : j < xs.length) : (w.alloc (.cells (xs.map (Value.int .i64)).toArray t)).cell? ⟨w.heap.size, j, none⟩ = some (.int .i64 (xs.getD j 0)) := by
  rw [cell_of_row _ w.heap.size j _ t (0, 0) (heap_alloc_new w _)]
  simp [List.getD_eq_getElem?_getD, List.getElem?_eq_getElem h]
theorem new_strs (w : World) (xs : List ByteArray) (t : TypeId) (j : Nat) (h : j < xs.length) : (w.alloc (.cells (xs.map Value.string).toArray t)).cell? ⟨w.heap.size, j, none⟩ = some (.string (xs.getD j ByteArray.empty)) := by
  rw [cell_of_row _ w.heap.size j _ t (0, 0) (heap_alloc_new w _)]
  simp [List.getD_eq_getElem?_getD, List.getElem?_eq_getElem h]

end Go.Proofs.YtndpbhmokobbpaaGreatDoor

namespace Go.Proofs.YtndpbhmokobbpaaGreatDoor
open Go.RowKit
set_option linter.unusedVariables false

set_option maxHeartbeats 400000 in
theorem of_any {B : Nat} {w : World} {g p : Nat} (h : Rd B w g p) (hp : p ≤ 1000000) (b len cap : Nat) (xs : List ByteArray) (hx : xs.length = len) (h1 : 1 ≤ len) (h2 : len ≤ 1000) (hbg : b ≠ g)
    (hc : ∀ j, j < len → w.cell? ⟨b, j, none⟩ = some (.string (xs.getD j ByteArray.empty))) :
    Calls Tryz.prog 24 #[.pointer (some ⟨g, 0, none⟩), .slice (some ⟨b, 0, none⟩) len cap] w
      fun e w' => ∃ (x : ByteArray) (m : Nat), e = .returned (.string x) ∧ x ∈ xs ∧ w' = picked w g p m := by
  have H := Lib.hid (pick_any h hp (len : Int) (by omega) (by omega))
  have HC := Lib.hid hc
  clear hc
  go_enter Tryz.func24, Tryz.ntmps24
  go_wp2_with fail
  refine H.out.mono ?_
  rintro e w' ⟨r, m, rfl, hr, rfl⟩
  have hrl : r < len := by omega
  have hcr := (picked_cell w g p m b r hbg).trans (HC.out r hrl)
  have hmem : xs.getD r ByteArray.empty ∈ xs := by
    rw [List.getD_eq_getElem?_getD, List.getElem?_eq_getElem (by omega)]; exact List.getElem_mem _
  generalize xs.getD r ByteArray.empty = x at *
  generalize hW : picked w g p m = W at *
  have HW := Lib.hid hW
  clear hW
  go_wp2
  go_ret
  exact ⟨x, m, rfl, hmem, HW.out.symm⟩
end Go.Proofs.YtndpbhmokobbpaaGreatDoor
