/-
  The walks of the reader of numbers that are drawn: pick, one and of. Conditions: where the reader lies, and the bounds that are typed.
  The walk that makes a reader of numbers. Condition: the code is a list that can be.
  The walk that draws one of several texts. Conditions: where the reader lies, and the bounds that are typed.
  The walk of what draws a plan. Conditions: where the reader lies, and the bounds that are typed.
  The walk of what draws acts. Conditions: where the reader lies, and the bounds that are typed.
  The walks of what draws plans, distances and acts: the contracts. Condition: the code is a list that can be.
-/
import Derived.Test.YtnbgfffcialfkaaLn04
import Derived.Test.YtnbgfffcialfkaaRows
import Derived.WalkLawsBesides
import Derived.WalkSpells
import Derived.Outline
import Derived.BigQuiet
import Derived.Deep.QuietTactic
import Derived.IntWalk
import Derived.OpenShut
import Derived.Test.YtnbgfffcialfkaaLn07
set_option linter.unusedSimpArgs false
set_option linter.unusedVariables false
namespace Go.Proofs.Ytnbgfffcialfkaa
open Go.RowKit
set_option linter.unusedVariables false

/-- Block g is a reader of the bytes at A that stands at p. -/
def RdBlk (w : World) (g : Nat) (A : Option Addr) (n c p : Nat) : Prop := w.heap[g]? = some (.cells #[.slice A n c, .int .i64 p] 69 (0, 0))
theorem RdBlk.c0 {w : World} {g : Nat} {A : Option Addr} {n c p : Nat} (h : RdBlk w g A n c p) : w.cell? ⟨g, 0, none⟩ = some (.slice A n c) := cell_of_row w g 0 _ _ (0, 0) h
theorem RdBlk.c1 {w : World} {g : Nat} {A : Option Addr} {n c p : Nat} (h : RdBlk w g A n c p) : w.cell? ⟨g, 1, none⟩ = some (.int .i64 p) := cell_of_row w g 1 _ _ (0, 0) h
theorem RdBlk.f {w : World} {g i : Nat} {A : Option Addr} {n c p : Nat} (h : RdBlk w g A n c p) : w.frozen? ⟨g, i, none⟩ = false := by
  unfold RdBlk at h
  simp [World.frozen?, h]

/-- What pick leaves: a number below n, and the reader one further. -/
def PickPost (w : World) (g p : Nat) (n : Int) (e : Ending) (w' : World) : Prop :=
  ∃ (r m : Nat), e = .returned (.int .i64 r) ∧ (r : Int) < n ∧ w' = (w.setCell ⟨g, 1, none⟩ (.int .i64 ((p + 1 : Nat) : Int))).drewN m

set_option maxHeartbeats 400000 in
theorem pick_nil (w : World) (g p c : Nat) (A : Option Addr) (n : Int) (h : RdBlk w g A 0 c p) (hp : p ≤ 1000000) (hn : 1 ≤ n) (hn2 : n ≤ 1000000) :
    Calls Try.prog 49 #[.pointer (some ⟨g, 0, none⟩), .int .i64 n] w (PickPost w g p n) := by
  have h0 := h.c0
  have h1 := h.c1
  have f1 := h.f (i := 1)
  clear h
  go_enter Try.func49, Try.ntmps49
  go_wp2
  go_ret
  exact ⟨0, 0, rfl, by omega, rfl⟩

set_option maxHeartbeats 400000 in
theorem pick_at (w : World) (g p c l b off : Nat) (z : Nat → Int) (n : Int) (h : RdBlk w g (some ⟨b, off, none⟩) l c p) (hp : p ≤ 1000000) (hl : l ≤ 2000) (hn : 1 ≤ n) (hn2 : n ≤ 1000000) (hbg : b ≠ g)
    (hc : ∀ j, j < l → w.cell? ⟨b, off + j, none⟩ = some (.int .u8 (z j))) (hz : ∀ j, 0 ≤ z j ∧ z j ≤ 255) (hpl : p < l) :
    Calls Try.prog 49 #[.pointer (some ⟨g, 0, none⟩), .int .i64 n] w (PickPost w g p n) := by
  have h0 := h.c0
  have h1 := h.c1
  have f1 := h.f (i := 1)
  have hcp := hc p hpl
  obtain ⟨hz0, hz1⟩ := hz p
  generalize z p = zp at *
  have hl0 : ((l : Int) == 0) = false := by simp; omega
  clear h hc hz
  go_enter Try.func49, Try.ntmps49
  go_wp2
  go_ret
  have hm := Int.emod_nonneg zp (b := n) (by omega)
  have hm2 := Int.emod_lt_of_pos zp (b := n) (by omega)
  exact ⟨(zp % n).toNat, 0, ret_int (by omega), by omega, rfl⟩

theorem wrap_id (x : Int) (h : -9223372036854775808 ≤ x ∧ x ≤ 9223372036854775807) : IntKind.i64.wrap x = x := IntWalk.i64_in _ h
theorem run_rem (x y : Int) (r : Nat) (hx : 0 ≤ x) (hy : 1 ≤ y) (h : x % y = r) (W : World) : (Op.intDiv .rem .i64 x y).run Try.prog W = .ok (.int .i64 (r : Int)) W := by
  unfold Op.intDiv
  rw [if_neg (by omega)]
  simp only [Sem.run_pure]
  rw [Int.tmod_eq_emod_of_nonneg hx, h]
theorem run_quo (x y : Int) (r : Nat) (hx : 0 ≤ x ∧ x ≤ 9223372036854775807) (hy : 1 ≤ y) (h : x / y = r) (W : World) : (Op.intDiv .quo .i64 x y).run Try.prog W = .ok (.int .i64 (r : Int)) W := by
  unfold Op.intDiv
  rw [if_neg (by omega)]
  simp only [Sem.run_pure]
  rw [IntWalk.i64_quo _ _ ⟨hx.1, hx.2, hy⟩, h]

theorem ofInt_i64 (a : Nat) (ha : a < 9223372036854775808) : (BitVec.ofInt 64 (a : Int)).toNat = a := by
  rw [BitVec.ofInt_natCast, BitVec.toNat_ofNat]; exact Nat.mod_eq_of_lt (by omega)
theorem i64_xor_nat (a b : Nat) (ha : a < 9223372036854775808) (hb : b < 9223372036854775808) : bits .xor .i64 (a : Int) (b : Int) = ((a ^^^ b : Nat) : Int) := by
  have hx : a ^^^ b < 2 ^ 63 := Nat.xor_lt_two_pow (by omega) (by omega)
  show IntKind.i64.wrap ((BitVec.ofInt 64 (a : Int) ^^^ BitVec.ofInt 64 (b : Int)).toNat : Int) = _
  rw [BitVec.toNat_xor, ofInt_i64 a ha, ofInt_i64 b hb, IntKind.wrap_i64]
  omega

set_option maxHeartbeats 1000000 in
theorem pick_far (w : World) (g p c l b off : Nat) (z : Nat → Int) (n : Int) (h : RdBlk w g (some ⟨b, off, none⟩) l c p) (hp : p ≤ 1000000) (hl : l ≤ 2000) (hn : 1 ≤ n) (hn2 : n ≤ 1000000) (hbg : b ≠ g)
    (hc : ∀ j, j < l → w.cell? ⟨b, off + j, none⟩ = some (.int .u8 (z j))) (hz : ∀ j, 0 ≤ z j ∧ z j ≤ 255) (hpl : l ≤ p) (hl1 : 1 ≤ l) :
    Calls Try.prog 49 #[.pointer (some ⟨g, 0, none⟩), .int .i64 n] w (PickPost w g p n) := by
  have h0 := h.c0
  have h1 := h.c1
  have f1 := h.f (i := 1)
  have hi1 : p % l < l := Nat.mod_lt _ (by omega)
  have hi2 : (p * 7 + 3) % l < l := Nat.mod_lt _ (by omega)
  have hd : p / l ≤ p := Nat.div_le_self _ _
  have hc1 := hc _ hi1
  have hc2 := hc _ hi2
  obtain ⟨hz1, hz1'⟩ := hz (p % l)
  obtain ⟨hz2, hz2'⟩ := hz ((p * 7 + 3) % l)
  generalize z (p % l) = z1 at *
  generalize z ((p * 7 + 3) % l) = z2 at *
  have hne : ¬ l = 0 := by omega
  have q1 : (p : Int).tmod (l : Int) = ((p % l : Nat) : Int) := by rw [Int.tmod_eq_emod_of_nonneg (by omega)]; simp
  have q2 : ((p : Int) * 7 + 3).tmod (l : Int) = (((p * 7 + 3) % l : Nat) : Int) := by rw [Int.tmod_eq_emod_of_nonneg (by omega)]; simp
  generalize p % l = i1 at *
  generalize (p * 7 + 3) % l = i2 at *
  have b1 : (0 : Int) ≤ (i1 : Int) := by omega
  have b1' : (i1 : Int) < (l : Int) := by omega
  have b2 : (0 : Int) ≤ (i2 : Int) := by omega
  have b2' : (i2 : Int) < (l : Int) := by omega
  have e1 := wrap_id ((p : Int) * 7) (by omega)
  have e2 := wrap_id ((p : Int) * 7 + 3) (by omega)
  have e3 := wrap_id z1 (by omega)
  have e4 := wrap_id z2 (by omega)
  have e5 := wrap_id (z1 * 131) (by omega)
  have e6 := wrap_id (z2 * 1117) (by omega)
  have e7 := wrap_id (z1 * 131 + z2 * 1117) (by omega)
  have e8 := wrap_id ((p : Int) * 29) (by omega)
  have e9 := wrap_id (z1 * 131 + z2 * 1117 + (p : Int) * 29) (by omega)
  have hd2 : (0 : Int) ≤ (p : Int) / (l : Int) ∧ (p : Int) / (l : Int) ≤ p := ⟨Int.ediv_nonneg (by omega) (by omega), Int.ediv_le_self _ (by omega)⟩
  obtain ⟨x, hx1, hx⟩ : ∃ x : Nat, x ≤ 100000000 ∧ wrap64 (z1 * 131 + z2 * 1117 + (p : Int) * 29 + wrap64 (wrap64 ((p : Int) / (l : Int)) * 53)) = x := by
    rw [IntWalk.wrap64_in ((p : Int) / (l : Int)) (by omega), IntWalk.wrap64_in ((p : Int) / (l : Int) * 53) (by omega), IntWalk.wrap64_in _ (by omega)]
    exact ⟨(z1 * 131 + z2 * 1117 + (p : Int) * 29 + (p : Int) / (l : Int) * 53).toNat, by omega, by omega⟩
  have hl0 : ((l : Int) == 0) = false := by simp; omega
  have HX := Lib.hid hx
  clear h hc hz hx hd2 hd
  go_enter Try.func49, Try.ntmps49
  go_wp2
  go_quiet (fail)
  rw [HX.out]
  clear q1 q2 e1 e2 e3 e4 e5 e6 e7 e8 e9 b1 b1' b2 b2' hi1 hi2 hc1 hc2 hz1 hz1' hz2 hz2' HX
  have hxd : (x : Int) / 64 = ((x / 64 : Nat) : Int) := by simp
  have hxor := i64_xor_nat x (x / 64) (by omega) (by omega)
  have hlt : x ^^^ (x / 64) < 2 ^ 63 := Nat.xor_lt_two_pow (by omega) (by omega)
  generalize x / 64 = y at *
  generalize x ^^^ y = u at *
  have HL := Lib.hid hlt
  have hu : u ≤ 9223372036854775807 := by omega
  clear hlt
  go_wp2
  go_ret
  have hm := Int.emod_nonneg (u : Int) (b := n) (by omega)
  have hm2 := Int.emod_lt_of_pos (u : Int) (b := n) (by omega)
  exact ⟨((u : Int) % n).toNat, nq, ret_int (by omega), by omega, rfl⟩

/-- Block g is a reader that stands at p, of bytes that lie below block B. -/
def RdD (B : Nat) (w : World) (g p : Nat) : Prop :=
  B ≤ g ∧ ∃ (A : Option Addr) (n c : Nat) (z : Nat → Int), RdBlk w g A n c p ∧ n ≤ 2000 ∧ (∀ j, 0 ≤ z j ∧ z j ≤ 255) ∧
    (0 < n → ∃ b off, A = some ⟨b, off, none⟩ ∧ b < B ∧ ∀ j, j < n → w.cell? ⟨b, off + j, none⟩ = some (.int .u8 (z j)))

theorem RdD.lt {B : Nat} {w : World} {g p : Nat} (h : RdD B w g p) : g < w.heap.size := by
  obtain ⟨_, A, n, c, z, h1, _⟩ := h
  exact (Array.getElem?_eq_some_iff.1 h1).1
theorem RdD.keep {B : Nat} {w w' : World} {g p : Nat} (h : RdD B w g p) (hb : Below B w w') (hg : w'.heap[g]? = w.heap[g]?) : RdD B w' g p := by
  obtain ⟨h0, A, n, c, z, h1, h2, h3, h4⟩ := h
  refine ⟨h0, A, n, c, z, hg.trans h1, h2, h3, fun hn => ?_⟩
  obtain ⟨b, off, e, hbB, hc⟩ := h4 hn
  exact ⟨b, off, e, hbB, fun j hj => (hb.cell (p := ⟨b, off + j, none⟩) hbB).trans (hc j hj)⟩
theorem RdD.alloc {B : Nat} {w : World} {g p : Nat} (h : RdD B w g p) (o : Obj) : RdD B (w.alloc o) g p :=
  h.keep ((Below.refl B w).alloc (by have := h.lt; have := h.1; omega) o) (Below.heap_alloc w o g h.lt)
theorem RdD.drew {B : Nat} {w : World} {g p : Nat} (h : RdD B w g p) : RdD B w.drew g p := h
/-- The world behind a draw of one number. -/
def picked (w : World) (g p m : Nat) : World := (w.setCell ⟨g, 1, none⟩ (.int .i64 ((p + 1 : Nat) : Int))).drewN m
theorem picked_below {B : Nat} {w : World} {g p : Nat} (h : RdD B w g p) (m : Nat) : Below B w (picked w g p m) :=
  below_drewN ((Below.refl B w).setCell (p := ⟨g, 1, none⟩) h.1 _) m
theorem picked_size (w : World) (g p m : Nat) : (picked w g p m).heap.size = w.heap.size := by
  show (w.setCell _ _).heap.size = _
  simp [World.setCell]
theorem picked_other (w : World) (g p m k : Nat) (h : k ≠ g) : (picked w g p m).heap[k]? = w.heap[k]? := Below.heap_setCell w ⟨g, 1, none⟩ _ k h
theorem picked_cell (w : World) (g p m b i : Nat) (h : b ≠ g) : (picked w g p m).cell? ⟨b, i, none⟩ = w.cell? ⟨b, i, none⟩ := World.cell?_of_block (a := ⟨b, i, none⟩) (picked_other w g p m b h)
theorem RdD.picked {B : Nat} {w : World} {g p : Nat} (h : RdD B w g p) (m : Nat) : RdD B (picked w g p m) g (p + 1) := by
  have hb := picked_below h m
  obtain ⟨h0, A, n, c, z, h1, h2, h3, h4⟩ := h
  refine ⟨h0, A, n, c, z, ?_, h2, h3, fun hn => ?_⟩
  · show (w.setCell ⟨g, 1, none⟩ _).heap[g]? = _
    unfold RdBlk at h1
    simp [World.setCell, Array.getElem?_modify, h1]
  · obtain ⟨b, off, e, hbB, hc⟩ := h4 hn
    exact ⟨b, off, e, hbB, fun j hj => (hb.cell (p := ⟨b, off + j, none⟩) hbB).trans (hc j hj)⟩

theorem pick_any {B : Nat} {w : World} {g p : Nat} (h : RdD B w g p) (hp : p ≤ 1000000) (n : Int) (hn : 1 ≤ n) (hn2 : n ≤ 1000000) :
    Calls Try.prog 49 #[.pointer (some ⟨g, 0, none⟩), .int .i64 n] w
      fun e w' => ∃ (r m : Nat), e = .returned (.int .i64 r) ∧ (r : Int) < n ∧ w' = picked w g p m := by
  obtain ⟨h0, A, l, c, z, h1, h2, h3, h4⟩ := h
  rcases Nat.eq_zero_or_pos l with rfl | hl
  · exact pick_nil w g p c A n h1 hp hn hn2
  · obtain ⟨b, off, rfl, hbB, hc⟩ := h4 hl
    by_cases hpl : p < l
    · exact pick_at w g p c l b off z n h1 hp h2 hn hn2 (by omega) hc h3 hpl
    · exact pick_far w g p c l b off z n h1 hp h2 hn hn2 (by omega) hc h3 (by omega) hl

set_option maxHeartbeats 400000 in
theorem one_any {B : Nat} {w : World} {g p : Nat} (h : RdD B w g p) (hp : p ≤ 1000000) (b len cap : Nat) (xs : List Int) (hx : xs.length = len) (h1 : 1 ≤ len) (h2 : len ≤ 1000) (hbg : b ≠ g)
    (hc : ∀ j, j < len → w.cell? ⟨b, j, none⟩ = some (.int .i64 (xs.getD j 0))) :
    Calls Try.prog 39 #[.pointer (some ⟨g, 0, none⟩), .slice (some ⟨b, 0, none⟩) len cap] w
      fun e w' => ∃ (x : Int) (m : Nat), e = .returned (.int .i64 x) ∧ x ∈ xs ∧ w' = picked w g p m := by
  have H := Lib.hid (pick_any h hp (len : Int) (by omega) (by omega))
  have HC := Lib.hid hc
  clear hc
  go_enter Try.func39, Try.ntmps39
  go_wp2_with fail
  refine H.out.mono ?_
  rintro e w' ⟨r, m, rfl, hr, rfl⟩
  have hrl : r < len := by omega
  have hcr := (picked_cell w g p m b r hbg).trans (HC.out r hrl)
  have hmem : xs.getD r 0 ∈ xs := by
    rw [List.getD_eq_getElem?_getD, List.getElem?_eq_getElem (by omega)]; exact List.getElem_mem _
  generalize xs.getD r 0 = x at *
  generalize hW : picked w g p m = W at *
  have HW := Lib.hid hW
  clear hW
  go_wp2
  go_ret
  exact ⟨x, m, rfl, hmem, HW.out.symm⟩

end Go.Proofs.Ytnbgfffcialfkaa

namespace Go.Proofs.Ytnbgfffcialfkaa
open Go.RowKit
set_option linter.unusedVariables false

theorem u8_of_wf {zs : List Int} (h : ∀ n ∈ zs, (Lit.int .u8 n).wf = true) (j : Nat) : 0 ≤ zs.getD j 0 ∧ zs.getD j 0 ≤ 255 := by
  rw [List.getD_eq_getElem?_getD]
  exact range_u8 h j

set_option maxHeartbeats 400000 in
theorem nr_any (w : World) (a : Option Addr) (len cap : Nat) (zs : List Int) (h : IsRow .u8 w a len cap zs) :
    Calls Try.prog 35 #[.slice a len cap] w
      fun e w' => e = .returned (.pointer (some ⟨w.heap.size, 0, none⟩)) ∧ RdD w.heap.size w' w.heap.size 0 ∧ Below w.heap.size w w' ∧ w'.heap.size = w.heap.size + 1 := by
  have fin : ∀ (n c : Nat), n ≤ 2000 → n ≤ len → RdD w.heap.size (w.alloc (.cells #[.slice a n c, .int .i64 0] 69)) w.heap.size 0 := by
    intro n c hn hnl
    refine ⟨Nat.le_refl _, a, n, c, fun j => zs.getD j 0, heap_alloc_new w _, hn, ?_, ?_⟩
    · rcases h with ⟨_, _, _, rfl⟩ | ⟨x, _, _, _, _, _, hwf⟩
      · intro j; simp
      · exact u8_of_wf hwf
    · intro h0
      rcases h with ⟨rfl, rfl, _, _⟩ | ⟨⟨b, off, spot⟩, rfl, hlc, _, hzl, hc, _⟩
      · omega
      · have hc0 := hc 0 (by omega)
        have hspot : spot = none := by simpa [Addr.add] using World.cell?_spot hc0
        subst hspot
        have hb : b < w.heap.size := by simpa [Addr.add] using World.block_lt_of_cell? w _ hc0
        refine ⟨b, off, rfl, hb, fun j hj => ?_⟩
        have := hc j (by omega)
        have e : (⟨b, off, none⟩ : Addr).add j = ⟨b, off + j, none⟩ := by unfold Addr.add; split <;> simp_all
        rw [e] at this
        rw [World.cell?_alloc_past _ _ _ hb]; exact this
  have HF := fun n c h1 h2 => Lib.hid (fin n c h1 h2)
  clear fin
  have hcap : len ≤ cap := by
    rcases h with ⟨_, rfl, rfl, _⟩ | ⟨_, _, h, _⟩ <;> omega
  clear h
  by_cases hg : (2000 : Int) < (len : Int)
  · go_enter Try.func35, Try.ntmps35
    go_wp2
    go_ret
    exact ⟨rfl, (HF 2000 cap (by omega) (by omega)).out, (Below.refl _ _).alloc (Nat.le_refl _) _, by simp⟩
  · go_enter Try.func35, Try.ntmps35
    go_wp2
    go_ret
    exact ⟨rfl, (HF len cap (by omega) (by omega)).out, (Below.refl _ _).alloc (Nat.le_refl _) _, by simp⟩

theorem new_ints (w : World) (xs : List Int) (t : TypeId) (j : Nat) (h : j < xs.length) : (w.alloc (.cells (xs.map (Value.int .i64)).toArray t)).cell? ⟨w.heap.size, j, none⟩ = some (.int .i64 (xs.getD j 0)) := by
  rw [cell_of_row _ w.heap.size j _ t (0, 0) (heap_alloc_new w _)]
  simp [List.getD_eq_getElem?_getD, List.getElem?_eq_getElem h]
theorem new_strs (w : World) (xs : List ByteArray) (t : TypeId) (j : Nat) (h : j < xs.length) : (w.alloc (.cells (xs.map Value.string).toArray t)).cell? ⟨w.heap.size, j, none⟩ = some (.string (xs.getD j ByteArray.empty)) := by
  rw [cell_of_row _ w.heap.size j _ t (0, 0) (heap_alloc_new w _)]
  simp [List.getD_eq_getElem?_getD, List.getElem?_eq_getElem h]

end Go.Proofs.Ytnbgfffcialfkaa

namespace Go.Proofs.Ytnbgfffcialfkaa
open Go.RowKit
set_option linter.unusedVariables false

set_option maxHeartbeats 400000 in
theorem of_any {B : Nat} {w : World} {g p : Nat} (h : RdD B w g p) (hp : p ≤ 1000000) (b len cap : Nat) (xs : List ByteArray) (hx : xs.length = len) (h1 : 1 ≤ len) (h2 : len ≤ 1000) (hbg : b ≠ g)
    (hc : ∀ j, j < len → w.cell? ⟨b, j, none⟩ = some (.string (xs.getD j ByteArray.empty))) :
    Calls Try.prog 50 #[.pointer (some ⟨g, 0, none⟩), .slice (some ⟨b, 0, none⟩) len cap] w
      fun e w' => ∃ (x : ByteArray) (m : Nat), e = .returned (.string x) ∧ x ∈ xs ∧ w' = picked w g p m := by
  have H := Lib.hid (pick_any h hp (len : Int) (by omega) (by omega))
  have HC := Lib.hid hc
  clear hc
  go_enter Try.func50, Try.ntmps50
  go_wp2_with fail
  refine H.out.mono ?_
  rintro e w' ⟨r, m, rfl, hr, rfl⟩
  have hrl : r < len := by omega
  have hcr := (picked_cell w g p m b r hbg).trans (HC.out r hrl)
  have hmem : xs.getD r ByteArray.empty ∈ xs := by
    rw [List.getD_eq_getElem?_getD, List.getElem?_eq_getElem (by omega)]; exact List.getElem_mem _
  generalize xs.getD r ByteArray.empty = x at *
  generalize hW : picked w g p m = W at *
  have HW := Lib.hid hW
  clear hW
  go_wp2
  go_ret
  exact ⟨x, m, rfl, hmem, HW.out.symm⟩
end Go.Proofs.Ytnbgfffcialfkaa

namespace Go.Proofs.Ytnbgfffcialfkaa
open Go.RowKit
set_option linter.unusedVariables false

theorem Blk.picked {w : World} {k g p m : Nat} {t : TypeId} {cs : Array Value} (h : Blk w k t cs) (hk : k ≠ g) : Blk (picked w g p m) k t cs := (picked_other w g p m k hk).trans h
/-- Two blocks of the call's own, the second one a plan: behind draws. -/
structure Pln (B : Nat) (w w' : World) (g p : Nat) (xs : Array Value) : Prop where
  r : Blk w' w.heap.size 25 #[.int .i64 0, .int .i64 0, .int .i64 0, .int .i64 0]
  q : ∃ G, Blk w' G 25 xs
  d : RdD B w' g p
  b : Below B w w'
/-- What is drawn so far, ahead of the plan. -/
structure Dr (B : Nat) (w w' : World) (g p : Nat) : Prop where
  r : Blk w' w.heap.size 25 #[.int .i64 0, .int .i64 0, .int .i64 0, .int .i64 0]
  d : RdD B w' g p
  b : Below B w w'
  ne : w.heap.size ≠ g
theorem Dr.z {B g p : Nat} {w w' : World} (h : Dr B w w' g p) : w.heap.size < w'.heap.size := h.r.lt
theorem Dr.start {B g p : Nat} {w : World} (h : RdD B w g p) : Dr B w (w.alloc (.cells #[.int .i64 0, .int .i64 0, .int .i64 0, .int .i64 0] 25)) g p :=
  ⟨Blk.new _ _ _, h.alloc _, (Below.refl _ _).alloc (by have := h.lt; have := h.1; omega) _, by have := h.lt; omega⟩
theorem Dr.alloc {B g p : Nat} {w w' : World} (h : Dr B w w' g p) (o : Obj) : Dr B w (w'.alloc o) g p :=
  ⟨h.r.alloc _, h.d.alloc _, h.b.alloc (by have := h.d.lt; have := h.d.1; omega) _, h.ne⟩
theorem Dr.picked {B g p : Nat} {w w' : World} (h : Dr B w w' g p) (m : Nat) : Dr B w (picked w' g p m) g (p + 1) :=
  ⟨h.r.picked h.ne, h.d.picked m, h.b.trans (picked_below h.d m), h.ne⟩
/-- What draws a plan leaves. -/
def ApPost (B : Nat) (w : World) (g p : Nat) (e : Ending) (w' : World) : Prop :=
  ∃ (n a k m : Int) (p' : Nat), e = .returned (.agg #[.int .i64 n, .int .i64 a, .int .i64 k, .int .i64 m]) ∧ (0 ≤ n ∧ n ≤ 10 ∧ 0 ≤ a ∧ a ≤ 10 ∧ 0 ≤ k ∧ k ≤ 10 ∧ 0 ≤ m ∧ m ≤ 10) ∧ RdD B w' g p' ∧ p' ≤ p + 20 ∧ Below B w w'

theorem mem_bd {x : Int} {xs : List Int} (h : x ∈ xs) (lo hi : Int) (hl : xs.all (fun y => decide (lo ≤ y ∧ y ≤ hi)) = true) : lo ≤ x ∧ x ≤ hi := by
  have := List.all_eq_true.1 hl x h
  simpa using this
theorem infoP : (Try.prog.info? 25).map (·.size) = some 4 := by kernel_rfl
theorem Blk.set4 {w : World} {g : Nat} {t : TypeId} {x0 x1 x2 x3 : Value} (h : Blk w g t #[x0, x1, x2, x3]) (a b c d : Value) :
    Blk ((((w.setCell ⟨g, 0, none⟩ a).setCell ⟨g, 1, none⟩ b).setCell ⟨g, 2, none⟩ c).setCell ⟨g, 3, none⟩ d) g t #[a, b, c, d] := by
  have := (((h.set_ 0 a).set_ 1 b).set_ 2 c).set_ 3 d
  simpa using this
theorem Blk.f4 {w : World} {g : Nat} {t : TypeId} {cs : Array Value} (h : Blk w g t cs) :
    w.frozen? ⟨g, 0, none⟩ = false ∧ w.frozen? ⟨g, 1, none⟩ = false ∧ w.frozen? ⟨g, 2, none⟩ = false ∧ w.frozen? ⟨g, 3, none⟩ = false :=
  ⟨h.frozen 0, h.frozen 1, h.frozen 2, h.frozen 3⟩

/-- What is drawn, with the plan in a block of its own. -/
structure Dp (B : Nat) (w w' : World) (g p G : Nat) (xs : Array Value) : Prop where
  d : Dr B w w' g p
  q : Blk w' G 25 xs
  ne : G ≠ g
  nw : w.heap.size ≠ G
  hB : B ≤ G
theorem Dp.picked {B g p G : Nat} {w w' : World} {xs : Array Value} (h : Dp B w w' g p G xs) (m : Nat) : Dp B w (picked w' g p m) g (p + 1) G xs :=
  ⟨h.d.picked m, h.q.picked h.ne, h.ne, h.nw, h.hB⟩
theorem Dp.alloc {B g p G : Nat} {w w' : World} {xs : Array Value} (h : Dp B w w' g p G xs) (o : Obj) : Dp B w (w'.alloc o) g p G xs := ⟨h.d.alloc o, h.q.alloc o, h.ne, h.nw, h.hB⟩
theorem Dp.new {B g p : Nat} {w w' : World} {xs : Array Value} (h : Dr B w w' g p) : Dp B w (w'.alloc (.cells xs 25)) g p w'.heap.size xs :=
  ⟨h.alloc _, Blk.new _ _ _, by have := h.d.lt; omega, by have := h.z; omega, by have := h.d.lt; have := h.d.1; omega⟩
theorem Dp.set_ {B g p G : Nat} {w w' : World} {xs : Array Value} (h : Dp B w w' g p G xs) (i : Nat) (u : Value) : Dp B w (w'.setCell ⟨G, i, none⟩ u) g p G (xs.setIfInBounds i u) :=
  ⟨⟨h.d.r.far (p := ⟨G, i, none⟩) (by simpa using h.nw) u, h.d.d.keep ((Below.refl B w').setCell (p := ⟨G, i, none⟩) h.hB u) (Below.heap_setCell w' ⟨G, i, none⟩ u g (fun e => h.ne e.symm)), h.d.b.setCell (p := ⟨G, i, none⟩) h.hB u, h.d.ne⟩, h.q.set_ i u, h.ne, h.nw, h.hB⟩
/-- The end of what draws a plan. -/
theorem ap_end {B g p G : Nat} {w w' : World} {n a k m : Int} (h : Dp B w w' g p G #[.int .i64 n, .int .i64 a, .int .i64 k, .int .i64 m]) (hBw : B ≤ w.heap.size) (hgw : g < w.heap.size) :
    Blk ((((w'.setCell ⟨w.heap.size, 0, none⟩ (.int .i64 n)).setCell ⟨w.heap.size, 1, none⟩ (.int .i64 a)).setCell ⟨w.heap.size, 2, none⟩ (.int .i64 k)).setCell ⟨w.heap.size, 3, none⟩ (.int .i64 m)) w.heap.size 25 #[.int .i64 n, .int .i64 a, .int .i64 k, .int .i64 m] ∧
    RdD B ((((w'.setCell ⟨w.heap.size, 0, none⟩ (.int .i64 n)).setCell ⟨w.heap.size, 1, none⟩ (.int .i64 a)).setCell ⟨w.heap.size, 2, none⟩ (.int .i64 k)).setCell ⟨w.heap.size, 3, none⟩ (.int .i64 m)) g p ∧
    Below B w ((((w'.setCell ⟨w.heap.size, 0, none⟩ (.int .i64 n)).setCell ⟨w.heap.size, 1, none⟩ (.int .i64 a)).setCell ⟨w.heap.size, 2, none⟩ (.int .i64 k)).setCell ⟨w.heap.size, 3, none⟩ (.int .i64 m)) := by
  have hb4 := ((((Below.refl w.heap.size w').setCell (p := ⟨w.heap.size, 0, none⟩) (Nat.le_refl _) (.int .i64 n)).setCell (p := ⟨w.heap.size, 1, none⟩) (Nat.le_refl _) (.int .i64 a)).setCell (p := ⟨w.heap.size, 2, none⟩) (Nat.le_refl _) (.int .i64 k)).setCell (p := ⟨w.heap.size, 3, none⟩) (Nat.le_refl _) (.int .i64 m)
  exact ⟨Blk.set4 h.d.r _ _ _ _, h.d.d.keep (hb4.mono hBw) (hb4.block g hgw), h.d.b.trans (hb4.mono hBw)⟩

set_option maxHeartbeats 6400000 in
theorem ap_any {B : Nat} {w : World} {g p : Nat} (h : RdD B w g p) (hp : p ≤ 900000) : Calls Try.prog 36 #[.pointer (some ⟨g, 0, none⟩)] w (ApPost B w g p) := by
  have hgl := h.lt
  have hBg := h.1
  have H0 := Lib.hid (Dr.start h)
  have HG := Lib.hid hgl
  have HBW := Lib.hid (show B ≤ w.heap.size by omega)
  clear h
  go_enter Try.func36, Try.ntmps36
  go_wp2_with fail
  refine (pick_any H0.out.d (by omega) 3 (by omega) (by omega)).mono ?_
  rintro e x1 ⟨rn, mm, rfl, hrn, hw⟩
  have K1 := Lib.hid (show Dr B w x1 g (p + 1) by rw [hw]; exact H0.out.picked mm)
  clear hw
  have zz := K1.out.d.lt
  go_wp2_with fail
  refine (one_any (K1.out.alloc _).d (by omega) x1.heap.size 6 6 [1, 2, 1, 3, 2, 4] rfl (by omega) (by omega) (by omega) (new_ints x1 [1, 2, 1, 3, 2, 4] _)).mono ?_
  rintro e x2 ⟨a, mm, rfl, hmem, hw⟩
  have K2 := Lib.hid (show Dr B w x2 g (p + 1 + 1) by rw [hw]; exact (K1.out.alloc _).picked mm)
  have ba := mem_bd hmem 1 5 (by decide)
  clear hw hmem zz
  have zz := K2.out.d.lt
  go_wp2_with fail
  refine (one_any (K2.out.alloc _).d (by omega) x2.heap.size 7 7 [1, 1, 2, 1, 3, 2, 4] rfl (by omega) (by omega) (by omega) (new_ints x2 [1, 1, 2, 1, 3, 2, 4] _)).mono ?_
  rintro e x3 ⟨k, mm, rfl, hmem, hw⟩
  have K3 := Lib.hid (show Dr B w x3 g (p + 1 + 1 + 1) by rw [hw]; exact (K2.out.alloc _).picked mm)
  have bk := mem_bd hmem 1 5 (by decide)
  clear hw hmem zz
  have zz := K3.out.d.lt
  go_wp2_with fail
  refine (one_any (K3.out.alloc _).d (by omega) x3.heap.size 5 5 [3, 4, 2, 5, 1] rfl (by omega) (by omega) (by omega) (new_ints x3 [3, 4, 2, 5, 1] _)).mono ?_
  rintro e x4 ⟨m, mm, rfl, hmem, hw⟩
  have K4 := Lib.hid (show Dr B w x4 g (p + 1 + 1 + 1 + 1) by rw [hw]; exact (K3.out.alloc _).picked mm)
  have bm := mem_bd hmem 1 5 (by decide)
  clear hw hmem zz
  have KP := Lib.hid (Dp.new (xs := #[.int .i64 (2 + (rn : Int)), .int .i64 a, .int .i64 k, .int .i64 m]) K4.out)
  obtain ⟨G, hG⟩ : ∃ G, G = x4.heap.size := ⟨_, rfl⟩
  have HGE := Lib.hid hG
  clear hG
  go_wp2_with fail
  refine (pick_any KP.out.d.d (by omega) 3 (by omega) (by omega)).mono ?_
  rintro e x5 ⟨rc, mm, rfl, hrc, hw⟩
  have K5 := Lib.hid (show Dp B w x5 g (p + 1 + 1 + 1 + 1 + 1) x4.heap.size #[.int .i64 (2 + (rn : Int)), .int .i64 a, .int .i64 k, .int .i64 m] by rw [hw]; exact KP.out.picked mm)
  clear hw
  by_cases hrc0 : 0 < rc
  · have hrci : (0 : Int) < (rc : Int) := by omega
    obtain ⟨u0, u1, u2, u3⟩ := K5.out.q.c4
    obtain ⟨t0, t1, t2, t3⟩ := K5.out.q.f4
    go_wp2_with fail
    refine (pick_any K5.out.d.d (by omega) (2 + (rn : Int) - 1) (by omega) (by omega)).mono ?_
    rintro e x6 ⟨ra, mm, rfl, hra, hw⟩
    have K6 := Lib.hid (show Dp B w x6 g (p + 1 + 1 + 1 + 1 + 1 + 1) x4.heap.size #[.int .i64 (2 + (rn : Int)), .int .i64 a, .int .i64 k, .int .i64 m] by rw [hw]; exact K5.out.picked mm)
    clear hw
    clear u0 u1 u2 u3 t0 t1 t2 t3
    obtain ⟨u0, u1, u2, u3⟩ := K6.out.q.c4
    obtain ⟨t0, t1, t2, t3⟩ := K6.out.q.f4
    have KB := Lib.hid (show Dp B w (x6.setCell ⟨x4.heap.size, 1, none⟩ (.int .i64 (1 + (ra : Int)))) g (p + 1 + 1 + 1 + 1 + 1 + 1) x4.heap.size #[.int .i64 (2 + (rn : Int)), .int .i64 (1 + (ra : Int)), .int .i64 k, .int .i64 m] from K6.out.set_ 1 _)
    go_wp2_with fail
    refine (pick_any KB.out.d.d (by omega) (2 + (rn : Int) - (1 + (ra : Int))) (by omega) (by omega)).mono ?_
    rintro e x7 ⟨rk, mm, rfl, hrk, hw⟩
    have K7 := Lib.hid (show Dp B w x7 g (p + 1 + 1 + 1 + 1 + 1 + 1 + 1) x4.heap.size #[.int .i64 (2 + (rn : Int)), .int .i64 (1 + (ra : Int)), .int .i64 k, .int .i64 m] by rw [hw]; exact KB.out.picked mm)
    clear hw
    clear u0 u1 u2 u3 t0 t1 t2 t3
    obtain ⟨u0, u1, u2, u3⟩ := K7.out.q.c4
    obtain ⟨t0, t1, t2, t3⟩ := K7.out.q.f4
    have KC := Lib.hid (show Dp B w (x7.setCell ⟨x4.heap.size, 2, none⟩ (.int .i64 (1 + (rk : Int)))) g (p + 1 + 1 + 1 + 1 + 1 + 1 + 1) x4.heap.size #[.int .i64 (2 + (rn : Int)), .int .i64 (1 + (ra : Int)), .int .i64 (1 + (rk : Int)), .int .i64 m] from K7.out.set_ 2 _)
    go_wp2_with fail
    refine (pick_any KC.out.d.d (by omega) 24 (by omega) (by omega)).mono ?_
    rintro e x8 ⟨rs, mm, rfl, hrs, hw⟩
    have K8 := Lib.hid (show Dp B w x8 g (p + 1 + 1 + 1 + 1 + 1 + 1 + 1 + 1) x4.heap.size #[.int .i64 (2 + (rn : Int)), .int .i64 (1 + (ra : Int)), .int .i64 (1 + (rk : Int)), .int .i64 m] by rw [hw]; exact KC.out.picked mm)
    clear hw
    rcases (show rs = 0 ∨ rs = 1 ∨ 2 ≤ rs from by omega) with rfl | rfl | h2
    · have zz := K8.out.d.d.lt
      go_wp2_with fail
      refine (one_any (K8.out.alloc _).d.d (by omega) x8.heap.size 2 2 [1, 5] rfl (by omega) (by omega) (by omega) (new_ints x8 [1, 5] _)).mono ?_
      rintro e x9 ⟨nx, mm, rfl, hmem, hw⟩
      have K9 := Lib.hid (show Dp B w x9 g (p + 1 + 1 + 1 + 1 + 1 + 1 + 1 + 1 + 1) x4.heap.size #[.int .i64 (2 + (rn : Int)), .int .i64 (1 + (ra : Int)), .int .i64 (1 + (rk : Int)), .int .i64 m] by rw [hw]; exact (K8.out.alloc _).picked mm)
      have bnx := mem_bd hmem 1 5 (by decide)
      clear hw hmem zz
      obtain ⟨u0, u1, u2, u3⟩ := K9.out.q.c4
      obtain ⟨t0, t1, t2, t3⟩ := K9.out.q.f4
      have KF := Lib.hid (show Dp B w (x9.setCell ⟨x4.heap.size, 0, none⟩ (.int .i64 nx)) g (p + 1 + 1 + 1 + 1 + 1 + 1 + 1 + 1 + 1) x4.heap.size #[.int .i64 nx, .int .i64 (1 + (ra : Int)), .int .i64 (1 + (rk : Int)), .int .i64 m] from K9.out.set_ 0 _)
      obtain ⟨r0, r1, r2, r3⟩ := K9.out.d.r.c4
      obtain ⟨g0, g1, g2, g3⟩ := K9.out.d.r.f4
      have hn1 : ¬ w.heap.size = x4.heap.size := K9.out.nw
      have hn2 : ¬ x4.heap.size = w.heap.size := fun e => hn1 e.symm
      go_wp2
      have HEND := ap_end KF.out HBW.out HG.out
      exact bodyPost_ret (results_cell_row (p := 2) (ty := 25) rfl _ _ w.heap.size 25 #[.int .i64 nx, .int .i64 (1 + (ra : Int)), .int .i64 (1 + (rk : Int)), .int .i64 m] (0, 0) _ rfl HEND.1 Try.underlying25 rfl infoP) rfl ⟨nx, (1 + (ra : Int)), (1 + (rk : Int)), m, p + 1 + 1 + 1 + 1 + 1 + 1 + 1 + 1 + 1, rfl, by omega, HEND.2.1, by omega, HEND.2.2⟩
    · have zz := K8.out.d.d.lt
      go_wp2_with fail
      refine (one_any (K8.out.alloc _).d.d (by omega) x8.heap.size 2 2 [0, 6] rfl (by omega) (by omega) (by omega) (new_ints x8 [0, 6] _)).mono ?_
      rintro e x10 ⟨nx, mm, rfl, hmem, hw⟩
      have K10 := Lib.hid (show Dp B w x10 g (p + 1 + 1 + 1 + 1 + 1 + 1 + 1 + 1 + 1) x4.heap.size #[.int .i64 (2 + (rn : Int)), .int .i64 (1 + (ra : Int)), .int .i64 (1 + (rk : Int)), .int .i64 m] by rw [hw]; exact (K8.out.alloc _).picked mm)
      have bnx := mem_bd hmem 0 6 (by decide)
      clear hw hmem zz
      obtain ⟨u0, u1, u2, u3⟩ := K10.out.q.c4
      obtain ⟨t0, t1, t2, t3⟩ := K10.out.q.f4
      have KF := Lib.hid (show Dp B w (x10.setCell ⟨x4.heap.size, 3, none⟩ (.int .i64 nx)) g (p + 1 + 1 + 1 + 1 + 1 + 1 + 1 + 1 + 1) x4.heap.size #[.int .i64 (2 + (rn : Int)), .int .i64 (1 + (ra : Int)), .int .i64 (1 + (rk : Int)), .int .i64 nx] from K10.out.set_ 3 _)
      obtain ⟨r0, r1, r2, r3⟩ := K10.out.d.r.c4
      obtain ⟨g0, g1, g2, g3⟩ := K10.out.d.r.f4
      have hn1 : ¬ w.heap.size = x4.heap.size := K10.out.nw
      have hn2 : ¬ x4.heap.size = w.heap.size := fun e => hn1 e.symm
      go_wp2
      have HEND := ap_end KF.out HBW.out HG.out
      exact bodyPost_ret (results_cell_row (p := 2) (ty := 25) rfl _ _ w.heap.size 25 #[.int .i64 (2 + (rn : Int)), .int .i64 (1 + (ra : Int)), .int .i64 (1 + (rk : Int)), .int .i64 nx] (0, 0) _ rfl HEND.1 Try.underlying25 rfl infoP) rfl ⟨(2 + (rn : Int)), (1 + (ra : Int)), (1 + (rk : Int)), nx, p + 1 + 1 + 1 + 1 + 1 + 1 + 1 + 1 + 1, rfl, by omega, HEND.2.1, by omega, HEND.2.2⟩
    · have e0 : ((rs : Int) == 0) = false := by simp; omega
      have e1 : ((rs : Int) == 1) = false := by simp; omega
      obtain ⟨u0, u1, u2, u3⟩ := K8.out.q.c4
      obtain ⟨r0, r1, r2, r3⟩ := K8.out.d.r.c4
      obtain ⟨g0, g1, g2, g3⟩ := K8.out.d.r.f4
      go_wp2
      have HEND := ap_end K8.out HBW.out HG.out
      exact bodyPost_ret (results_cell_row (p := 2) (ty := 25) rfl _ _ w.heap.size 25 #[.int .i64 (2 + (rn : Int)), .int .i64 (1 + (ra : Int)), .int .i64 (1 + (rk : Int)), .int .i64 m] (0, 0) _ rfl HEND.1 Try.underlying25 rfl infoP) rfl ⟨(2 + (rn : Int)), (1 + (ra : Int)), (1 + (rk : Int)), m, p + 1 + 1 + 1 + 1 + 1 + 1 + 1 + 1, rfl, by omega, HEND.2.1, by omega, HEND.2.2⟩
  · obtain rfl : rc = 0 := by omega
    go_wp2_with fail
    refine (pick_any K5.out.d.d (by omega) 24 (by omega) (by omega)).mono ?_
    rintro e x11 ⟨rs, mm, rfl, hrs, hw⟩
    have K11 := Lib.hid (show Dp B w x11 g (p + 1 + 1 + 1 + 1 + 1 + 1) x4.heap.size #[.int .i64 (2 + (rn : Int)), .int .i64 a, .int .i64 k, .int .i64 m] by rw [hw]; exact K5.out.picked mm)
    clear hw
    rcases (show rs = 0 ∨ rs = 1 ∨ 2 ≤ rs from by omega) with rfl | rfl | h2
    · have zz := K11.out.d.d.lt
      go_wp2_with fail
      refine (one_any (K11.out.alloc _).d.d (by omega) x11.heap.size 2 2 [1, 5] rfl (by omega) (by omega) (by omega) (new_ints x11 [1, 5] _)).mono ?_
      rintro e x12 ⟨nx, mm, rfl, hmem, hw⟩
      have K12 := Lib.hid (show Dp B w x12 g (p + 1 + 1 + 1 + 1 + 1 + 1 + 1) x4.heap.size #[.int .i64 (2 + (rn : Int)), .int .i64 a, .int .i64 k, .int .i64 m] by rw [hw]; exact (K11.out.alloc _).picked mm)
      have bnx := mem_bd hmem 1 5 (by decide)
      clear hw hmem zz
      obtain ⟨u0, u1, u2, u3⟩ := K12.out.q.c4
      obtain ⟨t0, t1, t2, t3⟩ := K12.out.q.f4
      have KF := Lib.hid (show Dp B w (x12.setCell ⟨x4.heap.size, 0, none⟩ (.int .i64 nx)) g (p + 1 + 1 + 1 + 1 + 1 + 1 + 1) x4.heap.size #[.int .i64 nx, .int .i64 a, .int .i64 k, .int .i64 m] from K12.out.set_ 0 _)
      obtain ⟨r0, r1, r2, r3⟩ := K12.out.d.r.c4
      obtain ⟨g0, g1, g2, g3⟩ := K12.out.d.r.f4
      have hn1 : ¬ w.heap.size = x4.heap.size := K12.out.nw
      have hn2 : ¬ x4.heap.size = w.heap.size := fun e => hn1 e.symm
      go_wp2
      have HEND := ap_end KF.out HBW.out HG.out
      exact bodyPost_ret (results_cell_row (p := 2) (ty := 25) rfl _ _ w.heap.size 25 #[.int .i64 nx, .int .i64 a, .int .i64 k, .int .i64 m] (0, 0) _ rfl HEND.1 Try.underlying25 rfl infoP) rfl ⟨nx, a, k, m, p + 1 + 1 + 1 + 1 + 1 + 1 + 1, rfl, by omega, HEND.2.1, by omega, HEND.2.2⟩
    · have zz := K11.out.d.d.lt
      go_wp2_with fail
      refine (one_any (K11.out.alloc _).d.d (by omega) x11.heap.size 2 2 [0, 6] rfl (by omega) (by omega) (by omega) (new_ints x11 [0, 6] _)).mono ?_
      rintro e x13 ⟨nx, mm, rfl, hmem, hw⟩
      have K13 := Lib.hid (show Dp B w x13 g (p + 1 + 1 + 1 + 1 + 1 + 1 + 1) x4.heap.size #[.int .i64 (2 + (rn : Int)), .int .i64 a, .int .i64 k, .int .i64 m] by rw [hw]; exact (K11.out.alloc _).picked mm)
      have bnx := mem_bd hmem 0 6 (by decide)
      clear hw hmem zz
      obtain ⟨u0, u1, u2, u3⟩ := K13.out.q.c4
      obtain ⟨t0, t1, t2, t3⟩ := K13.out.q.f4
      have KF := Lib.hid (show Dp B w (x13.setCell ⟨x4.heap.size, 3, none⟩ (.int .i64 nx)) g (p + 1 + 1 + 1 + 1 + 1 + 1 + 1) x4.heap.size #[.int .i64 (2 + (rn : Int)), .int .i64 a, .int .i64 k, .int .i64 nx] from K13.out.set_ 3 _)
      obtain ⟨r0, r1, r2, r3⟩ := K13.out.d.r.c4
      obtain ⟨g0, g1, g2, g3⟩ := K13.out.d.r.f4
      have hn1 : ¬ w.heap.size = x4.heap.size := K13.out.nw
      have hn2 : ¬ x4.heap.size = w.heap.size := fun e => hn1 e.symm
      go_wp2
      have HEND := ap_end KF.out HBW.out HG.out
      exact bodyPost_ret (results_cell_row (p := 2) (ty := 25) rfl _ _ w.heap.size 25 #[.int .i64 (2 + (rn : Int)), .int .i64 a, .int .i64 k, .int .i64 nx] (0, 0) _ rfl HEND.1 Try.underlying25 rfl infoP) rfl ⟨(2 + (rn : Int)), a, k, nx, p + 1 + 1 + 1 + 1 + 1 + 1 + 1, rfl, by omega, HEND.2.1, by omega, HEND.2.2⟩
    · have e0 : ((rs : Int) == 0) = false := by simp; omega
      have e1 : ((rs : Int) == 1) = false := by simp; omega
      obtain ⟨u0, u1, u2, u3⟩ := K11.out.q.c4
      obtain ⟨r0, r1, r2, r3⟩ := K11.out.d.r.c4
      obtain ⟨g0, g1, g2, g3⟩ := K11.out.d.r.f4
      go_wp2
      have HEND := ap_end K11.out HBW.out HG.out
      exact bodyPost_ret (results_cell_row (p := 2) (ty := 25) rfl _ _ w.heap.size 25 #[.int .i64 (2 + (rn : Int)), .int .i64 a, .int .i64 k, .int .i64 m] (0, 0) _ rfl HEND.1 Try.underlying25 rfl infoP) rfl ⟨(2 + (rn : Int)), a, k, m, p + 1 + 1 + 1 + 1 + 1 + 1, rfl, by omega, HEND.2.1, by omega, HEND.2.2⟩

theorem isRow_alloc {k : IntKind} {w : World} {a : Option Addr} {len cap : Nat} {zs : List Int} (h : IsRow k w a len cap zs) (o : Obj) : IsRow k (w.alloc o) a len cap zs := by
  rcases h with h | ⟨x, rfl, h1, h2, h3, h4, h5⟩
  · exact .inl h
  · exact .inr ⟨x, rfl, h1, h2, h3, fun i hi => by rw [World.cell?_alloc_lt _ _ _ (World.block_lt_of_cell? w _ (h4 i hi))]; exact h4 i hi, h5⟩
/-- What draws the argument of ValidPlan leaves. -/
def DvPost (w : World) (e : Ending) (w' : World) : Prop :=
  ∃ (n a k m : Int), e = .returned (.agg #[.int .i64 n, .int .i64 a, .int .i64 k, .int .i64 m]) ∧ (0 ≤ n ∧ n ≤ 10 ∧ 0 ≤ a ∧ a ≤ 10 ∧ 0 ≤ k ∧ k ≤ 10 ∧ 0 ≤ m ∧ m ≤ 10) ∧ Below w.heap.size w w'
end Go.Proofs.Ytnbgfffcialfkaa

namespace Go.Proofs.Ytnbgfffcialfkaa
open Go.RowKit
set_option linter.unusedVariables false

/-- The texts of which acts are drawn. -/
def actsD : List ByteArray := [⟨#[115]⟩, ⟨#[100]⟩, ⟨#[97]⟩, ⟨#[115, 100]⟩, ⟨#[115, 100, 97]⟩, ⟨#[48, 100]⟩, ⟨#[49, 100]⟩, ⟨#[120]⟩, ⟨#[121]⟩, ⟨#[115, 120]⟩, ⟨#[115]⟩, ⟨#[100]⟩, ⟨#[122]⟩]
theorem acts_size {x : ByteArray} (hx : x ∈ actsD) : x.size ≤ 3 := by
  have h : actsD.all (fun x => decide (x.size ≤ 3)) = true := by decide +kernel
  simpa using List.all_eq_true.1 h x hx

/-- What lay there stays, but the reader. -/
structure Keeps (g : Nat) (w w' : World) : Prop where
  z : w.heap.size ≤ w'.heap.size
  k : ∀ k, k < w.heap.size → k ≠ g → w'.heap[k]? = w.heap[k]?
theorem Keeps.refl (g : Nat) (w : World) : Keeps g w w := ⟨Nat.le_refl _, fun _ _ _ => rfl⟩
theorem Keeps.alloc {g : Nat} {w w' : World} (h : Keeps g w w') (o : Obj) : Keeps g w (w'.alloc o) :=
  ⟨by have := h.z; simp; omega, fun k hk hg => (Below.heap_alloc w' o k (by have := h.z; omega)).trans (h.k k hk hg)⟩
theorem Keeps.picked {g p m : Nat} {w w' : World} (h : Keeps g w w') : Keeps g w (picked w' g p m) :=
  ⟨by rw [picked_size]; exact h.z, fun k hk hg => (picked_other w' g p m k hg).trans (h.k k hk hg)⟩

set_option maxHeartbeats 1600000 in
theorem sa_any {B : Nat} {w : World} {g p : Nat} (h : RdD B w g p) (hp : p ≤ 900000) :
    Calls Try.prog 37 #[.pointer (some ⟨g, 0, none⟩)] w
      fun e w' => ∃ (t : ByteArray) (p' : Nat), e = .returned (.string t) ∧ t.size ≤ 90 ∧ RdD B w' g p' ∧ p' ≤ p + 31 ∧ Below B w w' ∧ Keeps g w w' := by
  have hgl := h.lt
  have hBg := h.1
  go_enter Try.func37, Try.ntmps37
  go_wp2_with fail
  refine (one_any (h.alloc _) (by omega) w.heap.size 7 7 [8, 12, 20, 5, 2, 0, 30] rfl (by omega) (by omega) (by omega) (new_ints w [8, 12, 20, 5, 2, 0, 30] _)).mono ?_
  rintro e w1 ⟨x, m, rfl, hx, hw1⟩
  have hr1 : RdD B w1 g (p + 1) := by rw [hw1]; exact (h.alloc _).picked m
  have hb1 : Below B w w1 := by rw [hw1]; exact ((Below.refl B w).alloc (by omega) _).trans (picked_below (h.alloc _) m)
  have hk1 : Keeps g w w1 := by rw [hw1]; exact ((Keeps.refl g w).alloc _).picked
  clear hw1
  obtain ⟨k, rfl, hk⟩ : ∃ k : Nat, x = k ∧ k ≤ 30 := by
    simp only [List.mem_cons, List.not_mem_nil, or_false] at hx
    exact ⟨x.toNat, by omega, by omega⟩
  clear hx
  go_wp2
  go_loopw [3, 4] (fun sv nv wr => ∃ (t : ByteArray) (k p' : Nat), sv = .string t ∧ nv = .int .i64 k ∧ t.size + 3 * k ≤ 90 ∧ RdD B wr g p' ∧ p' + k ≤ p + 31 ∧ Below B w wr ∧ Keeps g w wr) (fun _ nv _ => (intOf nv).toNat)
  case atStart => exact ⟨ByteArray.empty, k, p + 1, rfl, rfl, by simp; omega, hr1, by omega, hb1, hk1⟩
  case round =>
    clear hr1 hb1 hk1
    obtain ⟨t, k, p', rfl, rfl, hsz, hr, hpk, hb, hkp⟩ := hrel
    have hgl2 := hr.lt
    have HR := Lib.hid hr
    have HKP := Lib.hid hkp
    clear hr hkp
    by_cases hk0 : 0 < k
    · have hk1 : decide ((0 : Int) < (k : Int)) = true := by simp; omega
      go_wp2_with fail
      refine (of_any (HR.out.alloc _) (by omega) wr.heap.size 13 13 actsD rfl (by omega) (by omega) (by omega) (new_strs wr actsD _)).mono ?_
      rintro e w2 ⟨x, m, rfl, hx, hw2⟩
      have hr2 : RdD B w2 g (p' + 1) := by rw [hw2]; exact (HR.out.alloc _).picked m
      have hb2 : Below B w w2 := by rw [hw2]; exact (hb.alloc (by omega) _).trans (picked_below (HR.out.alloc _) m)
      have hk2 : Keeps g w w2 := by rw [hw2]; exact (HKP.out.alloc _).picked
      have hxs := acts_size hx
      clear hw2 hx hb
      go_wp2
      go_roundw
      case rel => exact ⟨t ++ x, k - 1, p' + 1, rfl, by go_num, by rw [ByteArray.size_append]; omega, hr2, by omega, hb2, hk2⟩
      case measure => simp [intOf]; omega
    · have hk1 : ¬ (0 : Int) < (k : Int) := by omega
      go_wp2
      go_ret
      exact ⟨t, rfl, by omega, p', HR.out, by omega, hb, HKP.out⟩
end Go.Proofs.Ytnbgfffcialfkaa

namespace Go.Proofs.Ytnbgfffcialfkaa
open Go.RowKit
set_option linter.unusedVariables false

set_option maxHeartbeats 1600000 in
theorem dis_any (w : World) (a : Option Addr) (len cap : Nat) (zs : List Int) (h : IsRow .u8 w a len cap zs) : Calls Try.prog 21 #[.slice a len cap] w (DvPost w) := by
  have HNR := Lib.hid (nr_any (w.alloc (.cells #[.int .i64 0, .int .i64 0, .int .i64 0, .int .i64 0] 25)) a len cap zs (isRow_alloc h _))
  clear h
  go_enter Try.func21, Try.ntmps21
  go_wp2_with fail
  refine HNR.out.mono ?_
  rintro e w1 ⟨rfl, hrd, hb1, hz1⟩
  have hs1 : (w.alloc (.cells #[.int .i64 0, .int .i64 0, .int .i64 0, .int .i64 0] 25)).heap.size = w.heap.size + 1 := by simp
  rw [hs1] at hrd hb1
  have HRD := Lib.hid hrd
  have B1 := Lib.hid ((Blk.new w 25 #[.int .i64 0, .int .i64 0, .int .i64 0, .int .i64 0]).below hb1 (by omega))
  have HB1 := Lib.hid (((Below.refl w.heap.size w).alloc (Nat.le_refl _) (.cells #[.int .i64 0, .int .i64 0, .int .i64 0, .int .i64 0] 25)).trans (hb1.mono (by omega)))
  clear hs1 hrd hb1 hz1
  go_wp2_with fail
  refine (ap_any HRD.out (by omega)).mono ?_
  rintro e w2 ⟨n, a, k, m, p', rfl, hbd, _, _, hb2⟩
  have B2 := Lib.hid (B1.out.below hb2 (by omega))
  have HB2 := Lib.hid (HB1.out.trans (hb2.mono (by omega)))
  obtain ⟨r0, r1, r2, r3⟩ := B2.out.c4
  obtain ⟨g0, g1, g2, g3⟩ := B2.out.f4
  have HB := HB2.out
  clear hb2
  go_wp2
  exact bodyPost_ret (results_cell_row (p := 2) (ty := 25) rfl _ _ w.heap.size 25 #[.int .i64 n, .int .i64 a, .int .i64 k, .int .i64 m] (0, 0) _ rfl (Blk.set4 B2.out _ _ _ _) Try.underlying25 rfl infoP) rfl ⟨n, a, k, m, rfl, hbd, (by repeat (first | (with_reducible exact Below.refl _ _) | (with_reducible assumption) | ((with_reducible refine Below.setCell ?_ ?_ _); rotate_left; focus (first | (simp; done) | (simp; omega))) | ((with_reducible refine Below.alloc ?_ ?_ _); rotate_left; focus (first | (with_reducible exact Nat.le_refl _) | (simp; done) | (simp; omega))) | (with_reducible refine belowD ?_ _) | (with_reducible refine belowDr ?_)))⟩
set_option maxHeartbeats 1600000 in
theorem dlo_any (w : World) (a : Option Addr) (len cap : Nat) (zs : List Int) (h : IsRow .u8 w a len cap zs) : Calls Try.prog 23 #[.slice a len cap] w (DvPost w) := by
  have HNR := Lib.hid (nr_any (w.alloc (.cells #[.int .i64 0, .int .i64 0, .int .i64 0, .int .i64 0] 25)) a len cap zs (isRow_alloc h _))
  clear h
  go_enter Try.func23, Try.ntmps23
  go_wp2_with fail
  refine HNR.out.mono ?_
  rintro e w1 ⟨rfl, hrd, hb1, hz1⟩
  have hs1 : (w.alloc (.cells #[.int .i64 0, .int .i64 0, .int .i64 0, .int .i64 0] 25)).heap.size = w.heap.size + 1 := by simp
  rw [hs1] at hrd hb1
  have HRD := Lib.hid hrd
  have B1 := Lib.hid ((Blk.new w 25 #[.int .i64 0, .int .i64 0, .int .i64 0, .int .i64 0]).below hb1 (by omega))
  have HB1 := Lib.hid (((Below.refl w.heap.size w).alloc (Nat.le_refl _) (.cells #[.int .i64 0, .int .i64 0, .int .i64 0, .int .i64 0] 25)).trans (hb1.mono (by omega)))
  clear hs1 hrd hb1 hz1
  go_wp2_with fail
  refine (ap_any HRD.out (by omega)).mono ?_
  rintro e w2 ⟨n, a, k, m, p', rfl, hbd, _, _, hb2⟩
  have B2 := Lib.hid (B1.out.below hb2 (by omega))
  have HB2 := Lib.hid (HB1.out.trans (hb2.mono (by omega)))
  obtain ⟨r0, r1, r2, r3⟩ := B2.out.c4
  obtain ⟨g0, g1, g2, g3⟩ := B2.out.f4
  have HB := HB2.out
  clear hb2
  go_wp2
  exact bodyPost_ret (results_cell_row (p := 2) (ty := 25) rfl _ _ w.heap.size 25 #[.int .i64 n, .int .i64 a, .int .i64 k, .int .i64 m] (0, 0) _ rfl (Blk.set4 B2.out _ _ _ _) Try.underlying25 rfl infoP) rfl ⟨n, a, k, m, rfl, hbd, (by repeat (first | (with_reducible exact Below.refl _ _) | (with_reducible assumption) | ((with_reducible refine Below.setCell ?_ ?_ _); rotate_left; focus (first | (simp; done) | (simp; omega))) | ((with_reducible refine Below.alloc ?_ ?_ _); rotate_left; focus (first | (with_reducible exact Nat.le_refl _) | (simp; done) | (simp; omega))) | (with_reducible refine belowD ?_ _) | (with_reducible refine belowDr ?_)))⟩
/-- What draws a plan and acts leaves. -/
def DrPost (w : World) (e : Ending) (w' : World) : Prop :=
  ∃ (n a k m : Int) (t : ByteArray), e = .returned (.tuple #[.agg #[.int .i64 n, .int .i64 a, .int .i64 k, .int .i64 m], .string t]) ∧ (0 ≤ n ∧ n ≤ 10 ∧ 0 ≤ a ∧ a ≤ 10 ∧ 0 ≤ k ∧ k ≤ 10 ∧ 0 ≤ m ∧ m ≤ 10) ∧ t.size ≤ 90 ∧ Below w.heap.size w w'
set_option maxHeartbeats 1600000 in
theorem drl_any (w : World) (a : Option Addr) (len cap : Nat) (zs : List Int) (h : IsRow .u8 w a len cap zs) : Calls Try.prog 17 #[.slice a len cap] w (DrPost w) := by
  have HNR := Lib.hid (nr_any (w.alloc (.cells #[.int .i64 0, .int .i64 0, .int .i64 0, .int .i64 0] 25)) a len cap zs (isRow_alloc h _))
  clear h
  go_enter Try.func17, Try.ntmps17
  go_wp2_with fail
  refine HNR.out.mono ?_
  rintro e w1 ⟨rfl, hrd, hb1, hz1⟩
  have hs1 : (w.alloc (.cells #[.int .i64 0, .int .i64 0, .int .i64 0, .int .i64 0] 25)).heap.size = w.heap.size + 1 := by simp
  rw [hs1] at hrd hb1
  have HRD := Lib.hid hrd
  have B1 := Lib.hid ((Blk.new w 25 #[.int .i64 0, .int .i64 0, .int .i64 0, .int .i64 0]).below hb1 (by omega))
  have HB1 := Lib.hid (((Below.refl w.heap.size w).alloc (Nat.le_refl _) (.cells #[.int .i64 0, .int .i64 0, .int .i64 0, .int .i64 0] 25)).trans (hb1.mono (by omega)))
  clear hs1 hrd hb1 hz1
  go_wp2_with fail
  refine (ap_any HRD.out (by omega)).mono ?_
  rintro e w2 ⟨n, a, k, m, p', rfl, hbd, hrd2, hp', hb2⟩
  have HR2 := Lib.hid hrd2
  have B2 := Lib.hid (B1.out.below hb2 (by omega))
  have HB2 := Lib.hid (HB1.out.trans (hb2.mono (by omega)))
  clear hb2 hrd2
  go_wp2_with fail
  refine (sa_any HR2.out (by omega)).mono ?_
  rintro e w3 ⟨t, p3, rfl, ht, _, _, hb3, _⟩
  have B3 := Lib.hid (B2.out.below hb3 (by omega))
  have HB3 := Lib.hid (HB2.out.trans (hb3.mono (by omega)))
  obtain ⟨r0, r1, r2, r3⟩ := B3.out.c4
  obtain ⟨g0, g1, g2, g3⟩ := B3.out.f4
  have HB := HB3.out
  clear hb3
  go_wp2
  exact bodyPost_ret (results_row_tmp (p := 2) (u := 3) (ty := 25) rfl _ _ w.heap.size 25 #[.int .i64 n, .int .i64 a, .int .i64 k, .int .i64 m] (0, 0) _ rfl (Blk.set4 B3.out _ _ _ _) Try.underlying25 rfl infoP) rfl ⟨n, a, k, m, t, rfl, hbd, ht, (by repeat (first | (with_reducible exact Below.refl _ _) | (with_reducible assumption) | ((with_reducible refine Below.setCell ?_ ?_ _); rotate_left; focus (first | (simp; done) | (simp; omega))) | ((with_reducible refine Below.alloc ?_ ?_ _); rotate_left; focus (first | (with_reducible exact Nat.le_refl _) | (simp; done) | (simp; omega))) | (with_reducible refine belowD ?_ _) | (with_reducible refine belowDr ?_)))⟩
/-- What draws a plan and a distance leaves. -/
def DoPost (w : World) (e : Ending) (w' : World) : Prop :=
  ∃ (n a k m x : Int), e = .returned (.tuple #[.agg #[.int .i64 n, .int .i64 a, .int .i64 k, .int .i64 m], .int .i64 x]) ∧ (0 ≤ n ∧ n ≤ 10 ∧ 0 ≤ a ∧ a ≤ 10 ∧ 0 ≤ k ∧ k ≤ 10 ∧ 0 ≤ m ∧ m ≤ 10) ∧ (-1 ≤ x ∧ x ≤ 10) ∧ Below w.heap.size w w'
set_option maxHeartbeats 1600000 in
theorem dro_any (w : World) (a : Option Addr) (len cap : Nat) (zs : List Int) (h : IsRow .u8 w a len cap zs) : Calls Try.prog 24 #[.slice a len cap] w (DoPost w) := by
  have HNR := Lib.hid (nr_any (w.alloc (.cells #[.int .i64 0, .int .i64 0, .int .i64 0, .int .i64 0] 25)) a len cap zs (isRow_alloc h _))
  clear h
  go_enter Try.func24, Try.ntmps24
  go_wp2_with fail
  refine HNR.out.mono ?_
  rintro e w1 ⟨rfl, hrd, hb1, hz1⟩
  have hs1 : (w.alloc (.cells #[.int .i64 0, .int .i64 0, .int .i64 0, .int .i64 0] 25)).heap.size = w.heap.size + 1 := by simp
  rw [hs1] at hrd hb1
  have HRD := Lib.hid hrd
  have B1 := Lib.hid ((Blk.new w 25 #[.int .i64 0, .int .i64 0, .int .i64 0, .int .i64 0]).below hb1 (by omega))
  have HB1 := Lib.hid (((Below.refl w.heap.size w).alloc (Nat.le_refl _) (.cells #[.int .i64 0, .int .i64 0, .int .i64 0, .int .i64 0] 25)).trans (hb1.mono (by omega)))
  clear hs1 hrd hb1 hz1
  go_wp2_with fail
  refine (ap_any HRD.out (by omega)).mono ?_
  rintro e w2 ⟨n, a, k, m, p', rfl, hbd, hrd2, hp', hb2⟩
  have HR2 := Lib.hid hrd2
  have hz2 := hb2.size
  have hgl : w.heap.size + 1 < w2.heap.size := HR2.out.lt
  have B2 := Lib.hid (B1.out.below hb2 (by omega))
  have HB2 := Lib.hid (HB1.out.trans (hb2.mono (by omega)))
  clear hb2 hrd2 hz2
  go_wp2_with fail
  refine (one_any (HR2.out.alloc _) (by omega) w2.heap.size 7 7 [0, 2, 3, 1, 6, 7, -1] rfl (by omega) (by omega) (by omega) (new_ints w2 [0, 2, 3, 1, 6, 7, -1] _)).mono ?_
  rintro e w3 ⟨x, mm, rfl, hx, hw3⟩
  have hb3 : Below (w.heap.size + 1) w2 w3 := by rw [hw3]; exact ((Below.refl _ w2).alloc (by omega) _).trans (picked_below (HR2.out.alloc _) mm)
  have B3 := Lib.hid (B2.out.below hb3 (by omega))
  have HB3 := Lib.hid (HB2.out.trans (hb3.mono (by omega)))
  have hxb : -1 ≤ x ∧ x ≤ 10 := mem_bd hx (-1) 10 (by decide)
  clear hw3 hx hb3
  obtain ⟨r0, r1, r2, r3⟩ := B3.out.c4
  obtain ⟨g0, g1, g2, g3⟩ := B3.out.f4
  have HB := HB3.out
  go_wp2
  exact bodyPost_ret (results_row_tmp (p := 2) (u := 3) (ty := 25) rfl _ _ w.heap.size 25 #[.int .i64 n, .int .i64 a, .int .i64 k, .int .i64 m] (0, 0) _ rfl (Blk.set4 B3.out _ _ _ _) Try.underlying25 rfl infoP) rfl ⟨n, a, k, m, x, rfl, hbd, hxb, (by repeat (first | (with_reducible exact Below.refl _ _) | (with_reducible assumption) | ((with_reducible refine Below.setCell ?_ ?_ _); rotate_left; focus (first | (simp; done) | (simp; omega))) | ((with_reducible refine Below.alloc ?_ ?_ _); rotate_left; focus (first | (with_reducible exact Nat.le_refl _) | (simp; done) | (simp; omega))) | (with_reducible refine belowD ?_ _) | (with_reducible refine belowDr ?_)))⟩
end Go.Proofs.Ytnbgfffcialfkaa
