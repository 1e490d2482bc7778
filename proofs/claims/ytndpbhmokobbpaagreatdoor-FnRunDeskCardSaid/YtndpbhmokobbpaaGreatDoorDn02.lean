/-
  The walks of what the desk's lines are drawn with: some bits, a divisor, one byte turned. Conditions: where the reader lies, and the bounds that are typed.
  The walks of the functions that escape bytes. Conditions: where the lists lie, and the lengths that are typed.
-/
import Derived.Test.YtndpbhmokobbpaaGreatDoorDn01
import Derived.Test.YtndpbhmokobbpaaGreatDoorDm24
import Derived.OpenShut
import Derived.Deep.RegionWith
import Derived.Test.YtndpbhmokobbpaaGreatDoorDm18
namespace Go.Proofs.YtndpbhmokobbpaaGreatDoor
open Go.RowKit
set_option linter.unusedVariables false

/-- What lies below T stays, but for block g. -/
structure Kps (g T : Nat) (wa wb : World) : Prop where
  size : wa.heap.size ≤ wb.heap.size
  block : ∀ j, j < T → j ≠ g → wb.heap[j]? = wa.heap[j]?
theorem Kps.refl (g T : Nat) (w : World) : Kps g T w w := ⟨Nat.le_refl _, fun _ _ _ => rfl⟩
theorem Kps.alloc {g T : Nat} {wa wb : World} (h : Kps g T wa wb) (hT : T ≤ wb.heap.size) (o : Obj) : Kps g T wa (wb.alloc o) :=
  ⟨by have := h.size; simp; omega, fun j hj hn => (Below.heap_alloc wb o j (by omega)).trans (h.block j hj hn)⟩
theorem Kps.picked {g T p m : Nat} {wa wb : World} (h : Kps g T wa wb) : Kps g T wa (picked wb g p m) :=
  ⟨by rw [picked_size]; exact h.size, fun j hj hn => (picked_other wb g p m j hn).trans (h.block j hj hn)⟩
theorem Kps.below {g T : Nat} {wa wb wc : World} (h : Kps g T wa wb) (hb : Below T wb wc) : Kps g T wa wc :=
  ⟨Nat.le_trans h.size hb.size, fun j hj hn => (hb.block j hj).trans (h.block j hj hn)⟩
theorem Kps.trans {g T : Nat} {wa wb wc : World} (h : Kps g T wa wb) (h2 : Kps g T wb wc) : Kps g T wa wc :=
  ⟨Nat.le_trans h.size h2.size, fun j hj hn => (h2.block j hj hn).trans (h.block j hj hn)⟩
theorem Kps.mono {g T T' : Nat} {wa wb : World} (h : Kps g T wa wb) (hT : T' ≤ T) : Kps g T' wa wb :=
  ⟨h.size, fun j hj hn => h.block j (by omega) hn⟩
theorem Kps.own {g T B e n : Nat} {wa wb : World} {v : Value} {xs : List Value} (h : Kps g T wa wb) (ho : wa.ownsRow B e 1 v n xs) (hg : g < B) (hT : ∀ k, v.ownBlock = some k → k < T) : wb.ownsRow B e 1 v n xs := by
  obtain ⟨h1, h2⟩ := ho
  refine ⟨h1, ?_⟩
  rcases h2 with h2 | ⟨k, cap, cur, e1, e2, e3, e4⟩
  · exact .inl h2
  · exact .inr ⟨k, cap, cur, e1, e2, (h.block k (hT k (by rw [e1]; rfl)) (by omega)).trans e3, e4⟩
/-- The reader stays, what lies below B stays, and what lies below T stays but for the reader. -/
structure Rk (B T : Nat) (w : World) (g p : Nat) (w' : World) : Prop where
  r : Rd B w' g p
  b : Below B w w'
  k : Kps g T w w'
theorem Rk.start {B : Nat} {w : World} {g p : Nat} (h : Rd B w g p) : Rk B w.heap.size w g p w := ⟨h, Below.refl _ _, Kps.refl _ _ _⟩
theorem Rk.picked {B T : Nat} {w w1 : World} {g p : Nat} (h : Rk B T w g p w1) (m : Nat) : Rk B T w g (p + 1) (picked w1 g p m) :=
  ⟨h.r.picked m, h.b.trans (picked_below h.r m), h.k.picked⟩
theorem Rk.alloc {B T : Nat} {w w1 : World} {g p : Nat} (h : Rk B T w g p w1) (hT : T ≤ w1.heap.size) (o : Obj) : Rk B T w g p (w1.alloc o) :=
  ⟨h.r.alloc o, h.b.alloc (by have := h.r.lt; have := h.r.1; omega) o, h.k.alloc hT o⟩
theorem Rk.drew {B T : Nat} {w w1 : World} {g p : Nat} (h : Rk B T w g p w1) : Rk B T w g p w1.drew := ⟨h.r.drew, below_drewN h.b 1, ⟨h.k.size, h.k.block⟩⟩
theorem Rk.trans {B T T2 : Nat} {w w1 w2 : World} {g p p2 : Nat} (h : Rk B T w g p w1) (h2 : Rk B T2 w1 g p2 w2) (hT : T ≤ T2) : Rk B T w g p2 w2 :=
  ⟨h2.r, h.b.trans h2.b, h.k.trans (h2.k.mono hT)⟩
theorem Rk.lt {B T : Nat} {w w1 : World} {g p : Nat} (h : Rk B T w g p w1) : g < w1.heap.size := h.r.lt

/-- Bits, most often: short bits, or a text that is none. -/
def Some' (most : Nat) (l : List UInt8) : Prop := (l.all isBit = true ∧ l.length ≤ most) ∨ (bitsB 40 l = false ∧ l.length ≤ most + 41)
theorem some_bad {most : Nat} {l : List UInt8} {x : ByteArray} (h : l.length ≤ most) (hx : x ∈ [(⟨#[50]⟩ : ByteArray), ⟨#[120]⟩, ⟨(List.replicate 41 48).toArray⟩]) : ∃ l', (ByteArray.mk l.toArray ++ x) = ⟨l'.toArray⟩ ∧ Some' most l' := by
  obtain ⟨y, rfl, hy, hyl⟩ : ∃ y : List UInt8, x = ⟨y.toArray⟩ ∧ (y.all isBit = false ∨ 40 < y.length) ∧ y.length ≤ 41 := by
    simp only [List.mem_cons, List.not_mem_nil, or_false] at hx
    rcases hx with rfl | rfl | rfl
    · exact ⟨[50], rfl, .inl rfl, by simp⟩
    · exact ⟨[120], rfl, .inl rfl, by simp⟩
    · exact ⟨List.replicate 41 48, rfl, .inr (by simp), by simp⟩
  refine ⟨l ++ y, ByteArray.mk_append_mk _ _, .inr ⟨?_, by simp; omega⟩⟩
  rcases hy with hy | hy
  · simp [bitsB, hy]
  · simp [bitsB]; omega
theorem some_bit {x : ByteArray} (hx : x ∈ [(⟨#[48]⟩ : ByteArray), ⟨#[49]⟩, ⟨#[49]⟩, ⟨#[49]⟩]) : ∃ c, x = ⟨[c].toArray⟩ ∧ isBit c = true := by
  simp only [List.mem_cons, List.not_mem_nil, or_false] at hx
  rcases hx with rfl | rfl | rfl | rfl
  · exact ⟨48, rfl, rfl⟩
  · exact ⟨49, rfl, rfl⟩
  · exact ⟨49, rfl, rfl⟩
  · exact ⟨49, rfl, rfl⟩

set_option maxHeartbeats 1600000 in
theorem sbk_any {B : Nat} {w : World} {g p : Nat} (h : Rd B w g p) (hp : p ≤ 900000) (most : Nat) (hm : most ≤ 100) :
    Calls Tryz.prog 16 #[.pointer (some ⟨g, 0, none⟩), .int .i64 most] w
      fun e w' => ∃ (l : List UInt8) (p' : Nat), e = .returned (.string ⟨l.toArray⟩) ∧ Some' most l ∧ Rk B w.heap.size w g p' w' ∧ p' ≤ p + 100 := by
  have hgl := h.lt
  have hBg := h.1
  go_enter Tryz.func16, Tryz.ntmps16
  go_wp2_with fail
  refine (one_any (h.alloc _) (by omega) w.heap.size 7 7 [12, 8, 20, 4, 1, 0, 40] rfl (by omega) (by omega) (by omega) (new_ints w [12, 8, 20, 4, 1, 0, 40] _)).mono ?_
  rintro e w1 ⟨x, m, rfl, hx, hw1⟩
  have hr1 : Rk B w.heap.size w g (p + 1) w1 := by rw [hw1]; exact ((Rk.start h).alloc (Nat.le_refl _) _).picked m
  clear hw1
  obtain ⟨k, rfl, hk⟩ : ∃ k : Nat, x = k ∧ k ≤ 40 := by
    simp only [List.mem_cons, List.not_mem_nil, or_false] at hx
    exact ⟨x.toNat, by omega, by omega⟩
  clear hx
  go_wp2
  go_loopw [5, 6] (fun sv nv wr => ∃ (l : List UInt8) (k p' : Nat), sv = .string ⟨l.toArray⟩ ∧ nv = .int .i64 k ∧ l.all isBit = true ∧ l.length ≤ most ∧ l.length + k ≤ 40 ∧ Rk B w.heap.size w g p' wr ∧ p' + k ≤ p + 41) (fun _ nv _ => (intOf nv).toNat)
  case atStart => exact ⟨[], k, p + 1, rfl, rfl, rfl, by simp, by simpa using hk, hr1, by omega⟩
  case round =>
    clear hr1
    obtain ⟨l, k, p', rfl, rfl, hbits, hll, hlk, hr, hpk⟩ := hrel
    have HBITS := Lib.hid hbits
    clear hbits
    have hsz : (ByteArray.mk l.toArray).size ≤ 100 := by rw [mk_size]; omega
    have hlb : l.length ≤ 100 := by omega
    have hgl2 := hr.lt
    have hzz := hr.k.size
    have HR := Lib.hid hr
    clear hr
    by_cases hgo : 0 < k ∧ l.length < most
    · obtain ⟨hk0, hlm⟩ := hgo
      have hk1 : decide ((0 : Int) < (k : Int)) = true := by simp; omega
      have hl1 : decide ((l.length : Int) < (most : Int)) = true := by simp; omega
      have hl2 : decide (l.length < most) = true := by simp; omega
      go_wp2_with fail
      refine (of_any (HR.out.r.alloc _) (by omega) wr.heap.size 4 4 [⟨#[48]⟩, ⟨#[49]⟩, ⟨#[49]⟩, ⟨#[49]⟩] rfl (by omega) (by omega) (by omega) (new_strs wr [⟨#[48]⟩, ⟨#[49]⟩, ⟨#[49]⟩, ⟨#[49]⟩] _)).mono ?_
      rintro e w2 ⟨x, m, rfl, hx, hw2⟩
      have hr2 : Rk B w.heap.size w g (p' + 1) w2 := by rw [hw2]; exact (HR.out.alloc hzz _).picked m
      obtain ⟨c, rfl, hc⟩ := some_bit hx
      have HC := Lib.hid hc
      clear hw2 hx hc
      go_wp2
      go_roundw
      case rel => exact ⟨l ++ [c], k - 1, p' + 1, by rw [ByteArray.mk_append_mk], by go_num, by simp [HC.out]; exact fun x hx => List.all_eq_true.1 HBITS.out x hx, by simp; omega, by simp; omega, hr2, by omega⟩
      case measure => simp [intOf]; omega
    · have hex : (decide ((0 : Int) < (k : Int)) && decide ((l.length : Int) < (most : Int))) = false := by simp; omega
      have hk1 : ¬ (0 : Int) < (k : Int) ∨ ((0 : Int) < (k : Int) ∧ ¬ (l.length : Int) < (most : Int)) := by omega
      clear hgo hex
      rcases hk1 with hk1 | ⟨hk1, hk2⟩
      all_goals
        go_wp2_with fail
        refine (pick_any HR.out.r (by omega) 24 (by omega) (by omega)).mono ?_
        rintro e w2 ⟨r, m, rfl, hr24, hw2⟩
        have hr2 : Rk B w.heap.size w g (p' + 1) w2 := by rw [hw2]; exact HR.out.picked m
        have hz2 := hr2.k.size
        have hgl3 := hr2.lt
        have HR2 := Lib.hid hr2
        clear hw2 hr2
        cases hr0 : ((r : Int) == 0)
        · go_wp2
          go_ret
          exact ⟨l, p' + 1, rfl, .inl ⟨HBITS.out, hll⟩, HR2.out, by omega⟩
        · go_wp2_with fail
          refine (of_any (HR2.out.r.alloc _) (by omega) w2.heap.size 3 3 [⟨#[50]⟩, ⟨#[120]⟩, ⟨(List.replicate 41 48).toArray⟩] rfl (by omega) (by omega) (by omega) (new_strs w2 [⟨#[50]⟩, ⟨#[120]⟩, ⟨(List.replicate 41 48).toArray⟩] _)).mono ?_
          rintro e w3 ⟨x, m3, rfl, hx, hw3⟩
          have hr3 : Rk B w.heap.size w g (p' + 1 + 1) w3 := by rw [hw3]; exact (HR2.out.alloc hz2 _).picked m3
          have hxl : x.size ≤ 41 := by
            simp only [List.mem_cons, List.not_mem_nil, or_false] at hx
            rcases hx with rfl | rfl | rfl <;> decide
          obtain ⟨l', hl', hs'⟩ := some_bad hll hx
          have HL := Lib.hid hl'
          have HS := Lib.hid hs'
          clear hw3 hx hl' hs'
          go_wp2
          go_ret
          exact ⟨l', p' + 1 + 1, ret_str HL.out, HS.out, hr3, by omega⟩
theorem mut_size {x : ByteArray} (hx : x ∈ [(⟨#[48]⟩ : ByteArray), ⟨#[49]⟩, ⟨#[50]⟩, ⟨#[44]⟩, ⟨#[120]⟩, ⟨#[32]⟩]) : x.size ≤ 1 := by
  simp only [List.mem_cons, List.not_mem_nil, or_false] at hx
  rcases hx with rfl | rfl | rfl | rfl | rfl | rfl <;> decide

set_option maxHeartbeats 1600000 in
theorem mutk_any {B : Nat} {w : World} {g p : Nat} (h : Rd B w g p) (hp : p ≤ 900000) (s : ByteArray) (hs : s.size ≤ 900) :
    Calls Tryz.prog 25 #[.pointer (some ⟨g, 0, none⟩), .string s] w
      fun e w' => ∃ (t : ByteArray) (p' : Nat), e = .returned (.string t) ∧ t.size ≤ s.size + 1 ∧ Rk B w.heap.size w g p' w' ∧ p' ≤ p + 3 := by
  have hgl := h.lt
  have hBg := h.1
  go_enter Tryz.func25, Tryz.ntmps25
  go_wp2_with fail
  refine (pick_any h (by omega) ((s.size : Int) + 1) (by omega) (by omega)).mono ?_
  rintro e w1 ⟨k, m, rfl, hk, hw1⟩
  have hr1 : Rk B w.heap.size w g (p + 1) w1 := by rw [hw1]; exact (Rk.start h).picked m
  clear hw1
  go_wp2_with fail
  refine (pick_any hr1.r (by omega) 5 (by omega) (by omega)).mono ?_
  rintro e w2 ⟨c, m, rfl, hc, hw2⟩
  have hr2 : Rk B w.heap.size w g (p + 1 + 1) w2 := by rw [hw2]; exact hr1.picked m
  have hz2 := hr2.k.size
  have hgl2 := hr2.lt
  have HR2 := Lib.hid hr2
  clear hw2 hr1 h hr2
  rcases (show c = 0 ∨ c = 1 ∨ c = 2 ∨ c = 3 ∨ c = 4 from by omega) with rfl | rfl | rfl | rfl | rfl
  · by_cases hks : k < s.size
    · have hki : (k : Int) < (s.size : Int) := by omega
      have hrem : (0 : Int) ≤ (k : Int) + 1 ∧ (k : Int) + 1 ≤ (s.size : Int) := by omega
      go_wp2_with fail
      have q1 : IntKind.i64.wrap ((k : Int) + 1) = (k : Int) + 1 := wrap_id _ (by omega)
      have q2 : ((k : Int) + 1).toNat = k + 1 := by omega
      have q3 : (0 : Int) ≤ (k : Int) + 1 := by omega
      have q4 : (k : Int) + 1 ≤ (s.size : Int) := by omega
      have q5 : k + 1 ≤ s.size := by omega
      have q6 : k ≤ s.size := by omega
      have q7 : ¬ ((k : Int) + 1 < 0) := by omega
      have q8 : ¬ ((s.size : Int) < (k : Int) + 1) := by omega
      have hx1 : (s.extract 0 k).size ≤ k := by rw [ByteArray.size_extract]; omega
      have hx2 : (s.extract (k + 1) s.size).size ≤ s.size - (k + 1) := by rw [ByteArray.size_extract]; omega
      go_region_with (go_at_call 24; refine (of_any (HR2.out.r.alloc _).drew (by omega) w2.heap.size 6 6 [⟨#[48]⟩, ⟨#[49]⟩, ⟨#[50]⟩, ⟨#[44]⟩, ⟨#[120]⟩, ⟨#[32]⟩] rfl (by omega) (by omega) (by omega) (new_strs w2 [⟨#[48]⟩, ⟨#[49]⟩, ⟨#[50]⟩, ⟨#[44]⟩, ⟨#[120]⟩, ⟨#[32]⟩] _)).mono ?_; rintro e w3 ⟨x, m3, rfl, hx, hw3⟩; have HR3 : Hid (Rk B w.heap.size w g (p + 1 + 1 + 1) w3) := Lib.hid (by rw [hw3]; exact ((HR2.out.alloc hz2 _).drew).picked m3); have hxl := mut_size hx; clear hw3 hx; have ha1 := fun W => run_string_add_sum (P := Tryz.prog) W (s.extract 0 k) x (by omega); have ha2 := fun W => run_string_add_sum (P := Tryz.prog) W (s.extract 0 k ++ x) (s.extract (k + 1) s.size) (by rw [ByteArray.size_append]; omega); generalize s.extract 0 k = s1 at *; generalize s.extract (k + 1) s.size = s2 at *)
      go_wp2
      go_ret
      refine ⟨_, p + 1 + 1 + 1, rfl, ?_, HR3.out, by omega⟩
      rw [ByteArray.size_append, ByteArray.size_append]; omega
    · go_wp2
      go_ret
      exact ⟨_, p + 1 + 1, rfl, by omega, HR2.out, by omega⟩
  · by_cases hks : k < s.size
    · have hki : (k : Int) < (s.size : Int) := by omega
      have hrem : (0 : Int) ≤ (k : Int) + 1 ∧ (k : Int) + 1 ≤ (s.size : Int) := by omega
      go_wp2_with fail
      have q1 : IntKind.i64.wrap ((k : Int) + 1) = (k : Int) + 1 := wrap_id _ (by omega)
      have q2 : ((k : Int) + 1).toNat = k + 1 := by omega
      have q3 : (0 : Int) ≤ (k : Int) + 1 := by omega
      have q4 : (k : Int) + 1 ≤ (s.size : Int) := by omega
      have q5 : k + 1 ≤ s.size := by omega
      have q6 : k ≤ s.size := by omega
      have q7 : ¬ ((k : Int) + 1 < 0) := by omega
      have q8 : ¬ ((s.size : Int) < (k : Int) + 1) := by omega
      have hx1 : (s.extract 0 k).size ≤ k := by rw [ByteArray.size_extract]; omega
      have hx2 : (s.extract (k + 1) s.size).size ≤ s.size - (k + 1) := by rw [ByteArray.size_extract]; omega
      go_region_with (go_at_call 24; refine (of_any (HR2.out.r.alloc _).drew (by omega) w2.heap.size 6 6 [⟨#[48]⟩, ⟨#[49]⟩, ⟨#[50]⟩, ⟨#[44]⟩, ⟨#[120]⟩, ⟨#[32]⟩] rfl (by omega) (by omega) (by omega) (new_strs w2 [⟨#[48]⟩, ⟨#[49]⟩, ⟨#[50]⟩, ⟨#[44]⟩, ⟨#[120]⟩, ⟨#[32]⟩] _)).mono ?_; rintro e w3 ⟨x, m3, rfl, hx, hw3⟩; have HR3 : Hid (Rk B w.heap.size w g (p + 1 + 1 + 1) w3) := Lib.hid (by rw [hw3]; exact ((HR2.out.alloc hz2 _).drew).picked m3); have hxl := mut_size hx; clear hw3 hx; have ha1 := fun W => run_string_add_sum (P := Tryz.prog) W (s.extract 0 k) x (by omega); have ha2 := fun W => run_string_add_sum (P := Tryz.prog) W (s.extract 0 k ++ x) (s.extract (k + 1) s.size) (by rw [ByteArray.size_append]; omega); generalize s.extract 0 k = s1 at *; generalize s.extract (k + 1) s.size = s2 at *)
      go_wp2
      go_ret
      refine ⟨_, p + 1 + 1 + 1, rfl, ?_, HR3.out, by omega⟩
      rw [ByteArray.size_append, ByteArray.size_append]; omega
    · go_wp2
      go_ret
      exact ⟨_, p + 1 + 1, rfl, by omega, HR2.out, by omega⟩
  · go_wp2
    go_ret
    exact ⟨_, p + 1 + 1, rfl, by rw [ByteArray.size_extract]; omega, HR2.out, by omega⟩
  · go_wp2_with fail
    refine (of_any (HR2.out.r.alloc _) (by omega) w2.heap.size 4 4 [⟨#[48]⟩, ⟨#[49]⟩, ⟨#[32]⟩, ⟨#[120]⟩] rfl (by omega) (by omega) (by omega) (new_strs w2 [⟨#[48]⟩, ⟨#[49]⟩, ⟨#[32]⟩, ⟨#[120]⟩] _)).mono ?_
    rintro e w3 ⟨x, m3, rfl, hx, hw3⟩
    have HR3 : Hid (Rk B w.heap.size w g (p + 1 + 1 + 1) w3) := Lib.hid (by rw [hw3]; exact (HR2.out.alloc hz2 _).picked m3)
    have hxl : x.size ≤ 1 := by
      simp only [List.mem_cons, List.not_mem_nil, or_false] at hx
      rcases hx with rfl | rfl | rfl | rfl <;> decide
    clear hw3 hx
    go_wp2
    go_ret
    exact ⟨_, p + 1 + 1 + 1, rfl, by rw [ByteArray.size_append]; omega, HR3.out, by omega⟩
  · go_wp2
    go_ret
    exact ⟨_, p + 1 + 1, rfl, by omega, HR2.out, by omega⟩
theorem mem_size {xs : List ByteArray} {n : Nat} (h : xs.all (fun x => decide (x.size ≤ n)) = true) {x : ByteArray} (hx : x ∈ xs) : x.size ≤ n := by
  simpa using List.all_eq_true.1 h x hx
/-- The texts of which one is drawn. -/
def noPolys : List ByteArray := [⟨#[]⟩, ⟨#[49]⟩, ⟨#[49, 48]⟩, ⟨#[48, 49]⟩, ⟨#[49, 48, 48, 48, 48, 48, 48, 48, 48, 49]⟩, ⟨#[49, 120, 49]⟩]
def polys : List ByteArray := [⟨#[49, 48, 49, 49]⟩, ⟨#[49, 49]⟩, ⟨#[49, 49, 49]⟩, ⟨#[49, 48, 48, 49, 49]⟩, ⟨#[49, 49, 48, 49]⟩, ⟨#[49, 48, 49]⟩, ⟨#[49, 49, 48, 48, 48, 49]⟩, ⟨#[49, 48, 48, 48, 48, 48, 49, 49, 49]⟩, ⟨#[49, 49, 48, 49, 49]⟩, ⟨#[49, 49, 49, 49]⟩]

set_option maxHeartbeats 1600000 in
theorem apk_any {B : Nat} {w : World} {g p : Nat} (h : Rd B w g p) (hp : p ≤ 900000) :
    Calls Tryz.prog 18 #[.pointer (some ⟨g, 0, none⟩)] w
      fun e w' => ∃ (t : ByteArray) (p' : Nat), e = .returned (.string t) ∧ t.size ≤ 10 ∧ Rk B w.heap.size w g p' w' ∧ p' ≤ p + 2 := by
  have hgl := h.lt
  have hBg := h.1
  go_enter Tryz.func18, Tryz.ntmps18
  go_wp2_with fail
  refine (pick_any h (by omega) 24 (by omega) (by omega)).mono ?_
  rintro e w1 ⟨r, m, rfl, hr24, hw1⟩
  have hr1 : Rk B w.heap.size w g (p + 1) w1 := by rw [hw1]; exact (Rk.start h).picked m
  have hz1 := hr1.k.size
  have hgl1 := hr1.lt
  have HR1 := Lib.hid hr1
  clear hw1 h hr1
  cases hr0 : ((r : Int) == 0)
  · go_wp2_with fail
    refine (of_any (HR1.out.r.alloc _) (by omega) w1.heap.size 10 10 polys rfl (by omega) (by omega) (by omega) (new_strs w1 polys _)).mono ?_
    rintro e w2 ⟨x, m2, rfl, hx, hw2⟩
    have hr2 : Rk B w.heap.size w g (p + 1 + 1) w2 := by rw [hw2]; exact (HR1.out.alloc hz1 _).picked m2
    have hxl := mem_size (n := 10) (by decide +kernel) hx
    clear hw2 hx
    go_wp2
    go_ret
    exact ⟨x, p + 1 + 1, rfl, hxl, hr2, by omega⟩
  · go_wp2_with fail
    refine (of_any (HR1.out.r.alloc _) (by omega) w1.heap.size 6 6 noPolys rfl (by omega) (by omega) (by omega) (new_strs w1 noPolys _)).mono ?_
    rintro e w2 ⟨x, m2, rfl, hx, hw2⟩
    have hr2 : Rk B w.heap.size w g (p + 1 + 1) w2 := by rw [hw2]; exact (HR1.out.alloc hz1 _).picked m2
    have hxl := mem_size (n := 10) (by decide +kernel) hx
    clear hw2 hx
    go_wp2
    go_ret
    exact ⟨x, p + 1 + 1, rfl, hxl, hr2, by omega⟩
theorem some_le {most : Nat} {l : List UInt8} (h : Some' most l) : (ByteArray.mk l.toArray).size ≤ most + 41 := by
  rw [mk_size]; rcases h with ⟨_, h⟩ | ⟨_, h⟩ <;> omega
end Go.Proofs.YtndpbhmokobbpaaGreatDoor

namespace Go.Proofs.YtndpbhmokobbpaaGreatDoor
open Go.RowKit
set_option linter.unusedVariables false

/-- What EscapeBytes gives. -/
def escR (l : List Int) : List Int := if bytesB 16 l = true then escs l ++ [192] else []
theorem escB_192 : escB 192 = [219, 220] := rfl
theorem escB_219 : escB 219 = [219, 221] := rfl
theorem escB_else {x : Int} (h1 : x ≠ 192) (h2 : x ≠ 219) : escB x = [x] := by simp [escB, h1, h2]

set_option maxHeartbeats 1600000 in
theorem sEB_yes (w : World) (b off c n : Nat) (xs : List Int) (hn : xs.length = n) (h : At w b off xs) (hv : bytesB 16 xs = true) :
    Calls Tryz.prog 22 #[.slice (some ⟨b, off, none⟩) n c] w
      fun e w' => ∃ v, e = .returned v ∧ w'.ownsRow w.heap.size 3 1 v (escs xs ++ [192]).length (ints (escs xs ++ [192])) ∧ Below w.heap.size w w' := by
  have hlen : xs.length ≤ 16 := by simp [bytesB] at hv; exact hv.1
  have h1 := svy_at w b off c n 16 xs hn (by omega) (by omega) h
  rw [hv] at h1
  have H1 : Hid (Calls Tryz.prog 33 #[.slice (some ⟨b, off, none⟩) n c, .int .i64 16] w fun e w' => e = .returned (.bool true) ∧ w = w') := h1
  obtain ⟨i0, hi, hz0, hz1, hz2⟩ := info_parts info3
  have HI := Lib.hid hi
  have HZ0 := Lib.hid hz0
  have HZ1 := Lib.hid hz1
  have HZ2 := Lib.hid hz2
  have HN := Lib.hid hn
  have HC := Lib.hid h.2
  have hb := h.1
  have hn16 : n ≤ 16 := by omega
  clear hi hz0 hz1 hz2 h hn hv h1 hlen
  go_enter Tryz.func22, Tryz.ntmps22
  go_wp2_with (go_at_call 33; refine H1.out.mono ?_; rintro e w' ⟨rfl, rfl⟩)
  go_loopw [3, 4] (fun v i wr => ∃ k : Nat, k ≤ n ∧ i = .int .i64 k ∧ wr.ownsRow w.heap.size 3 1 v (escs (xs.take k)).length (ints (escs (xs.take k))) ∧ Below w.heap.size w wr ∧ w.heap.size ≤ wr.heap.size) (fun _ i _ => n - (intOf i).toNat)
  case atStart =>
    refine ⟨0, Nat.zero_le _, rfl, ?_, (Below.refl _ _).alloc (Nat.le_refl _) _, by simp⟩
    exact World.ownsRow_made w #[] 0 (Nat.le_refl _) (by unfold maxLen; omega) rfl
  case round =>
    obtain ⟨k, hk, rfl, hown, hbel, hsz⟩ := hrel
    have hel := (escs_len (xs.take k)).2
    have hel2 : (xs.take k).length ≤ k := List.length_take_le _ _
    by_cases hlt : k < n
    · have hkx : k < xs.length := by have := HN.out; omega
      have hc1 := (hbel.cell (p := ⟨b, off + k, none⟩) hb).trans (HC.out k hkx)
      have HS : Hid (escs (xs.take (k + 1)) = escs (xs.take k) ++ escB (xs.getD k 0)) := by rw [takeI_snoc xs k hkx, escs_snoc]; rfl
      clear hkx
      generalize xs.getD k 0 = x at *
      generalize escs (xs.take k) = o at *
      have hol : o.length ≤ 32 := by omega
      clear hel hel2
      cases h192 : (x == 192)
      · cases h219 : (x == 219)
        · have e : escB x = [x] := escB_else (by simpa using h192) (by simpa using h219)
          have HE := Lib.hid e
          clear e
          go_wp2_with (at_builtin; refine wpList_append_own _ rfl (.tmp 19) (.tmp 24) 36 rfl w.heap.size 3 i0 (.int .i64 0) 1 8 Tryz.underlying36 HI.out HZ0.out HZ1.out HZ2.out rfl (by decide) _ _ _ rfl (hown.alloc _) ⟨wr.heap.size, 0, none⟩ 1 1 [.int .i64 x] rfl rfl (cell_one_new _ _ _) (one_cell _ rfl) (by rw [mx]; omega) (by omega) (by simp; omega) ?_; intro v1 w1 hown1 hg1 hnil; clear hnil)
          have R := push_below hown hg1 hbel hsz
          go_roundw
          case rel => exact ⟨k + 1, by omega, by go_num, by rw [HS.out, HE.out]; exact ownI_snoc hown1, R.1, R.2⟩
          case measure => simp [intOf]; omega
        · have e : x = 219 := by simpa using h219
          subst e
          go_wp2_with (at_builtin; refine wpList_append_own _ rfl (.tmp 33) (.tmp 34) 36 rfl w.heap.size 3 i0 (.int .i64 0) 1 8 Tryz.underlying36 HI.out HZ0.out HZ1.out HZ2.out rfl (by decide) _ _ _ rfl (hown.alloc _) ⟨wr.heap.size, 0, none⟩ 2 2 [.int .i64 219, .int .i64 221] rfl rfl (cell_two_new _ _ _ _) (two_cells _ _ rfl rfl) (by rw [mx]; omega) (by omega) (by simp; omega) ?_; intro v1 w1 hown1 hg1 hnil; clear hnil)
          have R := push_below hown hg1 hbel hsz
          go_roundw
          case rel => exact ⟨k + 1, by omega, by go_num, by rw [HS.out, escB_219]; exact ownI_snoc2 hown1, R.1, R.2⟩
          case measure => simp [intOf]; omega
      · have e : x = 192 := by simpa using h192
        subst e
        go_wp2_with (at_builtin; refine wpList_append_own _ rfl (.tmp 28) (.tmp 29) 36 rfl w.heap.size 3 i0 (.int .i64 0) 1 8 Tryz.underlying36 HI.out HZ0.out HZ1.out HZ2.out rfl (by decide) _ _ _ rfl (hown.alloc _) ⟨wr.heap.size, 0, none⟩ 2 2 [.int .i64 219, .int .i64 220] rfl rfl (cell_two_new _ _ _ _) (two_cells _ _ rfl rfl) (by rw [mx]; omega) (by omega) (by simp; omega) ?_; intro v1 w1 hown1 hg1 hnil; clear hnil)
        have R := push_below hown hg1 hbel hsz
        go_roundw
        case rel => exact ⟨k + 1, by omega, by go_num, by rw [HS.out, escB_192]; exact ownI_snoc2 hown1, R.1, R.2⟩
        case measure => simp [intOf]; omega
    · have e : xs.take k = xs := List.take_of_length_le (by have := HN.out; omega)
      rw [e] at hown hel
      have hel3 : xs.length ≤ 16 := by have := HN.out; omega
      clear e hel2
      generalize ho : escs xs = o at *
      have HO := Lib.hid ho
      clear ho
      have hol : o.length ≤ 32 := by omega
      clear hel hel3
      go_wp2_with (at_builtin; refine wpList_append_own _ rfl (.tmp 36) (.tmp 37) 36 rfl w.heap.size 3 i0 (.int .i64 0) 1 8 Tryz.underlying36 HI.out HZ0.out HZ1.out HZ2.out rfl (by decide) _ _ _ rfl (hown.alloc _) ⟨wr.heap.size, 0, none⟩ 1 1 [.int .i64 192] rfl rfl (cell_one_new _ _ _) (one_cell _ rfl) (by rw [mx]; omega) (by omega) (by simp; omega) ?_; intro v1 w1 hown1 hg1 hnil; clear hnil)
      have R := push_below hown hg1 hbel hsz
      go_ret
      exact ⟨v1, rfl, by rw [HO.out]; exact ownI_snoc hown1, R.1⟩

set_option maxHeartbeats 400000 in
theorem sEB_no (w : World) (b off c n : Nat) (xs : List Int) (hn : xs.length = n) (hn2 : n ≤ 1048576) (h : At w b off xs) (hv : bytesB 16 xs = false) :
    Calls Tryz.prog 22 #[.slice (some ⟨b, off, none⟩) n c] w fun e w' => e = .returned (.slice none 0 0) ∧ w = w' := by
  have h1 := svy_at w b off c n 16 xs hn hn2 (by omega) h
  rw [hv] at h1
  have H1 : Hid (Calls Tryz.prog 33 #[.slice (some ⟨b, off, none⟩) n c, .int .i64 16] w fun e w' => e = .returned (.bool false) ∧ w = w') := h1
  clear h1 hv h
  go_enter Tryz.func22, Tryz.ntmps22
  go_wp2_with (go_at_call 33; refine H1.out.mono ?_; rintro e w' ⟨rfl, rfl⟩)
  go_ret
  exact ⟨rfl, rfl⟩
set_option maxHeartbeats 400000 in
theorem sEB_nil (w : World) (A : Option Addr) (c : Nat) :
    Calls Tryz.prog 22 #[.slice A 0 c] w
      fun e w' => ∃ v, e = .returned v ∧ w'.ownsRow w.heap.size 3 1 v 1 (ints [192]) ∧ Below w.heap.size w w' := by
  have H1 : Hid (Calls Tryz.prog 33 #[.slice A 0 c, .int .i64 16] w fun e w' => e = .returned (.bool true) ∧ w = w') := svy_nil w A c 16
  obtain ⟨i0, hi, hz0, hz1, hz2⟩ := info_parts info3
  have hown := World.ownsRow_made (base := w.heap.size) (e := 3) (size := 1) w #[] 0 (Nat.le_refl _) (by unfold maxLen; omega) rfl
  go_enter Tryz.func22, Tryz.ntmps22
  go_wp2_with (go_at_call 33; refine H1.out.mono ?_; rintro e w' ⟨rfl, rfl⟩)
  refine wp_loop_rounds 1 ?_
  rw [rounds_succ]
  go_wp2_with (at_builtin; refine wpList_append_own _ rfl (.tmp 36) (.tmp 37) 36 rfl w.heap.size 3 i0 (.int .i64 0) 1 8 Tryz.underlying36 hi hz0 hz1 hz2 rfl (by decide) _ _ _ rfl (hown.alloc _) ⟨w.heap.size + 1, 0, none⟩ 1 1 [.int .i64 192] rfl rfl (by simpa using cell_one_new (w.alloc (.cells #[] 3)) (.int .i64 192) 3) (one_cell _ rfl) (by rw [mx]; omega) (by omega) (by simp; omega) ?_; intro v1 w1 hown1 hg1 hnil; clear hnil)
  have R := push_below hown hg1 ((Below.refl _ w).alloc (Nat.le_refl _) _) (by simp)
  go_ret
  exact ⟨v1, rfl, hown1, R.1⟩

/-- spec.EscapeBytes leaves escR in memory of its own. -/
theorem sEB_any (w : World) (v : Value) (xs : List Int) (h : Rds w v xs) (hn : xs.length ≤ 1048576) :
    Calls Tryz.prog 22 #[v] w
      fun e w' => ∃ u, e = .returned u ∧ w'.ownsRow w.heap.size 3 1 u (escR xs).length (ints (escR xs)) ∧ Below w.heap.size w w' := by
  obtain ⟨A, c, rfl, h1⟩ := h
  rcases Nat.eq_zero_or_pos xs.length with h0 | h0
  · obtain rfl : xs = [] := List.eq_nil_of_length_eq_zero h0
    exact sEB_nil w A c
  · obtain ⟨b, off, rfl, ha⟩ := h1 h0
    unfold escR
    by_cases hv : bytesB 16 xs = true
    · rw [if_pos hv]; exact sEB_yes w b off c xs.length xs rfl ha hv
    · rw [if_neg hv]
      exact (sEB_no w b off c xs.length xs rfl hn ha (by simpa using hv)).mono fun e w' ⟨he, hw⟩ => ⟨_, he, World.ownsRow_nil _ _ _ _, by rw [hw]; exact Below.refl _ _⟩
end Go.Proofs.YtndpbhmokobbpaaGreatDoor
