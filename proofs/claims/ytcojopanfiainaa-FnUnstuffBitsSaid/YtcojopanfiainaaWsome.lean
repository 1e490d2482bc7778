/-
  The walks of what draws bits. Conditions: where the reader lies, and the bounds that are typed.
-/
import Derived.Test.YtcojopanfiainaaWpick
import Derived.Test.YtcojopanfiainaaWstuff
import Derived.OpenShut
namespace Go.Proofs.Ytcojopanfiainaa
open Go.RowKit
set_option linter.unusedVariables false

/-- What the walk is told of a list of numbers that came in. -/
def IsRow (k : IntKind) (w : World) (a : Option Addr) (len cap : Nat) (zs : List Int) : Prop :=
  (a = none ∧ len = 0 ∧ cap = 0 ∧ zs = []) ∨
  ∃ x, a = some x ∧ len ≤ cap ∧ cap ≤ maxLen ∧ zs.length = cap ∧ (∀ i, i < zs.length → w.cell? (x.add i) = some (.int k (zs.getD i 0))) ∧ ∀ n ∈ zs, (Lit.int k n).wf = true

theorem u8_of_wf {zs : List Int} (h : ∀ n ∈ zs, (Lit.int .u8 n).wf = true) (j : Nat) : 0 ≤ zs.getD j 0 ∧ zs.getD j 0 ≤ 255 := by
  rw [List.getD_eq_getElem?_getD]
  exact range_u8 h j

set_option maxHeartbeats 400000 in
theorem nr_any (w : World) (a : Option Addr) (len cap : Nat) (zs : List Int) (h : IsRow .u8 w a len cap zs) :
    Calls Try.prog 23 #[.slice a len cap] w
      fun e w' => e = .returned (.pointer (some ⟨w.heap.size, 0, none⟩)) ∧ Rd w.heap.size w' w.heap.size 0 ∧ Below w.heap.size w w' ∧ w'.heap.size = w.heap.size + 1 := by
  have fin : ∀ (n c : Nat), n ≤ 2000 → n ≤ len → Rd w.heap.size (w.alloc (.cells #[.slice a n c, .int .i64 0] 40)) w.heap.size 0 := by
    intro n c hn hnl
    refine ⟨Nat.le_refl _, a, n, c, fun j => zs.getD j 0, heap_alloc_new w _, hn, ?_, ?_⟩
    · rcases h with ⟨_, _, _, rfl⟩ | ⟨x, _, _, _, _, _, hwf⟩
      · intro j; simp
      · exact u8_of_wf hwf
    · intro h0
      rcases h with ⟨rfl, rfl, _, _⟩ | ⟨⟨b, off, spot⟩, rfl, hlc, _, hzl, hc, _⟩
      · omega
      · have hc0 := hc 0 (by omega)
        have hspot : spot = none := by simpa [Addr.add] using World.cell?_spot hc0
        subst hspot
        have hb : b < w.heap.size := by simpa [Addr.add] using World.block_lt_of_cell? w _ hc0
        refine ⟨b, off, rfl, hb, fun j hj => ?_⟩
        have := hc j (by omega)
        have e : (⟨b, off, none⟩ : Addr).add j = ⟨b, off + j, none⟩ := by unfold Addr.add; split <;> simp_all
        rw [e] at this
        rw [World.cell?_alloc_past _ _ _ hb]; exact this
  have HF := fun n c h1 h2 => Lib.hid (fin n c h1 h2)
  clear fin
  have hcap : len ≤ cap := by
    rcases h with ⟨_, rfl, rfl, _⟩ | ⟨_, _, h, _⟩ <;> omega
  clear h
  by_cases hg : (2000 : Int) < (len : Int)
  · go_enter Try.func23, Try.ntmps23
    go_wp2
    go_ret
    exact ⟨rfl, (HF 2000 cap (by omega) (by omega)).out, (Below.refl _ _).alloc (Nat.le_refl _) _, by simp⟩
  · go_enter Try.func23, Try.ntmps23
    go_wp2
    go_ret
    exact ⟨rfl, (HF len cap (by omega) (by omega)).out, (Below.refl _ _).alloc (Nat.le_refl _) _, by simp⟩

theorem new_ints (w : World) (xs : List Int) (t : TypeId) (j : Nat) (h : j < xs.length) : (w.alloc (.cells (xs.map (Value.int .i64)).toArray t)).cell? ⟨w.heap.size, j, none⟩ = some (.int .i64 (xs.getD j 0)) := by
  rw [cell_of_row _ w.heap.size j _ t (0, 0) (heap_alloc_new w _)]
  simp [List.getD_eq_getElem?_getD, List.getElem?_eq_getElem h]
theorem new_strs (w : World) (xs : List ByteArray) (t : TypeId) (j : Nat) (h : j < xs.length) : (w.alloc (.cells (xs.map Value.string).toArray t)).cell? ⟨w.heap.size, j, none⟩ = some (.string (xs.getD j ByteArray.empty)) := by
  rw [cell_of_row _ w.heap.size j _ t (0, 0) (heap_alloc_new w _)]
  simp [List.getD_eq_getElem?_getD, List.getElem?_eq_getElem h]

/-- Bits, most often: short bits, or a text that is none. -/
def Some' (most : Nat) (l : List UInt8) : Prop := (l.all isBit = true ∧ l.length ≤ most) ∨ (bitsB 40 l = false ∧ l.length ≤ most + 41)
theorem some_bad {most : Nat} {l : List UInt8} {x : ByteArray} (h : l.length ≤ most) (hx : x ∈ [(⟨#[50]⟩ : ByteArray), ⟨#[120]⟩, ⟨(List.replicate 41 48).toArray⟩]) : ∃ l', (ByteArray.mk l.toArray ++ x) = ⟨l'.toArray⟩ ∧ Some' most l' := by
  obtain ⟨y, rfl, hy, hyl⟩ : ∃ y : List UInt8, x = ⟨y.toArray⟩ ∧ (y.all isBit = false ∨ 40 < y.length) ∧ y.length ≤ 41 := by
    simp only [List.mem_cons, List.not_mem_nil, or_false] at hx
    rcases hx with rfl | rfl | rfl
    · exact ⟨[50], rfl, .inl rfl, by simp⟩
    · exact ⟨[120], rfl, .inl rfl, by simp⟩
    · exact ⟨List.replicate 41 48, rfl, .inr (by simp), by simp⟩
  refine ⟨l ++ y, ByteArray.mk_append_mk _ _, .inr ⟨?_, by simp; omega⟩⟩
  rcases hy with hy | hy
  · simp [bitsB, hy]
  · simp [bitsB]; omega
theorem some_bit {x : ByteArray} (hx : x ∈ [(⟨#[48]⟩ : ByteArray), ⟨#[49]⟩, ⟨#[49]⟩, ⟨#[49]⟩]) : ∃ c, x = ⟨[c].toArray⟩ ∧ isBit c = true := by
  simp only [List.mem_cons, List.not_mem_nil, or_false] at hx
  rcases hx with rfl | rfl | rfl | rfl
  · exact ⟨48, rfl, rfl⟩
  · exact ⟨49, rfl, rfl⟩
  · exact ⟨49, rfl, rfl⟩
  · exact ⟨49, rfl, rfl⟩

set_option maxHeartbeats 1600000 in
theorem sb_any {B : Nat} {w : World} {g p : Nat} (h : Rd B w g p) (hp : p ≤ 900000) (most : Nat) (hm : most ≤ 100) :
    Calls Try.prog 22 #[.pointer (some ⟨g, 0, none⟩), .int .i64 most] w
      fun e w' => ∃ (l : List UInt8) (p' : Nat), e = .returned (.string ⟨l.toArray⟩) ∧ Some' most l ∧ Rd B w' g p' ∧ p' ≤ p + 100 ∧ Below B w w' := by
  have hgl := h.lt
  have hBg := h.1
  go_enter Try.func22, Try.ntmps22
  go_wp2_with fail
  refine (one_any (h.alloc _) (by omega) w.heap.size 7 7 [12, 8, 20, 4, 1, 0, 40] rfl (by omega) (by omega) (by omega) (new_ints w [12, 8, 20, 4, 1, 0, 40] _)).mono ?_
  rintro e w1 ⟨x, m, rfl, hx, hw1⟩
  have hr1 : Rd B w1 g (p + 1) := by rw [hw1]; exact (h.alloc _).picked m
  have hb1 : Below B w w1 := by rw [hw1]; exact ((Below.refl B w).alloc (by omega) _).trans (picked_below (h.alloc _) m)
  clear hw1
  obtain ⟨k, rfl, hk⟩ : ∃ k : Nat, x = k ∧ k ≤ 40 := by
    simp only [List.mem_cons, List.not_mem_nil, or_false] at hx
    exact ⟨x.toNat, by omega, by omega⟩
  clear hx
  go_wp2
  go_loopw [5, 6] (fun sv nv wr => ∃ (l : List UInt8) (k p' : Nat), sv = .string ⟨l.toArray⟩ ∧ nv = .int .i64 k ∧ l.all isBit = true ∧ l.length ≤ most ∧ l.length + k ≤ 40 ∧ Rd B wr g p' ∧ p' + k ≤ p + 41 ∧ Below B w wr) (fun _ nv _ => (intOf nv).toNat)
  case atStart => exact ⟨[], k, p + 1, rfl, rfl, rfl, by simp, by simpa using hk, hr1, by omega, hb1⟩
  case round =>
    clear hr1 hb1
    obtain ⟨l, k, p', rfl, rfl, hbits, hll, hlk, hr, hpk, hb⟩ := hrel
    have HBITS := Lib.hid hbits
    clear hbits
    have hsz : (ByteArray.mk l.toArray).size ≤ 100 := by rw [mk_size]; omega
    have hlb : l.length ≤ 100 := by omega
    have hgl2 := hr.lt
    have HR := Lib.hid hr
    clear hr
    by_cases hgo : 0 < k ∧ l.length < most
    · obtain ⟨hk0, hlm⟩ := hgo
      have hk1 : decide ((0 : Int) < (k : Int)) = true := by simp; omega
      have hl1 : decide ((l.length : Int) < (most : Int)) = true := by simp; omega
      have hl2 : decide (l.length < most) = true := by simp; omega
      go_wp2_with fail
      refine (of_any (HR.out.alloc _) (by omega) wr.heap.size 4 4 [⟨#[48]⟩, ⟨#[49]⟩, ⟨#[49]⟩, ⟨#[49]⟩] rfl (by omega) (by omega) (by omega) (new_strs wr [⟨#[48]⟩, ⟨#[49]⟩, ⟨#[49]⟩, ⟨#[49]⟩] _)).mono ?_
      rintro e w2 ⟨x, m, rfl, hx, hw2⟩
      have hr2 : Rd B w2 g (p' + 1) := by rw [hw2]; exact (HR.out.alloc _).picked m
      have hb2 : Below B w w2 := by rw [hw2]; exact (hb.alloc (by omega) _).trans (picked_below (HR.out.alloc _) m)
      obtain ⟨c, rfl, hc⟩ := some_bit hx
      have HC := Lib.hid hc
      clear hw2 hx hc hb
      go_wp2
      go_roundw
      case rel => exact ⟨l ++ [c], k - 1, p' + 1, by rw [ByteArray.mk_append_mk], by go_num, by simp [HC.out]; exact fun x hx => List.all_eq_true.1 HBITS.out x hx, by simp; omega, by simp; omega, hr2, by omega, hb2⟩
      case measure => simp [intOf]; omega
    · have hex : (decide ((0 : Int) < (k : Int)) && decide ((l.length : Int) < (most : Int))) = false := by simp; omega
      have hk1 : ¬ (0 : Int) < (k : Int) ∨ ((0 : Int) < (k : Int) ∧ ¬ (l.length : Int) < (most : Int)) := by omega
      clear hgo hex
      rcases hk1 with hk1 | ⟨hk1, hk2⟩
      all_goals
        go_wp2_with fail
        refine (pick_any HR.out (by omega) 24 (by omega) (by omega)).mono ?_
        rintro e w2 ⟨r, m, rfl, hr24, hw2⟩
        have hr2 : Rd B w2 g (p' + 1) := by rw [hw2]; exact HR.out.picked m
        have hb2 : Below B w w2 := by rw [hw2]; exact hb.trans (picked_below HR.out m)
        have hgl3 := hr2.lt
        have HR2 := Lib.hid hr2
        clear hw2 hr2 hb
        cases hr0 : ((r : Int) == 0)
        · go_wp2
          go_ret
          exact ⟨l, p' + 1, rfl, .inl ⟨HBITS.out, hll⟩, HR2.out, by omega, hb2⟩
        · go_wp2_with fail
          refine (of_any (HR2.out.alloc _) (by omega) w2.heap.size 3 3 [⟨#[50]⟩, ⟨#[120]⟩, ⟨(List.replicate 41 48).toArray⟩] rfl (by omega) (by omega) (by omega) (new_strs w2 [⟨#[50]⟩, ⟨#[120]⟩, ⟨(List.replicate 41 48).toArray⟩] _)).mono ?_
          rintro e w3 ⟨x, m3, rfl, hx, hw3⟩
          have hr3 : Rd B w3 g (p' + 1 + 1) := by rw [hw3]; exact (HR2.out.alloc _).picked m3
          have hb3 : Below B w w3 := by rw [hw3]; exact (hb2.alloc (by omega) _).trans (picked_below (HR2.out.alloc _) m3)
          have hxl : x.size ≤ 41 := by
            simp only [List.mem_cons, List.not_mem_nil, or_false] at hx
            rcases hx with rfl | rfl | rfl <;> decide
          obtain ⟨l', hl', hs'⟩ := some_bad hll hx
          have HL := Lib.hid hl'
          have HS := Lib.hid hs'
          clear hw3 hx hl' hs' hb2
          go_wp2
          go_ret
          exact ⟨l', p' + 1 + 1, ret_str HL.out, HS.out, hr3, by omega, hb3⟩

theorem below_of {B : Nat} {w w1 : World} (hB : B ≤ w.heap.size) (h : Below w.heap.size w w1) : Below B w w1 := h.mono hB

set_option maxHeartbeats 400000 in
theorem dvb_any (w : World) (a : Option Addr) (len cap : Nat) (zs : List Int) (h : IsRow .u8 w a len cap zs) : Calls Try.prog 15 #[.slice a len cap] w fun e w' => ∃ l, e = .returned (.string ⟨l.toArray⟩) ∧ Some' 40 l ∧ Below w.heap.size w w' := by
  have H := Lib.hid (nr_any w a len cap zs h)
  clear h
  go_enter Try.func15, Try.ntmps15
  go_wp2_with (first | (go_at_call 23; refine H.out.mono ?_; rintro e w1 ⟨rfl, hr, hb, hz⟩; have HR := Lib.hid hr; clear hr hz) | (go_at_call 22; refine (sb_any HR.out (by omega) 40 (by omega)).mono ?_; rintro e w2 ⟨l, p', rfl, hs, hr2, hp2, hb2⟩))
  go_ret
  exact ⟨l, rfl, hs, hb.trans hb2⟩
set_option maxHeartbeats 400000 in
theorem dsb_any (w : World) (a : Option Addr) (len cap : Nat) (zs : List Int) (h : IsRow .u8 w a len cap zs) : Calls Try.prog 16 #[.slice a len cap] w fun e w' => ∃ l, e = .returned (.string ⟨l.toArray⟩) ∧ Some' 40 l ∧ Below w.heap.size w w' := by
  have H := Lib.hid (nr_any w a len cap zs h)
  clear h
  go_enter Try.func16, Try.ntmps16
  go_wp2_with (first | (go_at_call 23; refine H.out.mono ?_; rintro e w1 ⟨rfl, hr, hb, hz⟩; have HR := Lib.hid hr; clear hr hz) | (go_at_call 22; refine (sb_any HR.out (by omega) 40 (by omega)).mono ?_; rintro e w2 ⟨l, p', rfl, hs, hr2, hp2, hb2⟩))
  go_ret
  exact ⟨l, rfl, hs, hb.trans hb2⟩
end Go.Proofs.Ytcojopanfiainaa
