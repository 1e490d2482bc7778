/-
  The walks of what draws bits. Conditions: where the reader lies, and the bounds that are typed.
-/
import Derived.Test.YtogoedjcacnfcaaDoorWnr
import Derived.Test.YtogoedjcacnfcaaDoorWof
import Derived.Test.YtogoedjcacnfcaaDoorWstuff
import Derived.OpenShut
namespace Go.Proofs.YtogoedjcacnfcaaDoor
open Go.RowKit
set_option linter.unusedVariables false


/-- Bits, most often: short bits, or a text that is none. -/
def Some' (most : Nat) (l : List UInt8) : Prop := (l.all isBit = true ∧ l.length ≤ most) ∨ (bitsB 40 l = false ∧ l.length ≤ most + 41)
theorem some_bad {most : Nat} {l : List UInt8} {x : ByteArray} (h : l.length ≤ most) (hx : x ∈ [(⟨#[50]⟩ : ByteArray), ⟨#[120]⟩, ⟨(List.replicate 41 48).toArray⟩]) : ∃ l', (ByteArray.mk l.toArray ++ x) = ⟨l'.toArray⟩ ∧ Some' most l' := by
  obtain ⟨y, rfl, hy, hyl⟩ : ∃ y : List UInt8, x = ⟨y.toArray⟩ ∧ (y.all isBit = false ∨ 40 < y.length) ∧ y.length ≤ 41 := by
    simp only [List.mem_cons, List.not_mem_nil, or_false] at hx
    rcases hx with rfl | rfl | rfl
    · exact ⟨[50], rfl, .inl rfl, by simp⟩
    · exact ⟨[120], rfl, .inl rfl, by simp⟩
    · exact ⟨List.replicate 41 48, rfl, .inr (by simp), by simp⟩
  refine ⟨l ++ y, ByteArray.mk_append_mk _ _, .inr ⟨?_, by simp; omega⟩⟩
  rcases hy with hy | hy
  · simp [bitsB, hy]
  · simp [bitsB]; omega
theorem some_bit {x : ByteArray} (hx : x ∈ [(⟨#[48]⟩ : ByteArray), ⟨#[49]⟩, ⟨#[49]⟩, ⟨#[49]⟩]) : ∃ c, x = ⟨[c].toArray⟩ ∧ isBit c = true := by
  simp only [List.mem_cons, List.not_mem_nil, or_false] at hx
  rcases hx with rfl | rfl | rfl | rfl
  · exact ⟨48, rfl, rfl⟩
  · exact ⟨49, rfl, rfl⟩
  · exact ⟨49, rfl, rfl⟩
  · exact ⟨49, rfl, rfl⟩

set_option maxHeartbeats 1600000 in
theorem sb_any {B : Nat} {w : World} {g p : Nat} (h : Rd B w g p) (hp : p ≤ 900000) (most : Nat) (hm : most ≤ 100) :
    Calls Tryd.prog 30 #[.pointer (some ⟨g, 0, none⟩), .int .i64 most] w
      fun e w' => ∃ (l : List UInt8) (p' : Nat), e = .returned (.string ⟨l.toArray⟩) ∧ Some' most l ∧ Rd B w' g p' ∧ p' ≤ p + 100 ∧ Below B w w' := by
  have hgl := h.lt
  have hBg := h.1
  go_enter Tryd.func30, Tryd.ntmps30
  go_wp2_with fail
  refine (one_any (h.alloc _) (by omega) w.heap.size 7 7 [12, 8, 20, 4, 1, 0, 40] rfl (by omega) (by omega) (by omega) (new_ints w [12, 8, 20, 4, 1, 0, 40] _)).mono ?_
  rintro e w1 ⟨x, m, rfl, hx, hw1⟩
  have hr1 : Rd B w1 g (p + 1) := by rw [hw1]; exact (h.alloc _).picked m
  have hb1 : Below B w w1 := by rw [hw1]; exact ((Below.refl B w).alloc (by omega) _).trans (picked_below (h.alloc _) m)
  clear hw1
  obtain ⟨k, rfl, hk⟩ : ∃ k : Nat, x = k ∧ k ≤ 40 := by
    simp only [List.mem_cons, List.not_mem_nil, or_false] at hx
    exact ⟨x.toNat, by omega, by omega⟩
  clear hx
  go_wp2
  go_loopw [5, 6] (fun sv nv wr => ∃ (l : List UInt8) (k p' : Nat), sv = .string ⟨l.toArray⟩ ∧ nv = .int .i64 k ∧ l.all isBit = true ∧ l.length ≤ most ∧ l.length + k ≤ 40 ∧ Rd B wr g p' ∧ p' + k ≤ p + 41 ∧ Below B w wr) (fun _ nv _ => (intOf nv).toNat)
  case atStart => exact ⟨[], k, p + 1, rfl, rfl, rfl, by simp, by simpa using hk, hr1, by omega, hb1⟩
  case round =>
    clear hr1 hb1
    obtain ⟨l, k, p', rfl, rfl, hbits, hll, hlk, hr, hpk, hb⟩ := hrel
    have HBITS := Lib.hid hbits
    clear hbits
    have hsz : (ByteArray.mk l.toArray).size ≤ 100 := by rw [mk_size]; omega
    have hlb : l.length ≤ 100 := by omega
    have hgl2 := hr.lt
    have HR := Lib.hid hr
    clear hr
    by_cases hgo : 0 < k ∧ l.length < most
    · obtain ⟨hk0, hlm⟩ := hgo
      have hk1 : decide ((0 : Int) < (k : Int)) = true := by simp; omega
      have hl1 : decide ((l.length : Int) < (most : Int)) = true := by simp; omega
      have hl2 : decide (l.length < most) = true := by simp; omega
      go_wp2_with fail
      refine (of_any (HR.out.alloc _) (by omega) wr.heap.size 4 4 [⟨#[48]⟩, ⟨#[49]⟩, ⟨#[49]⟩, ⟨#[49]⟩] rfl (by omega) (by omega) (by omega) (new_strs wr [⟨#[48]⟩, ⟨#[49]⟩, ⟨#[49]⟩, ⟨#[49]⟩] _)).mono ?_
      rintro e w2 ⟨x, m, rfl, hx, hw2⟩
      have hr2 : Rd B w2 g (p' + 1) := by rw [hw2]; exact (HR.out.alloc _).picked m
      have hb2 : Below B w w2 := by rw [hw2]; exact (hb.alloc (by omega) _).trans (picked_below (HR.out.alloc _) m)
      obtain ⟨c, rfl, hc⟩ := some_bit hx
      have HC := Lib.hid hc
      clear hw2 hx hc hb
      go_wp2
      go_roundw
      case rel => exact ⟨l ++ [c], k - 1, p' + 1, by rw [ByteArray.mk_append_mk], by go_num, by simp [HC.out]; exact fun x hx => List.all_eq_true.1 HBITS.out x hx, by simp; omega, by simp; omega, hr2, by omega, hb2⟩
      case measure => simp [intOf]; omega
    · have hex : (decide ((0 : Int) < (k : Int)) && decide ((l.length : Int) < (most : Int))) = false := by simp; omega
      have hk1 : ¬ (0 : Int) < (k : Int) ∨ ((0 : Int) < (k : Int) ∧ ¬ (l.length : Int) < (most : Int)) := by omega
      clear hgo hex
      rcases hk1 with hk1 | ⟨hk1, hk2⟩
      all_goals
        go_wp2_with fail
        refine (pick_any HR.out (by omega) 24 (by omega) (by omega)).mono ?_
        rintro e w2 ⟨r, m, rfl, hr24, hw2⟩
        have hr2 : Rd B w2 g (p' + 1) := by rw [hw2]; exact HR.out.picked m
        have hb2 : Below B w w2 := by rw [hw2]; exact hb.trans (picked_below HR.out m)
        have hgl3 := hr2.lt
        have HR2 := Lib.hid hr2
        clear hw2 hr2 hb
        cases hr0 : ((r : Int) == 0)
        · go_wp2
          go_ret
          exact ⟨l, p' + 1, rfl, .inl ⟨HBITS.out, hll⟩, HR2.out, by omega, hb2⟩
        · go_wp2_with fail
          refine (of_any (HR2.out.alloc _) (by omega) w2.heap.size 3 3 [⟨#[50]⟩, ⟨#[120]⟩, ⟨(List.replicate 41 48).toArray⟩] rfl (by omega) (by omega) (by omega) (new_strs w2 [⟨#[50]⟩, ⟨#[120]⟩, ⟨(List.replicate 41 48).toArray⟩] _)).mono ?_
          rintro e w3 ⟨x, m3, rfl, hx, hw3⟩
          have hr3 : Rd B w3 g (p' + 1 + 1) := by rw [hw3]; exact (HR2.out.alloc _).picked m3
          have hb3 : Below B w w3 := by rw [hw3]; exact (hb2.alloc (by omega) _).trans (picked_below (HR2.out.alloc _) m3)
          have hxl : x.size ≤ 41 := by
            simp only [List.mem_cons, List.not_mem_nil, or_false] at hx
            rcases hx with rfl | rfl | rfl <;> decide
          obtain ⟨l', hl', hs'⟩ := some_bad hll hx
          have HL := Lib.hid hl'
          have HS := Lib.hid hs'
          clear hw3 hx hl' hs' hb2
          go_wp2
          go_ret
          exact ⟨l', p' + 1 + 1, ret_str HL.out, HS.out, hr3, by omega, hb3⟩

theorem below_of {B : Nat} {w w1 : World} (hB : B ≤ w.heap.size) (h : Below w.heap.size w w1) : Below B w w1 := h.mono hB

end Go.Proofs.YtogoedjcacnfcaaDoor
