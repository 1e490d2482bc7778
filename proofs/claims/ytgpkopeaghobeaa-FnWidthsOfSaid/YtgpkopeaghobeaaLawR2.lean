/-
  The walk of the law FnWidthsOf: it returns true at every list of bytes. No condition but that the list is one that can be.
-/
import Derived.Test.YtgpkopeaghobeaaWwf
import Derived.Test.YtgpkopeaghobeaaWeql
import Derived.Test.YtgpkopeaghobeaaWnr
import Derived.Test.YtgpkopeaghobeaaWof
import Derived.BigQuiet
import Derived.Deep.QuietTactic
namespace Go.Proofs.Ytgpkopeaghobeaa
open Go.RowKit
set_option linter.unusedVariables false

def strLen (v : Value) : Nat := match v with | .string s => s.size | _ => 0
theorem app_size (s x : ByteArray) : (s ++ x).size = s.size + x.size := ByteArray.size_append
/-- What the draw leaves. -/
def DwdPost (w : World) (e : Ending) (w' : World) : Prop := ∃ (lim : Int) (s : ByteArray), e = .returned (.tuple #[.int .i64 lim, .string s]) ∧ s.size ≤ 20 ∧ Below w.heap.size w w'

set_option maxHeartbeats 1600000 in
theorem dwd_any (w : World) (a : Option Addr) (len cap : Nat) (zs : List Int) (h : IsRow .u8 w a len cap zs) :
    Calls Try.prog 10 #[.slice a len cap] w (DwdPost w) := by
  have H := Lib.hid (nr_any w a len cap zs h)
  clear h
  go_enter Try.func10, Try.ntmps10
  go_wp2_with fail
  refine H.out.mono ?_
  rintro e v ⟨rfl, hr, hb, hz⟩
  have HRV := Lib.hid hr
  have HBV := Lib.hid hb
  have hgl : w.heap.size < v.heap.size := hr.lt
  clear hr hb hz
  generalize hB : w.heap.size = B at *
  have HB := Lib.hid hB
  clear hB
  go_wp2_with fail
  refine (one_any (HRV.out.alloc _) (by omega) v.heap.size 7 7 [8, 12, 5, 16, 2, 0, 17] rfl (by omega) (by omega) (by omega) (new_ints v [8, 12, 5, 16, 2, 0, 17] _)).mono ?_
  rintro e w1 ⟨x, m, rfl, hx, hw1⟩
  have hr1 : Rd B w1 B 1 := by rw [hw1]; exact (HRV.out.alloc _).picked m
  have hb1 : Below B w w1 := by rw [hw1]; exact (HBV.out.alloc (by omega) _).trans (picked_below (HRV.out.alloc _) m)
  clear hw1
  obtain ⟨n, rfl, hn⟩ : ∃ n : Nat, x = n ∧ n ≤ 17 := by
    simp only [List.mem_cons, List.not_mem_nil, or_false] at hx
    exact ⟨x.toNat, by omega, by omega⟩
  clear hx
  go_wp2
  go_loopw [5] (fun sv wr => ∃ (s : ByteArray) (p' : Nat), sv = .string s ∧ s.size ≤ 17 ∧ Rd B wr B p' ∧ p' ≤ s.size + 1 ∧ Below B w wr) (fun sv _ => n - strLen sv)
  case atStart => exact ⟨ByteArray.empty, 1, rfl, by simp, hr1, by simp, hb1⟩
  case round =>
    clear hr1 hb1
    obtain ⟨s, p', rfl, hs, hr, hp, hb⟩ := hrel
    have HR := Lib.hid hr
    have hgr := hr.lt
    clear hr
    by_cases hk0 : s.size < n
    · have hk1 : decide ((s.size : Int) < (n : Int)) = true := by simp; omega
      go_wp2_with fail
      refine (of_any (HR.out.alloc _) (by omega) wr.heap.size 6 6 [⟨#[111]⟩, ⟨#[111]⟩, ⟨#[111]⟩, ⟨#[120]⟩, ⟨#[116]⟩, ⟨#[111]⟩] rfl (by omega) (by omega) (by omega) (new_strs wr [⟨#[111]⟩, ⟨#[111]⟩, ⟨#[111]⟩, ⟨#[120]⟩, ⟨#[116]⟩, ⟨#[111]⟩] _)).mono ?_
      rintro e w2 ⟨x, m, rfl, hx, hw2⟩
      have hr2 : Rd B w2 B (p' + 1) := by rw [hw2]; exact (HR.out.alloc _).picked m
      have hb2 : Below B w w2 := by rw [hw2]; exact (hb.alloc (by omega) _).trans (picked_below (HR.out.alloc _) m)
      have hx1 : x.size = 1 := by
        simp only [List.mem_cons, List.not_mem_nil, or_false] at hx
        rcases hx with rfl | rfl | rfl | rfl | rfl | rfl <;> rfl
      have hx1' : x.size ≤ 1 := by omega
      have HS := Lib.hid (app_size s x)
      have HX1 := Lib.hid hx1
      clear hw2 hx hb hx1 HR
      go_wp2
      go_roundw
      case rel => exact ⟨s ++ x, p' + 1, rfl, by rw [HS.out, HX1.out]; omega, hr2, by rw [HS.out, HX1.out]; omega, hb2⟩
      case measure => show n - (s ++ x).size < n - s.size; rw [HS.out, HX1.out]; omega
    · have hk1 : decide ((s.size : Int) < (n : Int)) = false := by simp; omega
      go_wp2_with fail
      refine (pick_any HR.out (by omega) 24 (by omega) (by omega)).mono ?_
      rintro e w2 ⟨r, m, rfl, hr24, hw2⟩
      have hr2 : Rd B w2 B (p' + 1) := by rw [hw2]; exact HR.out.picked m
      have hb2 : Below B w w2 := by rw [hw2]; exact hb.trans (picked_below HR.out m)
      have hgr2 := hr2.lt
      have HR2 := Lib.hid hr2
      clear hw2 hr2 hb HR
      cases hr0 : ((r : Int) == 0)
      all_goals
        go_wp2_with fail
        refine (one_any (HR2.out.alloc _) (by omega) w2.heap.size 7 7 [16, 30, 8, 5, 1, 31, 0] rfl (by omega) (by omega) (by omega) (new_ints w2 [16, 30, 8, 5, 1, 31, 0] _)).mono ?_
        rintro e w3 ⟨x, m3, rfl, hx, hw3⟩
        have hb3 : Below B w w3 := by rw [hw3]; exact (hb2.alloc (by omega) _).trans (picked_below (HR2.out.alloc _) m3)
        clear hw3
        go_wp2
        go_ret2
        refine ⟨_, _, rfl, ?_, by rw [HB.out]; exact hb3⟩
        first
          | omega
          | (rw [app_size]; show s.size + 1 ≤ 20; omega)
end Go.Proofs.Ytgpkopeaghobeaa
