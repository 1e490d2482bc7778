/-
  The walks of what draws divisors and bits. Conditions: where the reader lies, and the bounds that are typed.
-/
import Derived.Test.YtpneopldbeefhaaWnr
import Derived.Test.YtpneopldbeefhaaWof
namespace Go.Proofs.Ytpneopldbeefhaa
open Go.RowKit
set_option linter.unusedVariables false

theorem mem_size {xs : List ByteArray} {n : Nat} (h : xs.all (fun x => decide (x.size ≤ n)) = true) {x : ByteArray} (hx : x ∈ xs) : x.size ≤ n := by
  simpa using List.all_eq_true.1 h x hx
/-- The texts of which one is drawn. -/
def noPolys : List ByteArray := [⟨#[]⟩, ⟨#[49]⟩, ⟨#[49, 48]⟩, ⟨#[48, 49]⟩, ⟨#[49, 48, 48, 48, 48, 48, 48, 48, 48, 49]⟩, ⟨#[49, 120, 49]⟩]
def polys : List ByteArray := [⟨#[49, 48, 49, 49]⟩, ⟨#[49, 49]⟩, ⟨#[49, 49, 49]⟩, ⟨#[49, 48, 48, 49, 49]⟩, ⟨#[49, 49, 48, 49]⟩, ⟨#[49, 48, 49]⟩, ⟨#[49, 49, 48, 48, 48, 49]⟩, ⟨#[49, 48, 48, 48, 48, 48, 49, 49, 49]⟩, ⟨#[49, 49, 48, 49, 49]⟩, ⟨#[49, 49, 49, 49]⟩]

set_option maxHeartbeats 1600000 in
theorem apo_any {B : Nat} {w : World} {g p : Nat} (h : Rd B w g p) (hp : p ≤ 900000) :
    Calls Try.prog 31 #[.pointer (some ⟨g, 0, none⟩)] w
      fun e w' => ∃ (t : ByteArray) (p' : Nat), e = .returned (.string t) ∧ t.size ≤ 10 ∧ Rd B w' g p' ∧ p' ≤ p + 2 ∧ Below B w w' := by
  have hgl := h.lt
  have hBg := h.1
  go_enter Try.func31, Try.ntmps31
  go_wp2_with fail
  refine (pick_any h (by omega) 24 (by omega) (by omega)).mono ?_
  rintro e w1 ⟨r, m, rfl, hr24, hw1⟩
  have hr1 : Rd B w1 g (p + 1) := by rw [hw1]; exact h.picked m
  have hb1 : Below B w w1 := by rw [hw1]; exact picked_below h m
  have hgl1 := hr1.lt
  have HR1 := Lib.hid hr1
  clear hw1 h hr1
  cases hr0 : ((r : Int) == 0)
  · go_wp2_with fail
    refine (of_any (HR1.out.alloc _) (by omega) w1.heap.size 10 10 polys rfl (by omega) (by omega) (by omega) (new_strs w1 polys _)).mono ?_
    rintro e w2 ⟨x, m2, rfl, hx, hw2⟩
    have hr2 : Rd B w2 g (p + 1 + 1) := by rw [hw2]; exact (HR1.out.alloc _).picked m2
    have hb2 : Below B w w2 := by rw [hw2]; exact (hb1.alloc (by omega) _).trans (picked_below (HR1.out.alloc _) m2)
    have hxl := mem_size (n := 10) (by decide +kernel) hx
    clear hw2 hx
    go_wp2
    go_ret
    exact ⟨x, p + 1 + 1, rfl, hxl, hr2, by omega, hb2⟩
  · go_wp2_with fail
    refine (of_any (HR1.out.alloc _) (by omega) w1.heap.size 6 6 noPolys rfl (by omega) (by omega) (by omega) (new_strs w1 noPolys _)).mono ?_
    rintro e w2 ⟨x, m2, rfl, hx, hw2⟩
    have hr2 : Rd B w2 g (p + 1 + 1) := by rw [hw2]; exact (HR1.out.alloc _).picked m2
    have hb2 : Below B w w2 := by rw [hw2]; exact (hb1.alloc (by omega) _).trans (picked_below (HR1.out.alloc _) m2)
    have hxl := mem_size (n := 10) (by decide +kernel) hx
    clear hw2 hx
    go_wp2
    go_ret
    exact ⟨x, p + 1 + 1, rfl, hxl, hr2, by omega, hb2⟩

end Go.Proofs.Ytpneopldbeefhaa
