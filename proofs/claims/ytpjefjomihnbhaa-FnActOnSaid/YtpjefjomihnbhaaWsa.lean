/-
  The walk of what draws acts. Conditions: where the reader lies, and the bounds that are typed.
-/
import Derived.Test.YtpjefjomihnbhaaWnr
import Derived.Test.YtpjefjomihnbhaaWof
import Derived.OpenShut
namespace Go.Proofs.Ytpjefjomihnbhaa
open Go.RowKit
set_option linter.unusedVariables false

/-- The texts of which acts are drawn. -/
def actsL : List ByteArray := [⟨#[115]⟩, ⟨#[100]⟩, ⟨#[97]⟩, ⟨#[115, 100]⟩, ⟨#[115, 100, 97]⟩, ⟨#[48, 100]⟩, ⟨#[49, 100]⟩, ⟨#[120]⟩, ⟨#[121]⟩, ⟨#[115, 120]⟩, ⟨#[115]⟩, ⟨#[100]⟩, ⟨#[122]⟩]
theorem acts_size {x : ByteArray} (hx : x ∈ actsL) : x.size ≤ 3 := by
  have h : actsL.all (fun x => decide (x.size ≤ 3)) = true := by decide +kernel
  simpa using List.all_eq_true.1 h x hx

/-- What lay there stays, but the reader. -/
structure Keeps (g : Nat) (w w' : World) : Prop where
  z : w.heap.size ≤ w'.heap.size
  k : ∀ k, k < w.heap.size → k ≠ g → w'.heap[k]? = w.heap[k]?
theorem Keeps.refl (g : Nat) (w : World) : Keeps g w w := ⟨Nat.le_refl _, fun _ _ _ => rfl⟩
theorem Keeps.alloc {g : Nat} {w w' : World} (h : Keeps g w w') (o : Obj) : Keeps g w (w'.alloc o) :=
  ⟨by have := h.z; simp; omega, fun k hk hg => (Below.heap_alloc w' o k (by have := h.z; omega)).trans (h.k k hk hg)⟩
theorem Keeps.picked {g p m : Nat} {w w' : World} (h : Keeps g w w') : Keeps g w (picked w' g p m) :=
  ⟨by rw [picked_size]; exact h.z, fun k hk hg => (picked_other w' g p m k hg).trans (h.k k hk hg)⟩

set_option maxHeartbeats 1600000 in
theorem sa_any {B : Nat} {w : World} {g p : Nat} (h : Rd B w g p) (hp : p ≤ 900000) :
    Calls Try.prog 12 #[.pointer (some ⟨g, 0, none⟩)] w
      fun e w' => ∃ (t : ByteArray) (p' : Nat), e = .returned (.string t) ∧ t.size ≤ 90 ∧ Rd B w' g p' ∧ p' ≤ p + 31 ∧ Below B w w' ∧ Keeps g w w' := by
  have hgl := h.lt
  have hBg := h.1
  go_enter Try.func12, Try.ntmps12
  go_wp2_with fail
  refine (one_any (h.alloc _) (by omega) w.heap.size 7 7 [8, 12, 20, 5, 2, 0, 30] rfl (by omega) (by omega) (by omega) (new_ints w [8, 12, 20, 5, 2, 0, 30] _)).mono ?_
  rintro e w1 ⟨x, m, rfl, hx, hw1⟩
  have hr1 : Rd B w1 g (p + 1) := by rw [hw1]; exact (h.alloc _).picked m
  have hb1 : Below B w w1 := by rw [hw1]; exact ((Below.refl B w).alloc (by omega) _).trans (picked_below (h.alloc _) m)
  have hk1 : Keeps g w w1 := by rw [hw1]; exact ((Keeps.refl g w).alloc _).picked
  clear hw1
  obtain ⟨k, rfl, hk⟩ : ∃ k : Nat, x = k ∧ k ≤ 30 := by
    simp only [List.mem_cons, List.not_mem_nil, or_false] at hx
    exact ⟨x.toNat, by omega, by omega⟩
  clear hx
  go_wp2
  go_loopw [3, 4] (fun sv nv wr => ∃ (t : ByteArray) (k p' : Nat), sv = .string t ∧ nv = .int .i64 k ∧ t.size + 3 * k ≤ 90 ∧ Rd B wr g p' ∧ p' + k ≤ p + 31 ∧ Below B w wr ∧ Keeps g w wr) (fun _ nv _ => (intOf nv).toNat)
  case atStart => exact ⟨ByteArray.empty, k, p + 1, rfl, rfl, by simp; omega, hr1, by omega, hb1, hk1⟩
  case round =>
    clear hr1 hb1 hk1
    obtain ⟨t, k, p', rfl, rfl, hsz, hr, hpk, hb, hkp⟩ := hrel
    have hgl2 := hr.lt
    have HR := Lib.hid hr
    have HKP := Lib.hid hkp
    clear hr hkp
    by_cases hk0 : 0 < k
    · have hk1 : decide ((0 : Int) < (k : Int)) = true := by simp; omega
      go_wp2_with fail
      refine (of_any (HR.out.alloc _) (by omega) wr.heap.size 13 13 actsL rfl (by omega) (by omega) (by omega) (new_strs wr actsL _)).mono ?_
      rintro e w2 ⟨x, m, rfl, hx, hw2⟩
      have hr2 : Rd B w2 g (p' + 1) := by rw [hw2]; exact (HR.out.alloc _).picked m
      have hb2 : Below B w w2 := by rw [hw2]; exact (hb.alloc (by omega) _).trans (picked_below (HR.out.alloc _) m)
      have hk2 : Keeps g w w2 := by rw [hw2]; exact (HKP.out.alloc _).picked
      have hxs := acts_size hx
      clear hw2 hx hb
      go_wp2
      go_roundw
      case rel => exact ⟨t ++ x, k - 1, p' + 1, rfl, by go_num, by rw [ByteArray.size_append]; omega, hr2, by omega, hb2, hk2⟩
      case measure => simp [intOf]; omega
    · have hk1 : ¬ (0 : Int) < (k : Int) := by omega
      go_wp2
      go_ret
      exact ⟨t, rfl, by omega, p', HR.out, by omega, hb, HKP.out⟩
end Go.Proofs.Ytpjefjomihnbhaa
