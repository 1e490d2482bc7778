/-
  The walks of what draws divisors and bits. Conditions: where the reader lies, and the bounds that are typed.
-/
import Derived.Test.YthmhjkflgokmgaaWsome
import Derived.Test.YthmhjkflgokmgaaWmut
import Derived.Test.YthmhjkflgokmgaaWsp
namespace Go.Proofs.Ythmhjkflgokmgaa
open Go.RowKit
set_option linter.unusedVariables false

theorem mem_size {xs : List ByteArray} {n : Nat} (h : xs.all (fun x => decide (x.size ≤ n)) = true) {x : ByteArray} (hx : x ∈ xs) : x.size ≤ n := by
  simpa using List.all_eq_true.1 h x hx
/-- The texts of which one is drawn. -/
def noPolys : List ByteArray := [⟨#[]⟩, ⟨#[49]⟩, ⟨#[49, 48]⟩, ⟨#[48, 49]⟩, ⟨#[49, 48, 48, 48, 48, 48, 48, 48, 48, 49]⟩, ⟨#[49, 120, 49]⟩]
def polys : List ByteArray := [⟨#[49, 48, 49, 49]⟩, ⟨#[49, 49]⟩, ⟨#[49, 49, 49]⟩, ⟨#[49, 48, 48, 49, 49]⟩, ⟨#[49, 49, 48, 49]⟩, ⟨#[49, 48, 49]⟩, ⟨#[49, 49, 48, 48, 48, 49]⟩, ⟨#[49, 48, 48, 48, 48, 48, 49, 49, 49]⟩, ⟨#[49, 49, 48, 49, 49]⟩, ⟨#[49, 49, 49, 49]⟩]

set_option maxHeartbeats 1600000 in
theorem apo_any {B : Nat} {w : World} {g p : Nat} (h : Rd B w g p) (hp : p ≤ 900000) :
    Calls Try.prog 38 #[.pointer (some ⟨g, 0, none⟩)] w
      fun e w' => ∃ (t : ByteArray) (p' : Nat), e = .returned (.string t) ∧ t.size ≤ 10 ∧ Rd B w' g p' ∧ p' ≤ p + 2 ∧ Below B w w' := by
  have hgl := h.lt
  have hBg := h.1
  go_enter Try.func38, Try.ntmps38
  go_wp2_with fail
  refine (pick_any h (by omega) 24 (by omega) (by omega)).mono ?_
  rintro e w1 ⟨r, m, rfl, hr24, hw1⟩
  have hr1 : Rd B w1 g (p + 1) := by rw [hw1]; exact h.picked m
  have hb1 : Below B w w1 := by rw [hw1]; exact picked_below h m
  have hgl1 := hr1.lt
  have HR1 := Lib.hid hr1
  clear hw1 h hr1
  cases hr0 : ((r : Int) == 0)
  · go_wp2_with fail
    refine (of_any (HR1.out.alloc _) (by omega) w1.heap.size 10 10 polys rfl (by omega) (by omega) (by omega) (new_strs w1 polys _)).mono ?_
    rintro e w2 ⟨x, m2, rfl, hx, hw2⟩
    have hr2 : Rd B w2 g (p + 1 + 1) := by rw [hw2]; exact (HR1.out.alloc _).picked m2
    have hb2 : Below B w w2 := by rw [hw2]; exact (hb1.alloc (by omega) _).trans (picked_below (HR1.out.alloc _) m2)
    have hxl := mem_size (n := 10) (by decide +kernel) hx
    clear hw2 hx
    go_wp2
    go_ret
    exact ⟨x, p + 1 + 1, rfl, hxl, hr2, by omega, hb2⟩
  · go_wp2_with fail
    refine (of_any (HR1.out.alloc _) (by omega) w1.heap.size 6 6 noPolys rfl (by omega) (by omega) (by omega) (new_strs w1 noPolys _)).mono ?_
    rintro e w2 ⟨x, m2, rfl, hx, hw2⟩
    have hr2 : Rd B w2 g (p + 1 + 1) := by rw [hw2]; exact (HR1.out.alloc _).picked m2
    have hb2 : Below B w w2 := by rw [hw2]; exact (hb1.alloc (by omega) _).trans (picked_below (HR1.out.alloc _) m2)
    have hxl := mem_size (n := 10) (by decide +kernel) hx
    clear hw2 hx
    go_wp2
    go_ret
    exact ⟨x, p + 1 + 1, rfl, hxl, hr2, by omega, hb2⟩
theorem some_le {most : Nat} {l : List UInt8} (h : Some' most l) : (ByteArray.mk l.toArray).size ≤ most + 41 := by
  rw [mk_size]; rcases h with ⟨_, h⟩ | ⟨_, h⟩ <;> omega

set_option maxHeartbeats 1600000 in
theorem dvp_any (w : World) (a : Option Addr) (len cap : Nat) (zs : List Int) (h : IsRow .u8 w a len cap zs) :
    Calls Try.prog 19 #[.slice a len cap] w fun e w' => ∃ t : ByteArray, e = .returned (.string t) ∧ t.size ≤ 60 ∧ Below w.heap.size w w' := by
  have H := Lib.hid (nr_any w a len cap zs h)
  clear h
  go_enter Try.func19, Try.ntmps19
  go_wp2_with fail
  refine H.out.mono ?_
  rintro e w1 ⟨rfl, hr, hb, hz⟩
  clear H hz
  go_wp2_with fail
  refine (pick_any hr (by omega) 2 (by omega) (by omega)).mono ?_
  rintro e w2 ⟨r, m, rfl, hr24, hw2⟩
  have hr2 : Rd w.heap.size w2 w.heap.size 1 := by rw [hw2]; exact hr.picked m
  have hb2 : Below w.heap.size w w2 := by rw [hw2]; exact hb.trans (picked_below hr m)
  have HR2 := Lib.hid hr2
  clear hw2 hr hr2 hb
  cases hr0 : ((r : Int) == 0)
  · go_wp2_with fail
    refine (apo_any HR2.out (by omega)).mono ?_
    rintro e w3 ⟨t, p', rfl, ht, _, _, hb3⟩
    go_wp2
    go_ret
    exact ⟨t, rfl, by omega, hb2.trans hb3⟩
  · go_wp2_with fail
    refine (sb_any HR2.out (by omega) 10 (by omega)).mono ?_
    rintro e w3 ⟨l, p', rfl, hs, _, _, hb3⟩
    have hl := some_le hs
    go_wp2
    go_ret
    exact ⟨_, rfl, by omega, hb2.trans hb3⟩

set_option maxHeartbeats 1600000 in
theorem dro_any (w : World) (a : Option Addr) (len cap : Nat) (zs : List Int) (h : IsRow .u8 w a len cap zs) :
    Calls Try.prog 20 #[.slice a len cap] w fun e w' => ∃ p t : ByteArray, e = .returned (.tuple #[.string p, .string t]) ∧ p.size ≤ 10 ∧ t.size ≤ 900 ∧ Below w.heap.size w w' := by
  have H := Lib.hid (nr_any w a len cap zs h)
  clear h
  go_enter Try.func20, Try.ntmps20
  go_wp2_with fail
  refine H.out.mono ?_
  rintro e w1 ⟨rfl, hr, hb, hz⟩
  clear H hz
  go_wp2_with fail
  refine (apo_any hr (by omega)).mono ?_
  rintro e w2 ⟨t, p', rfl, ht, hr2, hp2, hb2⟩
  have hbb := hb.trans hb2
  clear hb hb2 hr
  go_wp2_with fail
  refine (sb_any hr2 (by omega) 24 (by omega)).mono ?_
  rintro e w3 ⟨l, p3, rfl, hs, _, _, hb3⟩
  have hl := some_le hs
  go_wp2
  go_ret2
  exact ⟨t, _, rfl, ht, by omega, hbb.trans hb3⟩
set_option maxHeartbeats 400000 in
theorem dse_any (w : World) (a : Option Addr) (len cap : Nat) (zs : List Int) (h : IsRow .u8 w a len cap zs) :
    Calls Try.prog 21 #[.slice a len cap] w fun e w' => ∃ p t : ByteArray, e = .returned (.tuple #[.string p, .string t]) ∧ p.size ≤ 10 ∧ t.size ≤ 900 ∧ Below w.heap.size w w' := by
  have H := Lib.hid (dro_any w a len cap zs h)
  clear h
  go_enter Try.func21, Try.ntmps21
  go_wp2_with fail
  refine H.out.mono ?_
  rintro e w1 ⟨p, t, rfl, hp, ht, hb⟩
  go_wp2
  go_ret2
  exact ⟨p, t, rfl, hp, ht, hb⟩

set_option maxHeartbeats 1600000 in
theorem dis_any (w : World) (a : Option Addr) (len cap : Nat) (zs : List Int) (h : IsRow .u8 w a len cap zs) :
    Calls Try.prog 23 #[.slice a len cap] w fun e w' => ∃ p t : ByteArray, e = .returned (.tuple #[.string p, .string t]) ∧ p.size ≤ 10 ∧ t.size ≤ 900 ∧ Below w.heap.size w w' := by
  have H := Lib.hid (nr_any w a len cap zs h)
  clear h
  go_enter Try.func23, Try.ntmps23
  go_wp2_with fail
  refine H.out.mono ?_
  rintro e w1 ⟨rfl, hr, hb, hz⟩
  clear H hz
  go_wp2_with fail
  refine (apo_any hr (by omega)).mono ?_
  rintro e w2 ⟨t, p', rfl, ht, hr2, hp2, hb2⟩
  have hbb := hb.trans hb2
  clear hb hb2 hr
  go_wp2_with fail
  refine (sb_any hr2 (by omega) 20 (by omega)).mono ?_
  rintro e w3 ⟨l, p3, rfl, hs, hr3, hp3, hb3⟩
  have hl := some_le hs
  have hbb3 := hbb.trans hb3
  generalize ByteArray.mk l.toArray = S at *
  clear hs hbb hb3 hr2
  go_wp2_with fail
  refine (pick_any hr3 (by omega) 4 (by omega) (by omega)).mono ?_
  rintro e w4 ⟨r, m, rfl, hr4, hw4⟩
  have hr5 : Rd w.heap.size w4 w.heap.size (p3 + 1) := by rw [hw4]; exact hr3.picked m
  have hb4 : Below w.heap.size w w4 := by rw [hw4]; exact hbb3.trans (picked_below hr3 m)
  clear hw4 hr3 hbb3
  have key : ∀ (S : ByteArray) (W : World) (q : Nat), S.size ≤ 100 → q ≤ 1000 → Rd w.heap.size W w.heap.size q → Below w.heap.size w W → True := fun _ _ _ _ _ _ _ => trivial
  clear key
  by_cases hr0 : (0 : Int) < (r : Int)
  · have hsl : (sealR t.data.toList S.data.toList).length ≤ 100 := by
      unfold sealR
      split
      · rename_i hh
        rw [List.length_append]
        obtain ⟨Q, e, h1, h2, _⟩ := polyB_of hh.1
        have hpl : 1 ≤ t.data.toList.length := by rw [e, txt_len]; simp
        have := remU_len t.data.toList (S.data.toList ++ List.replicate (t.data.toList.length - 1) 48) hpl
        rw [this]
        have e1 : t.data.toList.length = t.size := by simp
        have e2 : S.data.toList.length = S.size := by simp
        omega
      · simp
    have hSS : (ByteArray.mk (sealR t.data.toList S.data.toList).toArray).size ≤ 100 := by rw [mk_size]; exact hsl
    have hse := sSE_any t S w4 (by omega) (by omega)
    generalize ByteArray.mk (sealR t.data.toList S.data.toList).toArray = S2 at *
    have HSE := Lib.hid hse
    have HR5 := Lib.hid hr5
    clear hse hsl hr5
    go_wp2_with fail
    refine HSE.out.mono ?_
    rintro e w5 ⟨rfl, m5, rfl⟩
    have hr6 : Rd w.heap.size (w4.drewN m5) w.heap.size (p3 + 1) := HR5.out
    have hb6 : Below w.heap.size w (w4.drewN m5) := below_drewN hb4 m5
    generalize w4.drewN m5 = w6 at *
    go_wp2_with fail
    refine (pick_any hr6 (by omega) 4 (by omega) (by omega)).mono ?_
    rintro e w7 ⟨r2, m7, rfl, hr42, hw7⟩
    have hr7 : Rd w.heap.size w7 w.heap.size (p3 + 1 + 1) := by rw [hw7]; exact hr6.picked m7
    have hb7 : Below w.heap.size w w7 := by rw [hw7]; exact hb6.trans (picked_below hr6 m7)
    have HR7 := Lib.hid hr7
    clear hw7 hr6 hb6 hb4 hr7 HR5
    cases hr20 : ((r2 : Int) == 0)
    · go_wp2
      go_ret2
      exact ⟨_, _, rfl, ht, by omega, hb7⟩
    · go_wp2_with fail
      refine (mut_any HR7.out (by omega) _ (by omega)).mono ?_
      rintro e w8 ⟨t8, rfl, ht8, hb8⟩
      go_wp2
      go_ret2
      exact ⟨_, _, rfl, ht, by omega, hb7.trans hb8⟩
  · have HR5 := Lib.hid hr5
    clear hr5
    go_wp2_with fail
    refine (pick_any HR5.out (by omega) 4 (by omega) (by omega)).mono ?_
    rintro e w7 ⟨r2, m7, rfl, hr42, hw7⟩
    have hr7 : Rd w.heap.size w7 w.heap.size (p3 + 1 + 1) := by rw [hw7]; exact HR5.out.picked m7
    have hb7 : Below w.heap.size w w7 := by rw [hw7]; exact hb4.trans (picked_below HR5.out m7)
    have HR7 := Lib.hid hr7
    clear hw7 hb4 hr7 HR5
    cases hr20 : ((r2 : Int) == 0)
    · go_wp2
      go_ret2
      exact ⟨_, _, rfl, ht, by omega, hb7⟩
    · go_wp2_with fail
      refine (mut_any HR7.out (by omega) _ (by omega)).mono ?_
      rintro e w8 ⟨t8, rfl, ht8, hb8⟩
      go_wp2
      go_ret2
      exact ⟨_, _, rfl, ht, by omega, hb7.trans hb8⟩
end Go.Proofs.Ythmhjkflgokmgaa
