/-
  The walk of what draws a wire of frames. Conditions: where the code lies, and the bounds that are typed.
-/
import Derived.Test.YtogoedjcacnfcaaDoorWsfr
import Derived.Test.YtogoedjcacnfcaaDoorWflag
import Derived.Test.YtogoedjcacnfcaaDoorWmut
import Derived.Test.YtogoedjcacnfcaaDoorWmkt
namespace Go.Proofs.YtogoedjcacnfcaaDoor
open Go.RowKit
set_option linter.unusedVariables false

theorem flagR_len (xs : List ByteArray) : (flagR xs).length ≤ 300 := by
  unfold flagR
  by_cases h : (decide (xs.length ≤ 4) && xs.all frB) = true
  · rw [if_pos h]
    rw [Bool.and_eq_true] at h
    have h1 : xs.length ≤ 4 := by simpa using h.1
    have := flgs_len xs h.2 xs.length (Nat.le_refl _)
    omega
  · rw [if_neg h]; simp
theorem getD_60 {xs : List ByteArray} (h : ∀ x ∈ xs, x.size ≤ 60) : ∀ j, j < xs.length → (xs.getD j ByteArray.empty).size ≤ 1048576 := by
  intro j hj
  have : (xs.getD j ByteArray.empty) ∈ xs := by rw [List.getD_eq_getElem?_getD, List.getElem?_eq_getElem hj]; exact List.getElem_mem hj
  have := h _ this
  omega

set_option maxHeartbeats 1600000 in
theorem dff_any (w : World) (a : Option Addr) (len cap : Nat) (zs : List Int) (h : IsRow .u8 w a len cap zs) :
    Calls Tryd.prog 15 #[.slice a len cap] w fun e w' => ∃ t : ByteArray, e = .returned (.string t) ∧ t.size ≤ 900 ∧ Below w.heap.size w w' := by
  have H := Lib.hid (nr_any w a len cap zs h)
  clear h
  go_enter Tryd.func15, Tryd.ntmps15
  go_wp2_with fail
  refine H.out.mono ?_
  rintro e w1 ⟨rfl, hr, hb, hz⟩
  clear H hz
  go_wp2_with fail
  refine (sfr_any hr (by omega)).mono ?_
  rintro e w2 ⟨u, xs, p', rfl, ho2, hn, hxs, hr2, hp2, hb2⟩
  have HFF := Lib.hid (sFF_any w2 u xs (rss_own ho2) (by omega) (getD_60 hxs))
  have HR2 := Lib.hid hr2
  have HB2 := Lib.hid (hb.trans hb2)
  have hsz : (ByteArray.mk (flagR xs).toArray).size ≤ 300 := by rw [mk_size]; exact flagR_len xs
  clear hr hb hxs hn ho2 hr2 hb2
  generalize ByteArray.mk (flagR xs).toArray = S at *
  go_wp2_with fail
  refine HFF.out.mono ?_
  rintro e w2' ⟨rfl, rfl⟩
  clear HFF
  go_wp2_with fail
  refine (pick_any HR2.out (by omega) 4 (by omega) (by omega)).mono ?_
  rintro e w3 ⟨r, m, rfl, hr4, hw3⟩
  have HR3 : Hid (Rd w.heap.size w3 w.heap.size (p' + 1)) := Lib.hid (by rw [hw3]; exact HR2.out.picked m)
  have HB3 : Hid (Below w.heap.size w w3) := Lib.hid (by rw [hw3]; exact HB2.out.trans (picked_below HR2.out m))
  clear hw3 HR2 HB2
  cases hr0 : ((r : Int) == 0)
  · cases hr1 : ((r : Int) == 1)
    · go_wp2
      go_ret
      exact ⟨S, rfl, by omega, HB3.out⟩
    · go_wp2_with fail
      refine (sb_any HR3.out (by omega) 8 (by omega)).mono ?_
      rintro e w4 ⟨l, p4, rfl, hs4, hr4', hp4, hb4⟩
      have hl4 : (ByteArray.mk l.toArray).size ≤ 60 := by rw [mk_size]; rcases hs4 with ⟨_, h⟩ | ⟨_, h⟩ <;> omega
      have HR4 := Lib.hid hr4'
      have HB4 := Lib.hid (HB3.out.trans hb4)
      clear hs4 hr4' hb4
      generalize ByteArray.mk l.toArray = L at *
      have hsf := fun W => sfl_any W
      have hf8 : (ByteArray.mk flg.toArray).size = 8 := rfl
      generalize ByteArray.mk flg.toArray = F at *
      have HSF := Lib.hid hsf
      clear hsf
      go_wp2_with (go_at_call 17; refine (HSF.out _).mono ?_; rintro e w' ⟨rfl, rfl⟩)
      refine (sb_any HR4.out (by omega) 8 (by omega)).mono ?_
      rintro e w5 ⟨l5, p5, rfl, hs5, hr5, hp5, hb5⟩
      have hl5 : (ByteArray.mk l5.toArray).size ≤ 60 := by rw [mk_size]; rcases hs5 with ⟨_, h⟩ | ⟨_, h⟩ <;> omega
      have HB5 := Lib.hid (HB4.out.trans hb5)
      clear hs5 hr5 hb5
      generalize ByteArray.mk l5.toArray = L5 at *
      go_wp2
      go_ret
      exact ⟨_, rfl, by simp only [ByteArray.size_append]; omega, HB5.out⟩
  · go_wp2_with fail
    refine (mut_any HR3.out (by omega) S (by omega)).mono ?_
    rintro e w5 ⟨t, rfl, ht, hb5⟩
    have HB5 := Lib.hid (HB3.out.trans hb5)
    clear hb5
    go_wp2
    go_ret
    exact ⟨t, rfl, by omega, HB5.out⟩
end Go.Proofs.YtogoedjcacnfcaaDoor
