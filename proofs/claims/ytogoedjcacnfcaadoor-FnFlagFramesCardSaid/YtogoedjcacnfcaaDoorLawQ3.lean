/-
  The walk of the law FnFlagFrames: it returns true at every code. Conditions: the code is a list that can be, and a variable of the library's own holds a number.
-/
import Derived.Test.YtogoedjcacnfcaaDoorLawQ2
import Derived.Test.YtogoedjcacnfcaaDoorWsfd
namespace Go.Proofs.YtogoedjcacnfcaaDoor
open Go.RowKit
set_option linter.unusedVariables false

theorem fr_size {xs : List ByteArray} (h : ∀ x ∈ xs, Fr x) : ∀ j, j < xs.length → (xs.getD j ByteArray.empty).size ≤ 1048576 :=
  getD_60 (fun x hx => (h x hx).1)

set_option maxHeartbeats 3200000 in
theorem fnFlagFrames_walk (a : Option Addr) (len cap : Nat) (zs : List Int) (w : World) (h : IsRow .u8 w a len cap zs) (hm : Lax w) :
    Calls Tryd.prog 4 #[.slice a len cap] w fun e w' => e = .returned (.bool true) ∧ Below w.heap.size w w' := by
  have h0 := hm.lt
  by_cases hg : (1048576 : Int) < (len : Int)
  · go_enter Tryd.func4, Tryd.ntmps4
    go_wp2_with fail
    go_ret
    exact ⟨rfl, Below.refl _ _⟩
  · have H := Lib.hid (dfl_any w a len cap zs h)
    have HM := Lib.hid hm
    clear h hm
    go_enter Tryd.func4, Tryd.ntmps4
    go_wp2_with fail
    refine H.out.mono ?_
    rintro e w1 ⟨u, xs, rfl, hu, hl, ⟨A, c, rfl⟩, hn, hx, hb1⟩
    have HI := Lib.hid (iFF_any w1 _ xs hu (by omega) (fr_size hx))
    have HS := Lib.hid (fun W (h : Rss W (.slice A xs.length c) xs) => sFF_any W _ xs h (by omega) (fr_size hx))
    have hsz : (ByteArray.mk (flagR xs).toArray).size ≤ 300 := by rw [mk_size]; exact flagR_len xs
    have hfnd := fun hne => flag_found hx hne
    have HU1 := Lib.hid hu
    have HL1 := Lib.hid hl
    have HB1 := Lib.hid hb1
    clear H hu hl hx hb1
    have hemp : (ByteArray.mk (flagR xs).toArray).toList.isEmpty = true ∨ ((ByteArray.mk (flagR xs).toArray).toList.isEmpty = false ∧ flagR xs ≠ []) := by
      rw [ByteArray.toList_eq]
      show (flagR xs).isEmpty = true ∨ ((flagR xs).isEmpty = false ∧ flagR xs ≠ [])
      cases flagR xs with
      | nil => exact .inl rfl
      | cons y t => exact .inr ⟨rfl, by simp⟩
    rcases hemp with hE | ⟨hE, hne⟩
    · clear hfnd
      generalize ByteArray.mk (flagR xs).toArray = F at *
      go_wp2_with fail
      refine HI.out.mono ?_
      rintro e w2 ⟨rfl, hb2⟩
      have HU2 := Lib.hid (HU1.out.below hb2 HL1.out)
      have HB2 := Lib.hid (HB1.out.trans (hb2.mono HB1.out.size))
      clear hb2 HI
      go_wp2_with (go_at_call 13; refine (HS.out _ HU2.out).mono ?_; rintro e w' ⟨rfl, rfl⟩)
      go_ret
      exact ⟨rfl, HB2.out⟩
    · obtain ⟨hf1, hf2⟩ := hfnd hne
      have HF1 := Lib.hid (fun W h => iFN_any ⟨(flagR xs).toArray⟩ W (by unfold maxLen; omega) h)
      have HF2 := Lib.hid (fun W h => iFN_any (ByteArray.mk (flagR xs).toArray ++ ByteArray.mk (flagR xs).toArray) W (by rw [ByteArray.size_append]; unfold maxLen; omega) h)
      rw [hf1] at HF1
      generalize FF (ByteArray.mk (flagR xs).toArray ++ ByteArray.mk (flagR xs).toArray) = Y at *
      clear hfnd hne hf1
      generalize ByteArray.mk (flagR xs).toArray = F at *
      have HY := Lib.hid hf2
      clear hf2
      go_wp2_with fail
      refine HI.out.mono ?_
      rintro e w2 ⟨rfl, hb2⟩
      have HU2 := Lib.hid (HU1.out.below hb2 HL1.out)
      have HB2 := Lib.hid (HB1.out.trans (hb2.mono HB1.out.size))
      have hz2 := hb2.size
      clear hb2 HI
      go_wp2_with (go_at_call 13; refine (HS.out _ HU2.out).mono ?_; rintro e w' ⟨rfl, rfl⟩)
      refine (HF1.out _ (HM.out.below HB2.out h0)).mono ?_
      rintro e w3 ⟨g, rfl, hg3, hb3⟩
      have HG3 := Lib.hid (rss_own hg3)
      have HU3 := Lib.hid (HU2.out.below hb3 (HL1.out.mono hz2))
      have HB3 := Lib.hid (HB2.out.trans (hb3.mono HB2.out.size))
      clear hg3 hb3
      go_wp2_with fail
      refine (eqT_same _ _ _ xs HG3.out HU3.out (by omega)).mono ?_
      rintro e w4 ⟨rfl, m4, hw4⟩
      have HB4 : Hid (Below w.heap.size w w4) := Lib.hid (by rw [hw4]; exact below_drewN HB3.out m4)
      clear hw4
      have hY2 : Y.length ≤ 10 := by have := HY.out; omega
      have q1 : ((Y.length : Int) == 2 * (xs.length : Int)) = true := beq_iff_eq.2 (by have := HY.out; omega)
      go_wp2_with fail
      refine (HF2.out _ (HM.out.below HB4.out h0)).mono ?_
      rintro e w5 ⟨v, rfl, hv, hb5⟩
      obtain ⟨A5, c5, rfl⟩ := own_form1 hv
      have HB5 := Lib.hid (HB4.out.trans (hb5.mono HB4.out.size))
      clear hv hb5
      go_wp2
      go_ret
      exact ⟨rfl, HB5.out⟩
end Go.Proofs.YtogoedjcacnfcaaDoor
