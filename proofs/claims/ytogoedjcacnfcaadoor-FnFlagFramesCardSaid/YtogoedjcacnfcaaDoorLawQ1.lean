/-
  The walk of the law FnExactFindFrames: it returns true at every text. Conditions: the text is one that can be, and a variable of the library's own holds a number.
-/
import Derived.Test.YtogoedjcacnfcaaDoorWfq
import Derived.Test.YtogoedjcacnfcaaDoorWmkt
namespace Go.Proofs.YtogoedjcacnfcaaDoor
open Go.RowKit
set_option linter.unusedVariables false

theorem FF_len2 (s : ByteArray) : (FF s).length ≤ 302 := by
  unfold FF
  by_cases h : bitsB 300 s.data.toList = true
  · rw [if_pos h]
    have h1 := FF_len s
    have h2 : s.size ≤ 300 := by
      simp only [bitsB, Bool.and_eq_true, decide_eq_true_eq] at h
      have e : s.data.toList.length = s.size := Array.length_toList
      omega
    omega
  · rw [if_neg h]; simp

set_option maxHeartbeats 1600000 in
theorem fnExactFindFrames_walk (s : ByteArray) (w : World) (hs : s.size ≤ maxLen) (hm : Lax w) :
    Calls Tryd.prog 3 #[.string s] w fun e w' => e = .returned (.bool true) ∧ Below w.heap.size w w' := by
  have h0 := hm.lt
  by_cases hg : (1048576 : Int) < (s.size : Int)
  · unfold maxLen at hs
    go_enter Tryd.func3, Tryd.ntmps3
    go_wp2_with fail
    go_ret
    exact ⟨rfl, Below.refl _ _⟩
  · have HS := Lib.hid (sFN_any s w hs)
    have HI := Lib.hid (fun W h => iFN_any s W hs h)
    have hlen := FF_len2 s
    have HM := Lib.hid hm
    unfold maxLen at hs
    clear hm
    generalize FF s = X at *
    go_enter Tryd.func3, Tryd.ntmps3
    go_wp2_with fail
    refine HS.out.mono ?_
    rintro e w1 ⟨u, rfl, hu, hb1⟩
    have HB1 := Lib.hid hb1
    have HU1 := Lib.hid (rss_own hu)
    have HLU := Lib.hid (lies_own hu)
    have HM1 := Lib.hid (HM.out.below hb1 h0)
    clear hu hb1
    go_wp2_with fail
    refine (HI.out _ HM1.out).mono ?_
    rintro e w2 ⟨g, rfl, hg2, hb2⟩
    have HG2 := Lib.hid hg2
    have HU2 := Lib.hid (HU1.out.below hb2 HLU.out)
    have HB2 := Lib.hid (HB1.out.trans (hb2.mono HB1.out.size))
    have hz2 := hb2.size
    clear hg2 hb2
    go_wp2_with fail
    refine (eqS_same _ _ _ X (rss_own HG2.out) HU2.out (by omega)).mono ?_
    rintro e w3 ⟨rfl, m3, hw3⟩
    have HG3 : Hid (OwnT w3 w1.heap.size g X) := Lib.hid (by rw [hw3]; exact HG2.out)
    have HU3 : Hid (Rss w3 u X) := Lib.hid (by rw [hw3]; exact HU2.out.drewN m3)
    have HB3 : Hid (Below w.heap.size w w3) := Lib.hid (by rw [hw3]; exact below_drewN HB2.out m3)
    have hz3 : w1.heap.size ≤ w3.heap.size := by rw [hw3]; exact hz2
    clear hw3
    go_wp2_with fail
    refine (markS_any _ _ _ X (by omega) hz3 HG3.out).mono ?_
    rintro e w4 ⟨rfl, hm4, hb4⟩
    have HG4 := Lib.hid hm4
    have HU4 := Lib.hid (HU3.out.below hb4 HLU.out)
    have HB4 := Lib.hid (HB3.out.trans (hb4.mono HB1.out.size))
    have hz4 := hb4.size
    clear hm4 hb4
    go_wp2_with fail
    refine (heldS_any _ _ X.length (by omega) (rss_own HG4.out)).mono ?_
    rintro e w5 ⟨rfl, hb5⟩
    have HG5 : Hid (OwnT w5 w1.heap.size g (mkS X.length)) := Lib.hid (own_belowS HG4.out hb5 (fun q hq => (World.ownsRow.lt HG4.out q hq).2))
    have HU5 := Lib.hid (HU4.out.below hb5 (HLU.out.mono (Nat.le_trans hz3 hz4)))
    have HB5 := Lib.hid (HB4.out.trans (hb5.mono HB4.out.size))
    have hz5 := hb5.size
    clear hb5
    have hd1 : decide ((1 : Int) + (X.length : Int) < 0) = false := by simp; omega
    have hd2 : ((1 : Int) + (X.length : Int) != 1 + (X.length : Int)) = false := by simp
    go_wp2_with fail
    refine (HI.out _ (HM.out.below HB5.out h0)).mono ?_
    rintro e w6 ⟨h, rfl, hh6, hb6⟩
    have HH6 := Lib.hid (rss_own hh6)
    have HG6 : Hid (OwnT w6 w1.heap.size g (mkS X.length)) := Lib.hid (own_belowS HG5.out hb6 (fun q hq => (World.ownsRow.lt HG5.out q hq).2))
    have HU6 := Lib.hid (HU5.out.below hb6 (HLU.out.mono (Nat.le_trans (Nat.le_trans hz3 hz4) hz5)))
    have HB6 := Lib.hid (HB5.out.trans (hb6.mono HB5.out.size))
    clear hh6 hb6
    go_wp2_with fail
    refine (eqS_same _ _ _ X HH6.out HU6.out (by omega)).mono ?_
    rintro e w7 ⟨rfl, m7, hw7⟩
    have HG7 : Hid (OwnT w7 w1.heap.size g (mkS X.length)) := Lib.hid (by rw [hw7]; exact HG6.out)
    have HB7 : Hid (Below w.heap.size w w7) := Lib.hid (by rw [hw7]; exact below_drewN HB6.out m7)
    clear hw7
    go_wp2_with fail
    refine (heldS_any _ _ X.length (by omega) (rss_own HG7.out)).mono ?_
    rintro e w8 ⟨rfl, hb8⟩
    go_wp2
    go_ret
    exact ⟨rfl, HB7.out.trans (hb8.mono HB7.out.size)⟩
end Go.Proofs.YtogoedjcacnfcaaDoor
