/-
  The walk of the law FnFindFrames: it returns true at every code. Conditions: the code is a list that can be, and a variable of the library's own holds a number.
-/
import Derived.Test.YtogoedjcacnfcaaDoorLawQ1
import Derived.Test.YtogoedjcacnfcaaDoorFfl
import Derived.Test.YtogoedjcacnfcaaDoorWdff
import Derived.Test.YtogoedjcacnfcaaDoorWeqt
namespace Go.Proofs.YtogoedjcacnfcaaDoor
open Go.RowKit
set_option linter.unusedVariables false

theorem rss_at {w : World} {A : Option Addr} {n c : Nat} {xs : List ByteArray} (h : Rss w (.slice A n c) xs) (h0 : 0 < xs.length) : ∃ b off, A = some ⟨b, off, none⟩ ∧ AtS w b off xs := by
  obtain ⟨A', c', e, h1⟩ := h
  cases e
  exact h1 h0
theorem bits_size {x : ByteArray} (h : bitsB 40 x.data.toList = true) : x.size ≤ 40 := by
  simp only [bitsB, Bool.and_eq_true, decide_eq_true_eq] at h
  have e : x.data.toList.length = x.size := Array.length_toList
  omega

set_option maxHeartbeats 3200000 in
theorem fnFindFrames_walk (a : Option Addr) (len cap : Nat) (zs : List Int) (w : World) (h : IsRow .u8 w a len cap zs) (hm : Lax w) :
    Calls Tryd.prog 5 #[.slice a len cap] w fun e w' => e = .returned (.bool true) ∧ Below w.heap.size w w' := by
  have h0 := hm.lt
  by_cases hg : (1048576 : Int) < (len : Int)
  · go_enter Tryd.func5, Tryd.ntmps5
    go_wp2_with fail
    go_ret
    exact ⟨rfl, Below.refl _ _⟩
  · have H := Lib.hid (dff_any w a len cap zs h)
    have HM := Lib.hid hm
    clear h hm
    go_enter Tryd.func5, Tryd.ntmps5
    go_wp2_with fail
    refine H.out.mono ?_
    rintro e w1 ⟨s, rfl, hs, hb1⟩
    have HS := Lib.hid (fun W => sFN_any s W (by unfold maxLen; omega))
    have HI := Lib.hid (fun W h => iFN_any s W (by unfold maxLen; omega) h)
    have HI2 : Hid (∀ W, Lax W → Calls Tryd.prog 7 #[.string (ByteArray.mk #[48, 49, 49, 49, 49, 49, 49, 48] ++ s)] W fun e w' => ∃ u, e = .returned u ∧ OwnT w' W.heap.size u (FF (flB ++ s)) ∧ Below W.heap.size W w') :=
      Lib.hid (fun W h => iFN_any (flB ++ s) W (by rw [ByteArray.size_append]; unfold maxLen; have : flB.size = 8 := rfl; omega) h)
    have hlen := FF_len2 s
    have HBI := Lib.hid (fun k (h : k < (FF s).length) => FF_bits h)
    have HMORE := Lib.hid (fun h hz => FF_more (s := s) h hz)
    have HB1 := Lib.hid hb1
    have HM1 := Lib.hid (HM.out.below hb1 h0)
    clear hb1 H
    have h8 : (8 + s.size) ≤ 1000 := by omega
    generalize FF (flB ++ s) = Y at *
    generalize FF s = X at *
    go_wp2_with fail
    refine (HI.out _ HM1.out).mono ?_
    rintro e w2 ⟨g, rfl, hg2, hb2⟩
    have HLG := Lib.hid (lies_own hg2)
    have HG2 := Lib.hid (rss_own hg2)
    have HB2 := Lib.hid (HB1.out.trans (hb2.mono HB1.out.size))
    obtain ⟨A, c, rfl⟩ := own_form1 hg2
    clear hg2 hb2 HI HM1
    go_wp2_with fail
    refine (HS.out _).mono ?_
    rintro e w3 ⟨u, rfl, hu, hb3⟩
    have HU3 := Lib.hid (rss_own hu)
    have HG3 := Lib.hid (HG2.out.below hb3 HLG.out)
    have HB3 := Lib.hid (HB2.out.trans (hb3.mono HB2.out.size))
    have hz3 := hb3.size
    clear hu hb3 HG2
    go_wp2_with fail
    refine (eqT_same _ _ _ X HG3.out HU3.out (by omega)).mono ?_
    rintro e w4 ⟨rfl, m4, hw4⟩
    have HG4 : Hid (Rss w4 (.slice A X.length c) X) := Lib.hid (by rw [hw4]; exact HG3.out.drewN m4)
    have HB4 : Hid (Below w.heap.size w w4) := Lib.hid (by rw [hw4]; exact below_drewN HB3.out m4)
    have hz4 : w2.heap.size ≤ w4.heap.size := by rw [hw4]; exact hz3
    clear hw4 hz3 HG3 HU3
    by_cases hX : X.length = 0
    · have q0 : ((X.length : Int) == 0) = true := beq_iff_eq.2 (by omega)
      clear hX
      go_wp2_with fail
      refine (HS.out _).mono ?_
      rintro e w5 ⟨u5, rfl, hu5, hb5⟩
      have HU5 := Lib.hid (rss_own hu5)
      have HG5 := Lib.hid (HG4.out.below hb5 (HLG.out.mono hz4))
      have HB5 := Lib.hid (HB4.out.trans (hb5.mono HB4.out.size))
      clear hu5 hb5
      go_wp2_with fail
      refine (eqT_same _ _ _ X HG5.out HU5.out (by omega)).mono ?_
      rintro e w6 ⟨rfl, m6, hw6⟩
      have HB6 : Hid (Below w.heap.size w w6) := Lib.hid (by rw [hw6]; exact below_drewN HB5.out m6)
      clear hw6
      go_wp2
      go_ret
      exact ⟨rfl, HB6.out⟩
    · have q0 : ((X.length : Int) == 0) = false := beq_eq_false_iff_ne.2 (by omega)
      have HX := Lib.hid hX
      obtain ⟨b, off, rfl, hat⟩ := rss_at HG4.out (by omega)
      have HA := Lib.hid hat
      clear hX hat HG4
      go_wp2_with fail
      go_loopw [5] (fun iv wr => ∃ k : Nat, k ≤ X.length ∧ iv = .int .i64 k ∧ Below w4.heap.size w4 wr) (fun iv _ => X.length - (intOf iv).toNat)
      case atStart => exact ⟨0, Nat.zero_le _, rfl, Below.refl _ _⟩
      case round =>
        obtain ⟨k, hk, rfl, hbel⟩ := hrel
        have HBEL := Lib.hid hbel
        by_cases hlt : k < X.length
        · have c0 := (HA.out.below hbel HA.out.1).2 k hlt
          have k0 : (0 : Int) ≤ (k : Int) := by omega
          have k1 : (k : Int) < (X.length : Int) := by omega
          have hxb := HBI.out k hlt
          have hxz := bits_size hxb
          clear hbel
          generalize X.getD k ByteArray.empty = x at *
          have hv := iVB_any x wr (by unfold maxLen; omega)
          rw [hxb] at hv
          have HV := Lib.hid hv
          clear hv hxb
          go_wp2_with (go_at_call 16; refine HV.out.mono ?_; rintro e w5 ⟨rfl, hb5⟩)
          go_roundw
          case rel => exact ⟨k + 1, by omega, by go_num, HBEL.out.trans (hb5.mono HBEL.out.size)⟩
          case measure => simp [intOf]; omega
        · have HBR := Lib.hid (HB4.out.trans (hbel.mono HB4.out.size))
          have HMR := Lib.hid (HM.out.below HBR.out h0)
          clear hbel
          go_wp2_with fail
          refine (HI2.out _ HMR.out).mono ?_
          rintro e w6 ⟨v, rfl, hv, hb6⟩
          obtain ⟨A6, c6, rfl⟩ := own_form1 hv
          have HB6 := Lib.hid (HBR.out.trans (hb6.mono HBR.out.size))
          clear hv hb6
          by_cases h300 : 300 < s.size + 8
          · have q1 : decide ((300 : Int) < (s.size : Int) + 8) = true := by simp; omega
            go_wp2
            go_ret
            exact ⟨rfl, HB6.out⟩
          · have q1 : decide ((300 : Int) < (s.size : Int) + 8) = false := by simp; omega
            have hle := HMORE.out HX.out (by omega)
            have q2 : decide ((X.length : Int) ≤ (Y.length : Int)) = true := by simp; omega
            go_wp2
            go_ret
            exact ⟨rfl, HB6.out⟩
end Go.Proofs.YtogoedjcacnfcaaDoor
