/-
  The walk of the law FnJoinPieces: it returns true at every code. No condition but that the code is a list that can be.
-/
import Derived.Test.YtpkajiflbejajaaWdp
import Derived.Test.YtpkajiflbejajaaWho
import Derived.Test.YtpkajiflbejajaaWep
import Derived.Test.YtpkajiflbejajaaJpm
namespace Go.Proofs.Ytpkajiflbejajaa
open Go.RowKit
set_option linter.unusedVariables false

set_option maxHeartbeats 3200000 in
theorem fnJoinPieces_walk (a : Option Addr) (len cap : Nat) (zs : List Int) (w : World) (h : IsRow .u8 w a len cap zs) :
    Calls Try.prog 4 #[.slice a len cap] w fun e w' => e = .returned (.bool true) ∧ Below w.heap.size w w' := by
  by_cases hg : (1048576 : Int) < (len : Int)
  · go_enter Try.func4, Try.ntmps4
    go_wp2_with fail
    go_ret
    exact ⟨rfl, Below.refl _ _⟩
  · have H := Lib.hid (dJP_any w a len cap zs h)
    clear h
    go_enter Try.func4, Try.ntmps4
    go_wp2_with fail
    refine H.out.mono ?_
    rintro e w1 ⟨u, l, B, rfl, ho, hl, hb1⟩
    have HU := Lib.hid (PRds.of_own ho)
    have HB1 := Lib.hid hb1
    obtain ⟨A, c, rfl⟩ := own_form3 ho
    clear H ho hb1
    have HI := Lib.hid (fun W v ps h hn => iJP_any W v ps h hn)
    have HS := Lib.hid (fun W v ps h hn => sJP_any W v ps h hn)
    have HH := Lib.hid (fun W v ps L h hn => iHO_any W v ps L h hn)
    have HQ := Lib.hid (fun W v u ps h h2 hn => eqL_same W v u ps h h2 hn)
    go_wp2_with fail
    refine (HI.out _ _ l HU.out (by omega)).mono ?_
    rintro e w2 ⟨g, R, rfl, hjp, hg2, hb2⟩
    have HJ := Lib.hid hjp
    have HG2 := Lib.hid (PRds.of_own hg2)
    have HU2 := Lib.hid (HU.out.more hb2)
    have HB2 := Lib.hid (HB1.out.trans (hb2.mono HB1.out.size))
    obtain ⟨A2, c2, rfl⟩ := own_form3 hg2
    clear hjp hg2 hb2 HU
    go_wp2_with fail
    refine (HS.out _ _ l HU2.out (by omega)).mono ?_
    rintro e w3 ⟨s, R', rfl, hjp, hs3, hb3⟩
    obtain rfl := HJ.out.uniq hjp
    have HS3 := Lib.hid (PRds.of_own hs3)
    have HG3 := Lib.hid (HG2.out.more hb3)
    have HU3 := Lib.hid (HU2.out.more hb3)
    have HB3 := Lib.hid (HB2.out.trans (hb3.mono HB2.out.size))
    clear hjp hs3 hb3
    have hR : R.length ≤ 20 := by
      cases hok : okE l
      · rw [HJ.out.2 hok]; simp
      · have h1 := (HJ.out.again hok).2.2.2.1
        have h2 := (okE_valid hok).2.1
        omega
    go_wp2_with fail
    refine (HQ.out _ _ _ R HG3.out HS3.out (by omega)).mono ?_
    rintro e w4 ⟨rfl, m4, rfl⟩
    by_cases h0 : R.length = 0
    · have q0 : ((R.length : Int) == 0) = true := beq_iff_eq.2 (by omega)
      clear h0
      go_wp2_with fail
      refine (HS.out _ _ l (HU3.out.drewN m4) (by omega)).mono ?_
      rintro e w5 ⟨s5, R', rfl, hjp, hs5, hb5⟩
      obtain rfl := HJ.out.uniq hjp
      have HS5 := Lib.hid (PRds.of_own hs5)
      have HG5 := Lib.hid ((HG3.out.drewN m4).more hb5)
      have HB5 := Lib.hid ((below_drewN HB3.out m4).trans (hb5.mono HB3.out.size))
      clear hjp hs5 hb5
      go_wp2_with fail
      refine (HQ.out _ _ _ R HG5.out HS5.out (by omega)).mono ?_
      rintro e w6 ⟨rfl, m6, rfl⟩
      go_wp2
      go_ret
      exact ⟨rfl, below_drewN HB5.out m6⟩
    · have q0 : ((R.length : Int) == 0) = false := beq_eq_false_iff_ne.2 (by omega)
      have hok : okE l = true := by
        cases hok : okE l
        · have := HJ.out.2 hok
          rw [this] at h0; simp at h0
        · rfl
      have HAG := Lib.hid (HJ.out.again hok)
      have HNM := Lib.hid HAG.out.2.2.2.2.2.2.2
      have HBD := Lib.hid HAG.out.2.2.2.2.2.2.1
      have hlen := HAG.out.2.2.2.1
      have HG4 := Lib.hid (HG3.out.drewN m4)
      have HU4 := Lib.hid (HU3.out.drewN m4)
      have HB4 := Lib.hid (below_drewN HB3.out m4)
      generalize hw4 : w3.drewN m4 = w4 at *
      clear hw4 HG3 HU3 HB3 HS3 HU2 HG2 HB2 HB1 hok
      obtain ⟨A', c', hv', h1'⟩ := HG4.out
      obtain ⟨b, off, hA, hat⟩ := h1' (by omega)
      simp only [Value.slice.injEq] at hv'
      obtain ⟨rfl, hx0, rfl⟩ := hv'
      subst hA
      have HAT := Lib.hid hat
      clear h1' hat hx0
      go_wp2
      go_loopw [5] (fun iv wr => ∃ k m : Nat, k ≤ R.length ∧ iv = .int .i64 k ∧ wr = w4.drewN m) (fun iv _ => R.length - (intOf iv).toNat)
      case atStart => exact ⟨0, 0, Nat.zero_le _, rfl, rfl⟩
      case round =>
        obtain ⟨k, m, hk, rfl, rfl⟩ := hrel
        by_cases hlt : k + 1 < R.length
        · have hd : decide ((k : Int) + 1 < (R.length : Int)) = true := by simp; omega
          obtain ⟨c0, c1, c2⟩ := HAT.out.2 k (by omega)
          obtain ⟨e0, e1, e2⟩ := HAT.out.2 (k + 1) (by omega)
          have hnm := HNM.out.at_ k hlt
          have hm1 : R.getD k d0 ∈ R := by rw [List.getD_eq_getElem?_getD, List.getElem?_eq_getElem (by omega : k < R.length)]; exact List.getElem_mem _
          have hb1 := HBD.out _ hm1
          generalize R.getD k d0 = q at *
          generalize R.getD (k + 1) d0 = q2 at *
          obtain ⟨x, y, z⟩ := q
          obtain ⟨x2, y2, z2⟩ := q2
          simp only [Pc.e] at c0 c1 c2 e0 e1 e2 hnm hb1
          have ew := pwrap (x + y) (by omega)
          have k0 : (0 : Int) ≤ (k : Int) := by omega
          have k1 : (k : Int) < (R.length : Int) := by omega
          have k2 : (0 : Int) ≤ (k : Int) + 1 := by omega
          have k3 : (k : Int) + 1 < (R.length : Int) := by omega
          have k4 : ((k : Int) + 1).toNat = k + 1 := by omega
          have q3 : decide (x2 ≤ x + y) = false := by simp; omega
          clear hm1
          go_wp2
          go_quiet (fail)
          go_wp2
          go_roundw
          case rel => exact ⟨k + 1, m + nq, by omega, by go_num, by first | rfl | rw [World.drewN_drewN]⟩
          case measure => simp [intOf]; omega
        · have hd : decide ((k : Int) + 1 < (R.length : Int)) = false := by simp; omega
          have qlen : decide ((R.length : Int) ≤ (l.length : Int)) = true := by simp; omega
          have HG5 := Lib.hid (HG4.out.drewN m)
          have HU5 := Lib.hid (HU4.out.drewN m)
          have HB5 := Lib.hid (below_drewN HB4.out m)
          generalize w4.drewN m = w5 at *
          have hk1 : (k : Int) ≤ 20 := by omega
          have hk2 : (0 : Int) ≤ (k : Int) := by omega
          clear HG4 HU4 HB4 h0 hlt hk
          go_wp2_with fail
          refine (HI.out _ _ R HG5.out (by omega)).mono ?_
          rintro e w6 ⟨g6, R', rfl, hjp, hg6, hb6⟩
          obtain rfl := HAG.out.1.uniq hjp
          have HX6 := Lib.hid (PRds.of_own hg6)
          have HG6 := Lib.hid (HG5.out.more hb6)
          have HU6 := Lib.hid (HU5.out.more hb6)
          have HB6 := Lib.hid (HB5.out.trans (hb6.mono HB5.out.size))
          clear hjp hg6 hb6
          go_wp2_with fail
          refine (HQ.out _ _ _ R HX6.out HG6.out (by omega)).mono ?_
          rintro e w7 ⟨rfl, m7, hw7⟩
          have HG7 : Hid (PRds w7 _ R) := Lib.hid (by rw [hw7]; exact HG6.out.drewN m7)
          have HU7 : Hid (PRds w7 _ l) := Lib.hid (by rw [hw7]; exact HU6.out.drewN m7)
          have HB7 : Hid (Below w.heap.size w w7) := Lib.hid (by rw [hw7]; exact below_drewN HB6.out m7)
          clear hw7
          go_wp2_with fail
          refine (HH.out _ _ R 60 HG7.out (by omega)).mono ?_
          rintro e w8 ⟨u8, R8, rfl, hp8, ho8, hb8⟩
          have HX8 := Lib.hid (PRds.of_own ho8)
          have HU8 := Lib.hid (HU7.out.more hb8)
          have HB8 := Lib.hid (HB7.out.trans (hb8.mono HB7.out.size))
          have HP8 := Lib.hid hp8
          clear ho8 hb8 hp8
          go_wp2_with fail
          refine (HH.out _ _ l 60 HU8.out (by omega)).mono ?_
          rintro e w9 ⟨u9, R9, rfl, hp9, ho9, hb9⟩
          obtain rfl := HP8.out.same hp9 HAG.out.2.2.1 HAG.out.2.2.2.2.1 HAG.out.2.2.2.2.2.1
          have HX9 := Lib.hid (PRds.of_own ho9)
          have HY9 := Lib.hid (HX8.out.more hb9)
          have HB9 := Lib.hid (HB8.out.trans (hb9.mono HB8.out.size))
          have hl8 := HP8.out.len
          clear ho9 hb9 hp9
          go_wp2_with fail
          refine (HQ.out _ _ _ R8 HY9.out HX9.out (by omega)).mono ?_
          rintro e w10 ⟨rfl, m10, rfl⟩
          go_wp2
          go_ret
          exact ⟨rfl, below_drewN HB9.out m10⟩
end Go.Proofs.Ytpkajiflbejajaa
