/-
  The walk of the law FnWholeAt: it returns true at every code. No condition but that the code is a list that can be.
-/
import Derived.Test.YteililppbnbfhaaWdp
import Derived.Test.YteililppbnbfhaaWhm
namespace Go.Proofs.Yteililppbnbfhaa
open Go.RowKit
set_option linter.unusedVariables false

set_option maxHeartbeats 3200000 in
theorem fnWholeAt_walk (a : Option Addr) (len cap : Nat) (zs : List Int) (w : World) (h : IsRow .u8 w a len cap zs) :
    Calls Try.prog 8 #[.slice a len cap] w fun e w' => e = .returned (.bool true) ∧ Below w.heap.size w w' := by
  by_cases hg : (1048576 : Int) < (len : Int)
  · go_enter Try.func8, Try.ntmps8
    go_wp2_with fail
    go_ret
    exact ⟨rfl, Below.refl _ _⟩
  · have H := Lib.hid (dWA_any w a len cap zs h)
    clear h
    go_enter Try.func8, Try.ntmps8
    go_wp2_with fail
    refine H.out.mono ?_
    rintro e w1 ⟨u, l, B, rfl, ho, hl, hb1⟩
    have HU := Lib.hid (PRds.of_own ho)
    have HB1 := Lib.hid hb1
    have hcap : ∀ A n c, u = .slice A n c → n ≤ c := fun A n c hv => by
      subst hv
      rcases ho.2 with ⟨h', _⟩ | ⟨g, c', cur, h', _, _, h3, _⟩
      · simp only [Value.slice.injEq] at h'; omega
      · simp only [Value.slice.injEq] at h'; omega
    obtain ⟨A, c, rfl⟩ := own_form3 ho
    have hlc := hcap _ _ _ rfl
    clear H ho hb1 hcap
    have HI := Lib.hid (fun W h => iWA_any W A c l.length l rfl hlc h (by omega))
    have HS := Lib.hid (fun W h => sWA_any W A c l.length l rfl hlc h (by omega))
    have HW := Lib.hid (fun W v ps h hn => iIW_any W v ps h hn)
    go_wp2_with fail
    refine (HI.out _ HU.out).mono ?_
    rintro e w2 ⟨r, b, rfl, hwa, hb2⟩
    have HWA := Lib.hid hwa
    have HU2 := Lib.hid (HU.out.more hb2)
    have HB2 := Lib.hid (HB1.out.trans (hb2.mono HB1.out.size))
    clear hwa hb2 HU
    go_wp2_with fail
    refine (HS.out _ HU2.out).mono ?_
    rintro e w3 ⟨r', b', rfl, hwa', hb3⟩
    obtain ⟨rfl, rfl⟩ := HWA.out.uniq hwa'
    have HU3 := Lib.hid (HU2.out.more hb3)
    have HB3 := Lib.hid (HB2.out.trans (hb3.mono HB2.out.size))
    have hrr : (r != r) = false := by simp
    have hbb : (b != b) = false := by simp
    have hre : (r == r) = true := by simp
    have hbe : (b == b) = true := by simp
    clear hwa' hb3 HU2 HB2
    cases b
    · go_wp2
      go_ret
      exact ⟨rfl, HB3.out⟩
    · obtain ⟨k, hk, rfl, hw, hno⟩ := HWA.out.parts
      have HNO := Lib.hid hno
      have HWH := Lib.hid hw
      have hn0 : 0 < l.length := by omega
      obtain ⟨A', c', hv', h1'⟩ := HU3.out
      obtain ⟨g, off, hA, hat⟩ := h1' hn0
      simp only [Value.slice.injEq] at hv'
      obtain ⟨rfl, hx0, rfl⟩ := hv'
      subst hA
      clear h1' hat hx0 hw hno
      go_wp2
      go_loopw [8] (fun iv wr => ∃ i : Nat, i ≤ k + 1 ∧ iv = .int .i64 i ∧ Below w.heap.size w wr ∧ PRds wr (.slice (some ⟨g, off, none⟩) l.length c) l) (fun iv _ => k + 1 - (intOf iv).toNat)
      case atStart => exact ⟨0, Nat.zero_le _, rfl, HB3.out, HU3.out⟩
      case round =>
        obtain ⟨i, hi, rfl, hbel, hrd⟩ := hrel
        have HBEL := Lib.hid hbel
        have HRD := Lib.hid hrd
        have i0 : (0 : Int) ≤ (i : Int) := by omega
        clear hbel hrd
        by_cases hlt : i < k + 1
        · have hd : decide ((i : Int) < (k : Int) + 1) = true := by simp; omega
          have q2 : (i : Int) ≤ (c : Int) := by omega
          have HX := Lib.hid (HW.out wr (.slice (some ⟨g, off, none⟩) i c) (l.take i) (HRD.out.fore i (by omega) _) (by rw [List.length_take]; omega))
          rw [HNO.out i (by omega)] at HX
          go_wp2_with (go_at_call 17; refine HX.out.mono ?_; rintro e w5 ⟨rfl, hb5⟩; have HRD5 := Lib.hid (HRD.out.more hb5); have HB5 := Lib.hid (HBEL.out.trans (hb5.mono HBEL.out.size)); clear hb5)
          go_roundw
          case rel => exact ⟨i + 1, by omega, by go_num, HB5.out, HRD5.out⟩
          case measure => simp [intOf]; omega
        · have hd : decide ((i : Int) < (k : Int) + 1) = false := by simp; omega
          have q1 : decide ((1 : Int) ≤ (k : Int) + 1) = true := by simp; omega
          have q2 : (k : Int) + 1 ≤ (c : Int) := by omega
          have q3 : ((k : Int) + 1).toNat = k + 1 := by omega
          have q4 : (0 : Int) ≤ (k : Int) + 1 := by omega
          have HX := Lib.hid (HW.out wr (.slice (some ⟨g, off, none⟩) (k + 1) c) (l.take (k + 1)) (HRD.out.fore (k + 1) (by omega) _) (by rw [List.length_take]; omega))
          rw [HWH.out] at HX
          go_wp2_with (go_at_call 17; refine HX.out.mono ?_; rintro e w5 ⟨rfl, hb5⟩; have HB5 := Lib.hid (HBEL.out.trans (hb5.mono HBEL.out.size)); clear hb5)
          go_ret
          exact ⟨rfl, HB5.out⟩
end Go.Proofs.Yteililppbnbfhaa
