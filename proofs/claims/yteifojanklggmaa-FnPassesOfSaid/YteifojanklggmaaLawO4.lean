/-
  The walk of the law FnPassesOf: it returns true at every list of bytes. No condition but that the list is one that can be.
-/
import Derived.Test.YteifojanklggmaaWde
import Derived.Test.YteifojanklggmaaWdt
import Derived.Test.YteifojanklggmaaWsld
namespace Go.Proofs.Yteifojanklggmaa
open Go.RowKit
set_option linter.unusedVariables false

/-- What has passed behind k loads. -/
def pp (r d : Int) (l : List Int) : Nat → Int
  | 0 => 0
  | k + 1 => pp r d l k + if flag r d l k = true then lg l k else 0
theorem pp_bd {r d : Int} {l : List Int} (hl : okL l = true) : ∀ k, 0 ≤ pp r d l k ∧ pp r d l k ≤ 30 * k
  | 0 => by simp [pp]
  | k + 1 => by
    have := pp_bd (r := r) (d := d) hl k
    have := lg_bd hl k
    unfold pp; split <;> omega
theorem pp_hh {r d : Int} {l : List Int} (hr : 0 ≤ r) (hd : 0 ≤ d) (hl : okL l = true) : ∀ k, pp r d l k + hh r d l k ≤ d + r * (max ((k : Int) - 1) 0) ∧ hh r d l k ≤ d
  | 0 => by
    have e : max (((0 : Nat) : Int) - 1) 0 = 0 := by omega
    rw [e, Int.mul_zero]
    show (0 : Int) + d ≤ d + 0 ∧ d ≤ d
    omega
  | k + 1 => by
    obtain ⟨h1, h2⟩ := pp_hh hr hd hl k
    have hx := lg_bd hl k
    have e : pp r d l (k + 1) + hh r d l (k + 1) = pp r d l k + min (hh r d l k + r) d := by
      show (pp r d l k + if flag r d l k = true then lg l k else 0) + (if lg l k ≤ min (hh r d l k + r) d then min (hh r d l k + r) d - lg l k else min (hh r d l k + r) d) = _
      unfold flag
      by_cases hp : lg l k ≤ min (hh r d l k + r) d
      · rw [if_pos hp, if_pos (decide_eq_true hp)]; omega
      · rw [if_neg hp, if_neg (by simpa using hp)]; omega
    refine ⟨?_, (hh_bd hr hd hl (k + 1)).2⟩
    rw [e]
    rcases Nat.eq_zero_or_pos k with rfl | hk
    · have e2 : max (((0 + 1 : Nat) : Int) - 1) 0 = 0 := by omega
      rw [e2, Int.mul_zero]
      show 0 + min (d + r) d ≤ d + 0
      omega
    · have e2 : max (((k + 1 : Nat) : Int) - 1) 0 = max ((k : Int) - 1) 0 + 1 := by omega
      rw [e2, Int.mul_add, Int.mul_one]
      omega

set_option maxHeartbeats 3200000 in
theorem fnPassesOf_walk (a : Option Addr) (len cap : Nat) (zs : List Int) (w : World) (h : IsRow .u8 w a len cap zs) :
    Calls Try.prog 4 #[.slice a len cap] w fun e w' => e = .returned (.bool true) ∧ Below w.heap.size w w' := by
  by_cases hg : (1048576 : Int) < (len : Int)
  · go_enter Try.func4, Try.ntmps4
    go_wp2_with fail
    go_ret
    exact ⟨rfl, Below.refl _ _⟩
  · have H := Lib.hid (dpa_any w a len cap zs h)
    clear h
    go_enter Try.func4, Try.ntmps4
    go_wp2_with fail
    refine H.out.mono ?_
    rintro e w1 ⟨r, d, v, l, B, rfl, hv, hll, hB, hb1⟩
    have HS := Lib.hid (fun W h => sPO_any r d W v l h (by omega))
    have HI := Lib.hid (fun W h => iPO_any r d W v l h (by omega) h.lies)
    have hRl := bokL_len r d l
    have HB1 := Lib.hid hb1
    have HV1 := Lib.hid hv
    have z1 := hb1.size
    obtain ⟨Av, cv, rfl⟩ := hv.form
    clear hv hb1 H
    go_wp2_with fail
    refine (HI.out _ (OwnL.rds HV1.out)).mono ?_
    rintro e w2 ⟨u, rfl, hu, hb2⟩
    have HU2 := Lib.hid hu
    have HB2 := Lib.hid (HB1.out.trans (hb2.mono z1))
    have HV2 : Hid (OwnL w2 B _ l) := Lib.hid (OwnL.below HV1.out hb2 (Nat.le_refl _))
    obtain ⟨Au, cu, huf⟩ := hu.form
    subst huf
    clear hu hb2 HB1 HI HV1
    go_wp2_with fail
    refine (HS.out _ (OwnL.rds HV2.out)).mono ?_
    rintro e w3 ⟨q, rfl, hq, hb3⟩
    have HQ3 := Lib.hid hq
    have HU3 : Hid (OwnZ w3 _ _ (bokL r d l)) := Lib.hid (OwnZ.below HU2.out hb3 (Nat.le_refl _))
    have HB3 := Lib.hid (HB2.out.trans (hb3.mono HB2.out.size))
    have HV3 : Hid (OwnL w3 B _ l) := Lib.hid (OwnL.below HV2.out hb3 (Nat.le_refl _))
    clear hq hb3 HB2 HU2 HV2 HS
    go_wp2_with fail
    refine (eqB_same _ _ _ _ (OwnZ.rds HU3.out) (OwnZ.rds HQ3.out) (by omega)).mono ?_
    rintro e w4 ⟨rfl, m4, rfl⟩
    cases hb : bokB r d l
    · have e1 := bokL_bad hb
      have e2 := bokN_bad hb
      rw [e1] at HU3 HQ3
      rw [e1, e2]
      clear hb e1 e2 hRl
      rw [List.length_nil] at HU3
      rw [List.length_nil]
      go_wp2_with fail
      refine (eqB_same _ _ _ [] ((OwnZ.rds HU3.out).drewN m4) ((OwnZ.rds HQ3.out).drewN m4) (by simp)).mono ?_
      rintro e w5 ⟨rfl, m5, rfl⟩
      go_wp2
      go_ret
      exact ⟨rfl, below_drewN HB3.out _⟩
    · obtain ⟨hr, hd, hl⟩ := bok_parts hb
      have e1 := bokL_ok hb
      have e2 := bokN_ok hb
      have hkl := bkL_len r d l l.length
      rw [e1] at HU3
      rw [e1, e2]
      rw [hkl] at HU3
      rw [hkl]
      have hbd := hh_bd hr.1 hd.1 hl l.length
      have hlen := okL_len hl
      have hpn := pp_hh hr.1 hd.1 hl l.length
      have HPB := Lib.hid (fun k => pp_bd (r := r) (d := d) hl k)
      have hpb := pp_bd (r := r) (d := d) hl l.length
      have HL := Lib.hid hl
      have HUR := Lib.hid (OwnZ.rds HU3.out)
      have HVR := Lib.hid (OwnL.rds HV3.out)
      obtain ⟨M, hM⟩ : ∃ M, M = max ((l.length : Int) - 1) 0 := ⟨_, rfl⟩
      have hmx := run_maxD ((l.length : Int) - 1) 0 M hM
      have hMb : 0 ≤ M ∧ M ≤ 16 := by omega
      rw [← hM] at hpn
      have hp1 : 0 ≤ r * M := Int.mul_nonneg hr.1 hMb.1
      have hp2 : r * M ≤ 480 := by
        have h1 : r * M ≤ 30 * M := Int.mul_le_mul_of_nonneg_right hr.2 hMb.1
        omega
      clear hb e1 e2 hRl HQ3 HU3 HV3 hM hl
      generalize hh r d l l.length = h at *
      generalize hP : r * M = P at *
      go_wp2
      go_loopw [10, 11] (fun sv iv wr => ∃ k m : Nat, k ≤ l.length ∧ iv = .int .i64 k ∧ sv = .int .i64 (pp r d l k) ∧ wr = w3.drewN m) (fun _ iv _ => l.length - (intOf iv).toNat)
      case atStart => exact ⟨0, m4, Nat.zero_le _, rfl, rfl, rfl⟩
      case round =>
        obtain ⟨k, m, hk, rfl, rfl, rfl⟩ := hrel
        have hpk := HPB.out k
        by_cases hlt : k < l.length
        · obtain ⟨b, off, hbb, hat⟩ : ∃ b off, Av = some ⟨b, off, none⟩ ∧ At w3 b off l := by
            obtain ⟨A', c', hv', h1'⟩ := HVR.out
            injection hv' with e1 e2 e3
            subst e1
            exact h1' (by omega)
          obtain ⟨b2, off2, hbb2, hat2⟩ : ∃ b off, Au = some ⟨b, off, none⟩ ∧ AtZ w3 b off (bkL r d l l.length) := by
            obtain ⟨A', c', hv', h1'⟩ := HUR.out
            injection hv' with e1 e2 e3
            subst e1
            exact h1' (by omega)
          subst hbb
          subst hbb2
          have hc1 := hat.2 k hlt
          have hc2 := hat2.2 k (by omega)
          rw [bkL_get r d l l.length k hlt] at hc2
          have hxe : l.getD k 0 = lg l k := rfl
          rw [hxe] at hc1
          have hxb := lg_bd HL.out k
          have HPP : Hid (pp r d l (k + 1) = pp r d l k + if flag r d l k = true then lg l k else 0) := Lib.hid rfl
          clear hat hat2 hxe
          generalize pp r d l k = p at *
          generalize lg l k = x at *
          cases hf : flag r d l k
          · rw [hf] at hc2 HPP
            have HE := Lib.hid (HPP.out.trans (by rw [if_neg (by simp), Int.add_zero]))
            clear HPP hf
            go_wp2
            go_roundw
            case rel => exact ⟨k + 1, m, by omega, by go_num, by rw [HE.out], rfl⟩
            case measure => simp [intOf]; omega
          · rw [hf] at hc2 HPP
            have HE := Lib.hid (HPP.out.trans (by rw [if_pos rfl]))
            clear HPP hf
            go_wp2
            go_roundw
            case rel => exact ⟨k + 1, m, by omega, by go_num, by rw [HE.out], rfl⟩
            case measure => simp [intOf]; omega
        · obtain rfl : k = l.length := by omega
          generalize pp r d l l.length = p at *
          have hd1 : decide (p + h ≤ d + P) = true := decide_eq_true hpn.1
          have hd2 : decide (h ≤ d) = true := decide_eq_true hpn.2
          go_wp2
          go_ret
          exact ⟨rfl, below_drewN HB3.out m⟩
end Go.Proofs.Yteifojanklggmaa
