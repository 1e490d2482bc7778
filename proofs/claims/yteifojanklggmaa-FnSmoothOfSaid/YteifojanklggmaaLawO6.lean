/-
  The walk of the law FnSmoothOf: it returns true at every list of bytes. No condition but that the list is one that can be.
-/
import Derived.Test.YteifojanklggmaaWso
import Derived.Test.YteifojanklggmaaWdt
import Derived.Test.YteifojanklggmaaWsld
import Derived.Test.YteifojanklggmaaWeql
namespace Go.Proofs.Yteifojanklggmaa
open Go.RowKit
set_option linter.unusedVariables false

set_option maxHeartbeats 3200000 in
theorem fnSmoothOf_walk (a : Option Addr) (len cap : Nat) (zs : List Int) (w : World) (h : IsRow .u8 w a len cap zs) :
    Calls Try.prog 8 #[.slice a len cap] w fun e w' => e = .returned (.bool true) ∧ Below w.heap.size w w' := by
  by_cases hg : (1048576 : Int) < (len : Int)
  · go_enter Try.func8, Try.ntmps8
    go_wp2_with fail
    go_ret
    exact ⟨rfl, Below.refl _ _⟩
  · have H := Lib.hid (dso_any w a len cap zs h)
    clear h
    go_enter Try.func8, Try.ntmps8
    go_wp2_with fail
    refine H.out.mono ?_
    rintro e w1 ⟨r, v, l, B, rfl, hv, hll, hB, hrb, hb1⟩
    have HS := Lib.hid (fun W h => sSO_any r W v l h (by omega))
    have HI := Lib.hid (fun W h => iSO_any r W v l h (by omega) h.lies)
    have hRl := smoL_len r l
    have HB1 := Lib.hid hb1
    have HV1 := Lib.hid hv
    have z1 := hb1.size
    have HD := Lib.hid (fun W (h : Rds W v l) (hr : 0 ≤ r ∧ r ≤ 30) (hl : okL l = true) => dpo_any W r v l h hr hl)
    have HT := Lib.hid (fun W (h : Rds W v l) (hl : okL l = true) => tot_any W v l 30 h (by omega) (by omega) (fun j hj => lg_bd hl j))
    obtain ⟨Av, cv, rfl⟩ := hv.form
    clear hv hb1 H
    go_wp2_with fail
    refine (HI.out _ (OwnL.rds HV1.out)).mono ?_
    rintro e w2 ⟨u, rfl, hu, hb2⟩
    have HU2 := Lib.hid hu
    have HB2 := Lib.hid (HB1.out.trans (hb2.mono z1))
    have HV2 : Hid (OwnL w2 B _ l) := Lib.hid (OwnL.below HV1.out hb2 (Nat.le_refl _))
    obtain ⟨Au, cu, rfl⟩ := hu.form
    clear hu hb2 HB1 HI HV1
    go_wp2_with fail
    refine (HS.out _ (OwnL.rds HV2.out)).mono ?_
    rintro e w3 ⟨q, rfl, hq, hb3⟩
    have HQ3 := Lib.hid hq
    have HU3 : Hid (OwnL w3 _ _ (smoL r l)) := Lib.hid (OwnL.below HU2.out hb3 (Nat.le_refl _))
    have HB3 := Lib.hid (HB2.out.trans (hb3.mono HB2.out.size))
    have HV3 : Hid (OwnL w3 B _ l) := Lib.hid (OwnL.below HV2.out hb3 (Nat.le_refl _))
    clear hq hb3 HB2 HU2 HV2 HS
    go_wp2_with fail
    refine (eqL_same _ _ _ _ (OwnL.rds HU3.out) (OwnL.rds HQ3.out) (by omega)).mono ?_
    rintro e w4 ⟨rfl, m4, rfl⟩
    cases hb : smoB r l
    · have e1 := smoL_bad hb
      have e2 := smoN_bad hb
      rw [e1] at HU3 HQ3
      rw [e1, e2]
      clear hb e1 e2 hRl
      rw [List.length_nil] at HU3
      rw [List.length_nil]
      go_wp2_with fail
      refine (eqL_same _ _ _ [] ((OwnL.rds HU3.out).drewN m4) ((OwnL.rds HQ3.out).drewN m4) (by simp)).mono ?_
      rintro e w5 ⟨rfl, m5, rfl⟩
      go_wp2
      go_ret
      exact ⟨rfl, below_drewN HB3.out _⟩
    · obtain ⟨hr, hl⟩ := smoB_parts hb
      have e1 := smoL_ok hb
      have e2 := smoN_ok hb
      have hst := stopAt_stops hr.1 hl
      have hT5 := ticks_le hr.1 hl (smoT r l) hst.2
      obtain ⟨hsum, hTl⟩ := smo_sum hr.1 hl
      have hms := smo_most hr.1 hl
      have hdv := dv_nonneg r l l.length
      have hdb := dv_bd (by omega : 0 ≤ r) hl l.length
      have hlen := okL_len hl
      have hkl := smL_len r l (smoT r l)
      have HSB := Lib.hid (fun k => sm_bd hr.1 hl k)
      have HGT := Lib.hid (fun k (h : k < smoT r l) => smL_get r l (smoT r l) k h)
      have HD2 := Lib.hid (fun W h => HD.out W h (by omega) hl)
      have HT2 := Lib.hid (fun W h => HT.out W h hl)
      rw [e1] at HU3
      rw [e1, e2, hms]
      rw [hkl] at HU3
      rw [hkl]
      have HTU := Lib.hid (fun m => tot_any (w3.drewN m) _ (smL r l (smoT r l)) 30 ((OwnL.rds HU3.out).drewN m) (by omega) (by omega) (fun j hj => by
        rw [hkl] at hj
        rw [smL_get r l _ j hj]
        have := sm_bd hr.1 hl j
        omega))
      rw [hsum] at HTU
      have HUR := Lib.hid (OwnL.rds HU3.out)
      have HVR := Lib.hid (OwnL.rds HV3.out)
      obtain ⟨M, hM⟩ : ∃ M, M = max (dv r l l.length - r) 0 := ⟨_, rfl⟩
      have hmx := run_maxD (dv r l l.length - r) 0 M hM
      rw [← hM]
      have hMb : 0 ≤ M := by omega
      clear hb e1 e2 hRl HQ3 hl hst hsum hms hkl HD HT HU3 HV3 hM
      generalize smoT r l = T at *
      generalize dv r l l.length = dvv at *
      generalize sumI l = sl at *
      go_wp2
      go_loopw [9] (fun iv wr => ∃ k m : Nat, k ≤ T ∧ iv = .int .i64 k ∧ wr = w3.drewN m) (fun iv _ => T - (intOf iv).toNat)
      case atStart => exact ⟨0, m4, Nat.zero_le _, rfl, rfl⟩
      case round =>
        obtain ⟨k, m, hk, rfl, rfl⟩ := hrel
        by_cases hlt : k < T
        · obtain ⟨b2, off2, hbb2, hat2⟩ : ∃ b off, Au = some ⟨b, off, none⟩ ∧ At w3 b off (smL r l T) := by
            obtain ⟨A', c', hv', h1'⟩ := HUR.out
            injection hv' with e1 e2 e3
            subst e1
            exact h1' (by rw [smL_len]; omega)
          subst hbb2
          have hc2 := hat2.2 k (by rw [smL_len]; omega)
          rw [HGT.out k hlt] at hc2
          have hsb := HSB.out k
          have hd1 : decide (r < sm r l k) = false := decide_eq_false (by omega)
          have hd2 : decide (sm r l k < 0) = false := decide_eq_false (by omega)
          clear hat2
          generalize sm r l k = x at *
          go_wp2
          go_roundw
          case rel => exact ⟨k + 1, m, by omega, by go_num, rfl⟩
          case measure => simp [intOf]; omega
        · obtain rfl : k = T := by omega
          have hge : decide (l.length ≤ k) = true := decide_eq_true hTl
          have HTU1 := Lib.hid (HTU.out m)
          have HTV1 := Lib.hid (HT2.out (w3.drewN m) (HVR.out.drewN m))
          have HD1 := Lib.hid (HD2.out (w3.drewN m) (HVR.out.drewN m))
          clear HTU HT2 HD2
          go_wp2_with fail
          refine HTU1.out.mono ?_
          rintro e w5 ⟨rfl, rfl⟩
          go_wp2_with fail
          refine HTV1.out.mono ?_
          rintro e w5 ⟨rfl, rfl⟩
          go_wp2_with fail
          refine HD1.out.mono ?_
          rintro e w5 ⟨rfl, rfl⟩
          go_wp2
          go_ret
          exact ⟨rfl, below_drewN HB3.out m⟩
end Go.Proofs.Yteifojanklggmaa
