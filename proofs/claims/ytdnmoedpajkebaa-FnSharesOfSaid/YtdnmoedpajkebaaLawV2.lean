/-
  The walk of the law FnSharesOf: it returns true at every list of bytes. No condition but that the list is one that can be.
-/
import Derived.Test.YtdnmoedpajkebaaWsh
import Derived.Test.YtdnmoedpajkebaaWdt
import Derived.Test.YtdnmoedpajkebaaWsld
import Derived.Test.YtdnmoedpajkebaaWeql
namespace Go.Proofs.Ytdnmoedpajkebaa
open Go.RowKit
set_option linter.unusedVariables false

theorem map_getD (l : List Int) (c : Int) (k : Nat) (h : k < l.length) : (l.map fun x => min x c).getD k 0 = min (lg l k) c := by
  simp [lg, List.getD_eq_getElem?_getD, List.getElem?_eq_getElem h]
theorem cnt_succ (l : List Int) (c : Int) (k : Nat) (h : k < l.length) : cntM c (l.take (k + 1)) = if c < lg l k then cntM c (l.take k) + 1 else cntM c (l.take k) := by
  unfold cntM
  rw [take_snoc l k h, List.filter_append]
  show (List.filter (fun x => decide (c < x)) (l.take k) ++ List.filter (fun x => decide (c < x)) [lg l k]).length = _
  by_cases hc : c < lg l k
  · rw [if_pos hc]; simp [hc]
  · rw [if_neg hc]; simp [hc]
theorem cnt_le (l : List Int) (c : Int) : cntM c l ≤ l.length := List.length_filter_le _ _

set_option maxHeartbeats 3200000 in
theorem fnSharesOf_walk (a : Option Addr) (len cap : Nat) (zs : List Int) (w : World) (h : IsRow .u8 w a len cap zs) :
    Calls Try.prog 4 #[.slice a len cap] w fun e w' => e = .returned (.bool true) ∧ Below w.heap.size w w' := by
  by_cases hg : (1048576 : Int) < (len : Int)
  · go_enter Try.func4, Try.ntmps4
    go_wp2_with fail
    go_ret
    exact ⟨rfl, Below.refl _ _⟩
  · have H := Lib.hid (dsh_any w a len cap zs h)
    clear h
    go_enter Try.func4, Try.ntmps4
    go_wp2_with fail
    refine H.out.mono ?_
    rintro e w1 ⟨r, v, l, B, rfl, hv, hll, hB, hrb, hb1⟩
    have HS := Lib.hid (fun W h => sSH_any r W v l h (by omega))
    have HI := Lib.hid (fun W h => iSH_any r W v l h (by omega))
    have hRl := shaR_len r l
    have HB1 := Lib.hid hb1
    have HV1 := Lib.hid hv
    have z1 := hb1.size
    obtain ⟨Av, cv, rfl⟩ := hv.form
    clear hv hb1 H
    go_wp2_with fail
    refine (HI.out _ (OwnL.rds HV1.out)).mono ?_
    rintro e w2 ⟨u, rfl, hu, hb2⟩
    have HU2 := Lib.hid hu
    have HB2 := Lib.hid (HB1.out.trans (hb2.mono z1))
    have HV2 : Hid (OwnL w2 B _ l) := Lib.hid (OwnL.below HV1.out hb2 (Nat.le_refl _))
    obtain ⟨Au, cu, rfl⟩ := hu.form
    clear hu hb2 HB1 HI HV1
    go_wp2_with fail
    refine (HS.out _ (OwnL.rds HV2.out)).mono ?_
    rintro e w3 ⟨q, rfl, hq, hb3⟩
    have HQ3 := Lib.hid hq
    have HU3 : Hid (OwnL w3 _ _ (shaR r l)) := Lib.hid (OwnL.below HU2.out hb3 (Nat.le_refl _))
    have HB3 := Lib.hid (HB2.out.trans (hb3.mono HB2.out.size))
    have HV3 : Hid (OwnL w3 B _ l) := Lib.hid (OwnL.below HV2.out hb3 (Nat.le_refl _))
    clear hq hb3 HB2 HU2 HV2
    go_wp2_with fail
    refine (eqL_same _ _ _ _ (OwnL.rds HU3.out) (OwnL.rds HQ3.out) (by omega)).mono ?_
    rintro e w4 ⟨rfl, m4, rfl⟩
    clear HQ3
    by_cases hn0 : (shaR r l).length = 0
    · have hnil : shaR r l = [] := List.eq_nil_of_length_eq_zero hn0
      rw [hnil] at HU3 HS
      rw [hnil]
      clear hnil hn0 hRl
      rw [List.length_nil] at HU3
      rw [List.length_nil]
      go_wp2_with fail
      refine (HS.out _ ((OwnL.rds HV3.out).drewN m4)).mono ?_
      rintro e w5 ⟨v5, rfl, hv5, hb5⟩
      have HU5 : Hid (OwnL w5 _ _ []) := Lib.hid (OwnL.below (HU3.out.drewN m4) hb5 (Nat.le_refl _))
      have HV5 := Lib.hid hv5
      have HB5 := Lib.hid ((below_drewN HB3.out m4).trans (hb5.mono HB3.out.size))
      clear hv5 hb5 HU3 HB3
      go_wp2_with fail
      refine (eqL_same _ _ _ [] (OwnL.rds HU5.out) (OwnL.rds HV5.out) (by simp)).mono ?_
      rintro e w6 ⟨rfl, m6, rfl⟩
      go_wp2
      go_ret
      exact ⟨rfl, below_drewN HB5.out m6⟩
    · have hsb : shaB r l = true := by
        cases hb : shaB r l
        · exact absurd (by rw [shaR_bad hb]; rfl) hn0
        · rfl
      obtain ⟨hr, hl⟩ := shaB_parts hsb
      obtain ⟨c, hc⟩ : ∃ c, c = capN r l 30 := ⟨_, rfl⟩
      have hfair : Fair r c l := by rw [hc]; exact cap_fair hr.1 hl
      have hcb : 0 ≤ c ∧ c ≤ 30 := by rw [hc]; have := capN_le r l 30; exact ⟨this.1, by omega⟩
      have e1 : shaR r l = l.map fun x => min x c := by rw [shaR, if_pos hsb, hc]
      have hml : (l.map fun x => min x c).length = l.length := List.length_map _
      have hlen := okL_len hl
      have h0 : l.length ≠ 0 := by rw [e1, hml] at hn0; exact hn0
      have hfit := hfair.2.1
      have HSH : Hid (cntM c l = 0 ∨ r - sumMin c l < cntM c l) := Lib.hid (by
        rcases hfair.2.2 with h | h
        · exact .inl (cntM_zero h)
        · exact .inr (by rw [sumMin_succ] at h; omega))
      have hsm0 : 0 ≤ sumMin c l := by
        have h1 := sumMin_mono hcb.1 l
        rw [sumMin_zero l (fun x hx => (load_of hl x hx).1)] at h1
        exact h1
      have HL := Lib.hid hl
      have HMG := Lib.hid (fun k h => map_getD l c k h)
      have HCS := Lib.hid (fun k h => cnt_succ l c k h)
      have HCE : Hid (cntM c (l.take l.length) = cntM c l) := Lib.hid (by rw [List.take_length])
      have HCL := Lib.hid (fun k => cnt_le (l.take k) c)
      rw [e1] at HU3
      rw [e1]
      rw [hml] at HU3
      rw [hml]
      have HTU := Lib.hid (fun m => tot_any (w3.drewN m) _ (l.map fun x => min x c) 30 ((OwnL.rds HU3.out).drewN m) (by omega) (by omega) (fun j hj => by
        rw [hml] at hj
        rw [map_getD l c j hj]
        have := lg_bd hl j
        omega))
      have HTS : Hid (sumI (l.map fun x => min x c) = sumMin c l) := Lib.hid rfl
      rw [HTS.out] at HTU
      have HUR := Lib.hid (OwnL.rds HU3.out)
      have HVR := Lib.hid (OwnL.rds HV3.out)
      clear hsb hc hfair e1 hn0 hRl hl HU3 HV3 HS HTS
      generalize sumMin c l = sm at *
      have hl0 : ((l.length : Int) == 0) = false := beq_eq_false_iff_ne.2 (by omega)
      obtain ⟨b, off, hbb, hat⟩ : ∃ b off, Av = some ⟨b, off, none⟩ ∧ At w3 b off l := by
        obtain ⟨A', c', hv', h1'⟩ := HVR.out
        injection hv' with e1 e2 e3
        subst e1
        exact h1' (by omega)
      obtain ⟨b2, off2, hbb2, hat2⟩ : ∃ b off, Au = some ⟨b, off, none⟩ ∧ At w3 b off (l.map fun x => min x c) := by
        obtain ⟨A', c', hv', h1'⟩ := HUR.out
        injection hv' with e1 e2 e3
        subst e1
        exact h1' (by rw [List.length_map]; omega)
      subst hbb
      subst hbb2
      have HC1 := Lib.hid hat.2
      have HC2 : Hid (∀ k, k < l.length → w3.cell? ⟨b2, off2 + k, none⟩ = some (.int .i64 (min (lg l k) c))) := Lib.hid (fun k hk => by
        rw [hat2.2 k (by rw [List.length_map]; exact hk), HMG.out k hk])
      clear hat hat2 hml h0
      go_wp2
      go_loopw [6, 7] (fun sv iv wr => ∃ k m : Nat, k ≤ l.length ∧ iv = .int .i64 k ∧ sv = .int .i64 (cntM c (l.take k) : Nat) ∧ wr = w3.drewN m) (fun _ iv _ => l.length - (intOf iv).toNat)
      case atStart => exact ⟨0, m4, Nat.zero_le _, rfl, rfl, rfl⟩
      case round =>
        obtain ⟨k, m, hk, rfl, rfl, rfl⟩ := hrel
        have hcl := HCL.out k
        have htl := List.length_take_le k l
        by_cases hlt : k < l.length
        · have hc1 := HC1.out k hlt
          have hc2 := HC2.out k hlt
          have hxe : l.getD k 0 = lg l k := rfl
          rw [hxe] at hc1
          have hxb := lg_bd HL.out k
          have HCK := Lib.hid (HCS.out k hlt)
          have hk0 : (0 : Int) ≤ (k : Int) := by omega
          have hkn : (k : Int) < (l.length : Int) := by omega
          clear hxe
          generalize lg l k = x at *
          generalize cntM c (l.take k) = n at *
          obtain ⟨y, hy⟩ : ∃ y, y = min x c := ⟨_, rfl⟩
          rw [← hy] at hc2
          have hd1 : decide (x < y) = false := decide_eq_false (by omega)
          by_cases hcx : c < x
          · obtain rfl : y = c := by omega
            have hd2 : decide (y < x) = true := decide_eq_true hcx
            have HE := Lib.hid (HCK.out.trans (if_pos hcx))
            clear HCK hy
            go_wp2
            go_quiet (fail)
            go_wp2
            go_quiet (fail)
            go_wp2
            go_loopw [8] (fun iv wr => ∃ i m : Nat, i ≤ l.length ∧ iv = .int .i64 i ∧ wr = w3.drewN m) (fun iv _ => l.length - (intOf iv).toNat)
            case atStart => exact ⟨0, _, Nat.zero_le _, rfl, rfl⟩
            case round =>
              obtain ⟨i, m', hi, rfl, rfl⟩ := hrel
              by_cases hlt2 : i < l.length
              · have hc3 := HC2.out i hlt2
                have hi0 : (0 : Int) ≤ (i : Int) := by omega
                have hin : (i : Int) < (l.length : Int) := by omega
                have hd3 : decide (y < min (lg l i) y) = false := decide_eq_false (by omega)
                generalize min (lg l i) y = z at hc3 hd3
                go_wp2
                go_quiet (fail)
                go_wp2
                go_roundw
                case rel => exact ⟨i + 1, _, by omega, by go_num, rfl⟩
                case measure => simp [intOf]; omega
              · go_wp2
                go_roundw
                case rel => exact ⟨k + 1, m', by omega, by go_num, by rw [HE.out]; go_num, rfl⟩
                case measure => simp [intOf]; omega
          · obtain rfl : y = x := by omega
            have hd2 : decide (y < y) = false := decide_eq_false (by omega)
            have HE := Lib.hid (HCK.out.trans (if_neg hcx))
            clear HCK hy
            go_wp2
            go_quiet (fail)
            go_wp2
            go_quiet (fail)
            go_wp2
            go_roundw
            case rel => exact ⟨k + 1, _, by omega, by go_num, by rw [HE.out], rfl⟩
            case measure => simp [intOf]; omega
        · obtain rfl : k = l.length := by omega
          rw [HCE.out] at hcl
          rw [HCE.out]
          have HT1 := Lib.hid (HTU.out m)
          clear HTU
          generalize cntM c l = n at *
          have hd1 : decide (sm ≤ r) = true := decide_eq_true hfit
          by_cases hn : n = 0
          · subst hn
            go_wp2_with fail
            refine HT1.out.mono ?_
            rintro e w5 ⟨rfl, rfl⟩
            go_wp2
            go_ret
            exact ⟨rfl, below_drewN HB3.out m⟩
          · have hnz : ((n : Int) == 0) = false := beq_eq_false_iff_ne.2 (by omega)
            have hlt3 : r - sm < (n : Int) := HSH.out.resolve_left hn
            have hd2 : decide (r - sm < (n : Int)) = true := decide_eq_true hlt3
            go_wp2_with fail
            refine HT1.out.mono ?_
            rintro e w5 ⟨rfl, rfl⟩
            go_wp2_with fail
            refine HT1.out.mono ?_
            rintro e w5 ⟨rfl, rfl⟩
            go_wp2
            go_ret
            exact ⟨rfl, below_drewN HB3.out m⟩
end Go.Proofs.Ytdnmoedpajkebaa
