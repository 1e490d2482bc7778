/-
  The walk of the law FnWidthsOf: it returns true at every list of bytes. No condition but that the list is one that can be.
-/
import Derived.Test.YtgpkopeaghobeaaLawR2
namespace Go.Proofs.Ytgpkopeaghobeaa
open Go.RowKit
set_option linter.unusedVariables false

set_option maxHeartbeats 3200000 in
theorem fnWidthsOf_walk (a : Option Addr) (len cap : Nat) (zs : List Int) (w : World) (h : IsRow .u8 w a len cap zs) :
    Calls Try.prog 4 #[.slice a len cap] w fun e w' => e = .returned (.bool true) ∧ Below w.heap.size w w' := by
  by_cases hg : (1048576 : Int) < (len : Int)
  · go_enter Try.func4, Try.ntmps4
    go_wp2_with fail
    go_ret
    exact ⟨rfl, Below.refl _ _⟩
  · have H := Lib.hid (dwd_any w a len cap zs h)
    clear h
    go_enter Try.func4, Try.ntmps4
    go_wp2_with fail
    refine H.out.mono ?_
    rintro e w1 ⟨lim, s, rfl, hs, hb1⟩
    have HS := Lib.hid (fun W => sWO_any lim s W (by unfold maxLen; omega))
    have HI := Lib.hid (fun W => iWO_any lim s W (by unfold maxLen; omega))
    have hRl := widR_len lim s.data.toList
    have HB1 := Lib.hid hb1
    have z1 := hb1.size
    have hsl : s.data.toList.length = s.size := by simp
    clear hb1 H
    go_wp2_with fail
    refine (HI.out _).mono ?_
    rintro e w2 ⟨u, rfl, hu, hb2⟩
    have HU2 := Lib.hid hu
    have HB2 := Lib.hid (HB1.out.trans (hb2.mono z1))
    obtain ⟨Au, cu, rfl⟩ := hu.form
    clear hu hb2 HB1 HI
    go_wp2_with fail
    refine (HS.out _).mono ?_
    rintro e w3 ⟨v, rfl, hv, hb3⟩
    have HV3 := Lib.hid hv
    have HU3 : Hid (OwnL w3 _ _ (widR lim s.data.toList)) := Lib.hid (OwnL.below HU2.out hb3 (Nat.le_refl _))
    have HB3 := Lib.hid (HB2.out.trans (hb3.mono HB2.out.size))
    clear hv hb3 HB2 HU2
    go_wp2_with fail
    refine (eqL_same _ _ _ _ (OwnL.rds HU3.out) (OwnL.rds HV3.out) (by omega)).mono ?_
    rintro e w4 ⟨rfl, m4, rfl⟩
    clear HV3
    cases hb : widB lim s.data.toList
    · have e0 := widR_bad hb
      rw [e0] at HU3 HS
      rw [e0]
      clear hb e0 hRl hsl
      rw [List.length_nil]
      rw [List.length_nil] at HU3
      go_wp2_with fail
      refine (HS.out _).mono ?_
      rintro e w5 ⟨v5, rfl, hv5, hb5⟩
      have HU5 : Hid (OwnL w5 _ _ []) := Lib.hid (OwnL.below (HU3.out.drewN m4) hb5 (Nat.le_refl _))
      have HV5 := Lib.hid hv5
      have HB5 := Lib.hid ((below_drewN HB3.out m4).trans (hb5.mono HB3.out.size))
      clear hv5 hb5 HU3 HB3
      go_wp2_with fail
      refine (eqL_same _ _ _ [] (OwnL.rds HU5.out) (OwnL.rds HV5.out) (by simp)).mono ?_
      rintro e w6 ⟨rfl, m6, rfl⟩
      go_wp2
      go_ret
      exact ⟨rfl, below_drewN HB5.out m6⟩
    · have e0 := widR_ok hb
      obtain ⟨⟨⟨hl1, hl2⟩, hln⟩, hall⟩ : ((1 ≤ lim ∧ lim ≤ 30) ∧ s.data.toList.length ≤ 16) ∧ s.data.toList.all isSign = true := by
        simpa only [widB, Bool.and_eq_true, decide_eq_true_eq] using hb
      have hwl := wlist_len lim s.data.toList
      rw [e0] at HU3
      rw [e0]
      have hst := wlist_step hl1 s.data.toList
      have HST := Lib.hid (fun k hk => hst k hk hall)
      have hfst : (wlist lim s.data.toList).getD 0 0 = 1 := by rw [wlist_get lim _ 0 (by omega)]; rfl
      have HF := Lib.hid hfst
      clear hb e0 hRl hall hst HS hfst
      rw [hwl, hsl] at HU3
      rw [hwl, hsl]
      obtain ⟨g, hg0, hat⟩ : ∃ g, Au = some ⟨g, 0, none⟩ ∧ At w3 g 0 (wlist lim s.data.toList) := by
        have hu3 := HU3.out
        unfold OwnL at hu3
        rw [hwl, hsl] at hu3
        obtain ⟨g, c, hform⟩ := own_form_some hu3 (by omega)
        cases hform
        exact ⟨g, rfl, OwnI.at_ (by unfold OwnI; rw [hwl, hsl]; exact hu3)⟩
      subst hg0
      have HC : Hid (∀ j, j < s.size + 1 → w3.cell? ⟨g, j, none⟩ = some (.int .i64 ((wlist lim s.data.toList).getD j 0))) := Lib.hid (fun j hj => by
        have := hat.2 j (by omega)
        rwa [Nat.zero_add] at this)
      have HSL := Lib.hid hsl
      have HLN : s.size ≤ 16 := by omega
      generalize wlist lim s.data.toList = L at *
      clear hat hwl hln HU3 hsl
      have hs0 : ((s.size : Int) + 1 == 0) = false := by simp; omega
      go_wp2
      go_loopw [6] (fun i wr => ∃ k m : Nat, k ≤ s.size ∧ i = .int .i64 k ∧ wr = w3.drewN m) (fun i _ => s.size - (intOf i).toNat)
      case atStart => exact ⟨0, m4, Nat.zero_le _, rfl, rfl⟩
      case round =>
        obtain ⟨k, m, hk, rfl, rfl⟩ := hrel
        by_cases hlt : k < s.size
        · have hc1 := HC.out k (by omega)
          have hc2 := HC.out (k + 1) (by omega)
          obtain ⟨t1, t2, t3, t4, t5, t6⟩ := HST.out k (by have := HSL.out; omega)
          rw [show s.data.toList[k]'(by have := HSL.out; omega) = s[k] from rfl] at t5 t6
          generalize L.getD k 0 = x at *
          generalize L.getD (k + 1) 0 = y at *
          have w1' : IntKind.i64.wrap ((k : Int) + 1) = (k : Int) + 1 := wrap_id _ (by omega)
          have w2' : (0 : Int) ≤ (k : Int) + 1 := by omega
          have w3' : ((k : Int) + 1).toNat = k + 1 := by omega
          have w4' : (k : Int) + 1 < (s.size : Int) + 1 := by omega
          have d1 : decide (y < 1) = false := by simp; omega
          have d2 : decide (lim < y) = false := by simp; omega
          by_cases hc : s[k] = 111
          · have q1 : ((s[k].toNat : Int) == 111) = true := by rw [hc]; rfl
            have q2 : ((s[k].toNat : Int) != 111) = false := by rw [hc]; rfl
            have d3 : decide (y < x) = false := by have := t5 hc; simp; omega
            clear t5 t6 hc
            go_wp2
            go_quiet (fail)
            go_wp2
            go_roundw
            case rel => exact ⟨k + 1, m + nq, by omega, by go_num, rfl⟩
            case measure => simp [intOf]; omega
          · have q1 := u8n s[k] 111 hc
            have q2 := u8ne s[k] 111 hc
            rw [show ((111 : UInt8).toNat : Int) = 111 from rfl] at q1 q2
            have hy := t6 hc
            obtain ⟨M, hM⟩ : ∃ M, M = max (x / 2) 1 := ⟨_, rfl⟩
            rw [← hM] at hy
            have hmx := run_max1 (x / 2) M hM
            have d3 : decide (M < y) = false := by simp; omega
            have hx2 : x.tdiv 2 = x / 2 := Int.tdiv_eq_ediv_of_nonneg t3
            have hw2 : IntKind.i64.wrap (x / 2) = x / 2 := wrap_id _ (by omega)
            clear t5 t6 hc hM
            go_wp2
            go_quiet (fail)
            go_wp2
            go_roundw
            case rel => exact ⟨k + 1, m + nq, by omega, by go_num, rfl⟩
            case measure => simp [intOf]; omega
        · have hc0 := HC.out 0 (by omega)
          rw [HF.out] at hc0
          go_wp2
          go_ret
          exact ⟨rfl, below_drewN HB3.out m⟩
end Go.Proofs.Ytgpkopeaghobeaa
