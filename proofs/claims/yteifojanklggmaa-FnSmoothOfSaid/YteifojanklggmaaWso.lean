/-
  The walks of both functions SmoothOf. Conditions: where the lists lie, and the lengths that are typed.
-/
import Derived.Test.YteifojanklggmaaWpo
import Derived.Test.YteifojanklggmaaFsm
namespace Go.Proofs.Yteifojanklggmaa
open Go.RowKit
set_option linter.unusedVariables false

def lenV (v : Value) : Nat := match v with | .slice _ n _ => n | _ => 0
theorem stop_more {r : Int} {l : List Int} {k : Nat} (hk : stopB r l k = false) (h : ∀ i, i < k → stopB r l i = false) : ∀ i, i < k + 1 → stopB r l i = false := fun i hi => by
  rcases (show i < k ∨ i = k from by omega) with hi | rfl
  · exact h i hi
  · exact hk
theorem stop_lt {r : Int} {l : List Int} {k : Nat} (h : k < l.length) : stopB r l k = false := by simp [stopB]; omega
theorem stop_left {r : Int} {l : List Int} {k : Nat} (h : 0 < lf r l k) : stopB r l k = false := by simp [stopB]; omega
theorem stop_yes {r : Int} {l : List Int} {k : Nat} (h1 : l.length ≤ k) (h2 : lf r l k = 0) : stopB r l k = true := by simp [stopB, h1, h2]

set_option maxHeartbeats 1600000 in
theorem rgQ_any (w : World) (g : Nat) (r : Int) (v : Value) (l : List Int) (hr : 1 ≤ r ∧ r ≤ 30) (hl : okL l = true) (hb : Que w g r 0 0) (hv : Rds w v l) (hne : Lies g v l) :
    Calls Try.prog 34 #[.iface 56 (.pointer (some ⟨g, 0, none⟩)), v] w
      fun e w' => ∃ u, e = .returned u ∧ OwnL w' w.heap.size u (smL r l (smoT r l)) ∧ Que w' g r 0 (ms r l (smoT r l)) ∧ w.grownBy w' (some g) := by
  obtain ⟨A, c, rfl, hA⟩ := hv
  have hlen := okL_len hl
  have HB := Lib.hid hb
  have HA := Lib.hid hA
  have HN := Lib.hid hne
  have HL := Lib.hid hl
  have hgw := Blk.lt HB.out
  clear hb hA hne hl
  go_enter Try.func34, Try.ntmps34
  go_wp2
  go_loopw [5, 10] (fun sv iv wr => ∃ k : Nat, k ≤ l.length ∧ iv = .int .i64 k ∧ OwnL wr w.heap.size sv (smL r l k) ∧ Que wr g r (lf r l k) (ms r l k) ∧ w.grownBy wr (some g)) (fun _ iv _ => l.length - (intOf iv).toNat)
  case atStart => exact ⟨0, Nat.zero_le _, rfl, OwnL.nil _ _, HB.out, World.grownBy.refl _ _⟩
  case round =>
    obtain ⟨k, hk, rfl, hown, hb, hg⟩ := hrel
    by_cases hlt : k < l.length
    · obtain ⟨b, off, rfl, hat⟩ := HA.out (by omega)
      have hbg : b < g := HN.out (by omega) b rfl
      have hc1 := World.grownBy.cell hg (hat.2 k hlt) (by simp; omega)
      have hx := lg_bd HL.out k
      have hxe : l.getD k 0 = lg l k := rfl
      rw [hxe] at hc1
      have hbd := lf_bd hr.1 HL.out k
      have hbm := ms_bd hr.1 HL.out k
      obtain ⟨As, cs, rfl⟩ := hown.form
      have HO := Lib.hid hown
      have HG := Lib.hid hg
      have HC : Hid (Calls Try.prog 62 #[.pointer (some ⟨g, 0, none⟩), .int .i64 (lg l k)] wr
          fun e w' => e = .returned (.int .i64 (sm r l k)) ∧ Que w' g r (lf r l (k + 1)) (ms r l (k + 1)) ∧ wr.grownBy w' (some g)) := Lib.hid (qlt_any wr g r (lf r l k) (ms r l k) (lg l k) hr (by omega) (by omega) hx hb)
      have hgz : g < wr.heap.size := Blk.lt hb
      have hsz : w.heap.size ≤ wr.heap.size := hg.size
      have HT := Lib.hid (smL_succ r l k)
      have hlt2 := smL_len r l k
      rw [hlt2] at HO
      rw [hlt2]
      clear hown hb hg hxe hbd hbm
      generalize hHE : lf r l (k + 1) = h' at HC
      have HHE := Lib.hid hHE.symm
      clear hHE
      generalize hME : ms r l (k + 1) = m' at HC
      have HME := Lib.hid hME.symm
      clear hME
      generalize lg l k = x at *
      generalize sm r l k = y at *
      go_wp2_with fail
      rw [mtQ]
      rotate_left
      · exact Try.underlying60
      · kernel_rfl
      go_wp2_with fail
      refine HC.out.mono ?_
      rintro e w1 ⟨rfl, hb1, hg1⟩
      have ho1 : OwnL w1 w.heap.size (.slice As k cs) (smL r l k) := World.ownsRow.kept HO.out hg1 (.inr (fun he => by have := (World.ownsRow.lt HO.out g he).1; omega))
      have hb1' := Lib.hid hb1
      have hgr1 := Lib.hid (grown_trans' HG.out hg1)
      have hz1 : w.heap.size ≤ w1.heap.size := Nat.le_trans hsz hg1.size
      clear hb1 hg1
      go_wp2_with (at_builtin; refine append_oneI rfl (.tmp 14) (.tmp 18) rfl w.heap.size _ (smL r l k) y rfl rfl ho1 (by omega) hz1 ?_; intro A9 c9 w9 ho9 hg9 hb9 hz9)
      go_roundw
      case rel => exact ⟨k + 1, by omega, by go_num, by rw [HT.out]; rw [hlt2] at ho9; exact ho9, by rw [← HHE.out, ← HME.out]; exact Blk.below hb1'.out hb9 hgw, grown_below hgr1.out hb9⟩
      case measure => simp [intOf]; omega
    · obtain rfl : k = l.length := by omega
      go_wp2
      go_loopw [5] (fun sv wr => ∃ k : Nat, l.length ≤ k ∧ (∀ i, i < k → stopB r l i = false) ∧ OwnL wr w.heap.size sv (smL r l k) ∧ Que wr g r (lf r l k) (ms r l k) ∧ w.grownBy wr (some g)) (fun sv _ => 600 - lenV sv)
      case atStart => exact ⟨l.length, Nat.le_refl _, fun i hi => stop_lt hi, hown, hb, hg⟩
      case round =>
        clear hown hb hg
        obtain ⟨k, hk, hst, hown, hb, hg⟩ := hrel
        have hk5 := ticks_le hr.1 HL.out k hst
        have hx : lg l k = 0 := lg_past hk
        have hbd := lf_bd hr.1 HL.out k
        have hbm := ms_bd hr.1 HL.out k
        have HST := Lib.hid hst
        obtain ⟨As, cs, rfl⟩ := hown.form
        have hlt2 := smL_len r l k
        have HO := Lib.hid hown
        have HG := Lib.hid hg
        have HW := Lib.hid (wiQ_any wr g r (lf r l k) (ms r l k) hb)
        rw [hlt2] at HO
        rw [hlt2]
        by_cases hp : 0 < lf r l k
        · have HSM := Lib.hid (stop_more (stop_left hp) hst)
          have HC0 := qlt_any wr g r (lf r l k) (ms r l k) 0 hr (by omega) (by omega) (by omega) hb
          rw [← hx] at HC0
          have HC1 : Calls Try.prog 62 #[.pointer (some ⟨g, 0, none⟩), .int .i64 (lg l k)] wr
              fun e w' => e = .returned (.int .i64 (sm r l k)) ∧ Que w' g r (lf r l (k + 1)) (ms r l (k + 1)) ∧ wr.grownBy w' (some g) := HC0
          rw [hx] at HC1
          have HC := Lib.hid HC1
          have hgz : g < wr.heap.size := Blk.lt hb
          have hsz : w.heap.size ≤ wr.heap.size := hg.size
          have HT := Lib.hid (smL_succ r l k)
          clear hown hb hg hbd hbm hst hx HC0 HC1
          generalize hHE : lf r l (k + 1) = h' at HC
          have HHE := Lib.hid hHE.symm
          clear hHE
          generalize hME : ms r l (k + 1) = m' at HC
          have HME := Lib.hid hME.symm
          clear hME
          generalize lf r l k = t at *
          generalize ms r l k = m at *
          generalize sm r l k = y at *
          go_wp2_with fail
          refine HW.out.mono ?_
          rintro e w' ⟨rfl, rfl⟩
          go_wp2_with fail
          rw [mtQ]
          rotate_left
          · exact Try.underlying60
          · kernel_rfl
          go_wp2_with fail
          refine HC.out.mono ?_
          rintro e w1 ⟨rfl, hb1, hg1⟩
          have ho1 : OwnL w1 w.heap.size (.slice As k cs) (smL r l k) := World.ownsRow.kept HO.out hg1 (.inr (fun he => by have := (World.ownsRow.lt HO.out g he).1; omega))
          have hb1' := Lib.hid hb1
          have hgr1 := Lib.hid (grown_trans' HG.out hg1)
          have hz1 : w.heap.size ≤ w1.heap.size := Nat.le_trans hsz hg1.size
          clear hb1 hg1
          go_wp2_with (at_builtin; refine append_oneI rfl (.tmp 24) (.tmp 27) rfl w.heap.size _ (smL r l k) y rfl rfl ho1 (by omega) hz1 ?_; intro A9 c9 w9 ho9 hg9 hb9 hz9)
          go_roundw
          case rel => exact ⟨k + 1, by omega, HSM.out, by rw [HT.out]; rw [hlt2] at ho9; exact ho9, by rw [← HHE.out, ← HME.out]; exact Blk.below hb1'.out hb9 hgw, grown_below hgr1.out hb9⟩
          case measure => simp [lenV]; omega
        · have h0 : lf r l k = 0 := by omega
          have HT : Hid (smoT r l = k) := Lib.hid (smoT_is hk5 (stop_yes hk h0) hst)
          rw [h0] at HW hb
          have HQ := Lib.hid hb
          clear hown hb hg hbd hbm hst hx h0 hp
          go_wp2_with fail
          refine HW.out.mono ?_
          rintro e w' ⟨rfl, rfl⟩
          go_wp2
          go_ret
          exact ⟨_, rfl, by rw [HT.out]; exact HO.out, by rw [HT.out]; exact HQ.out, HG.out⟩

set_option maxHeartbeats 1600000 in
theorem iSO_ok (r : Int) (w : World) (v : Value) (l : List Int) (hv : Rds w v l) (hn : l.length ≤ 1048576) (hvl : Lies w.heap.size v l) (hr : 1 ≤ r ∧ r ≤ 30) (hl : okL l = true) :
    Calls Try.prog 24 #[.int .i64 r, v] w (RowPostN (smL r l (smoT r l)) (ms r l (smoT r l)) w) := by
  have H1 := wit_any w r 1 30
  have H3 := iOnl_any w v l 16 (by omega) hv hn
  rw [show (decide ((1 : Int) ≤ r) && decide (r ≤ 30)) = true from by simp; omega] at H1
  rw [okM_16, hl] at H3
  have HR := Lib.hid H1
  have HL := Lib.hid H3
  have hB0 : Que (w.alloc (.cells #[.int .i64 r, .int .i64 0, .int .i64 0] 58)) w.heap.size r 0 0 := Blk.new w _ _
  have hB1 : Below w.heap.size w (w.alloc (.cells #[.int .i64 r, .int .i64 0, .int .i64 0] 58)) := (Below.refl _ _).alloc (Nat.le_refl _) _
  have HG := Lib.hid (rgQ_any _ w.heap.size r v l hr hl hB0 (hv.below hB1 hvl) hvl)
  have HB1 := Lib.hid hB1
  clear H1 H3 hB0 hB1 hv hvl hl
  go_enter Try.func24, Try.ntmps24
  go_wp2_with fail
  refine HR.out.mono ?_
  rintro e w' ⟨rfl, rfl⟩
  go_wp2_with fail
  refine HL.out.mono ?_
  rintro e w' ⟨rfl, rfl⟩
  go_wp2_with fail
  refine HG.out.mono ?_
  rintro e w1 ⟨u, rfl, hu, hbk, hg1⟩
  have hB1 : Below w.heap.size w w1 := below_grown HB1.out hg1 (Nat.le_refl _) (by simp)
  have k2 := Blk.cell hbk 2
  simp at k2
  have HU := Lib.hid (OwnL.base hu (B' := w.heap.size) (by simp))
  have HB := Lib.hid hB1
  clear hu hbk hg1 hB1 HB1 HG
  generalize ms r l (smoT r l) = m at *
  go_wp2
  go_quiet (fail)
  go_wp2
  go_ret2
  exact rowPostN_mk rfl rfl (HU.out.drewN nq) (below_drewN HB.out nq)

theorem iSO_any (r : Int) (w : World) (v : Value) (l : List Int) (hv : Rds w v l) (hn : l.length ≤ 1048576) (hvl : Lies w.heap.size v l) :
    Calls Try.prog 24 #[.int .i64 r, v] w (RowPostN (smoL r l) (smoN r l) w) := by
  cases hb : smoB r l
  · rw [smoL_bad hb, smoN_bad hb]
    have H1 := wit_any w r 1 30
    have H3 := iOnl_any w v l 16 (by omega) hv hn
    rw [okM_16] at H3
    cases hr : (decide ((1 : Int) ≤ r) && decide (r ≤ 30))
    · rw [hr] at H1
      have HR := Lib.hid H1
      clear H1 H3 hr hb
      go_enter Try.func24, Try.ntmps24
      go_wp2_with fail
      refine HR.out.mono ?_
      rintro e w' ⟨rfl, rfl⟩
      go_wp2
      go_ret2
      exact rowPostN_mk rfl rfl (OwnL.nil _ _) (Below.refl _ _)
    · rw [hr] at H1
      have HR := Lib.hid H1
      have hl : okL l = false := by
        cases h : okL l
        · rfl
        · simp only [smoB, hr, h] at hb; cases hb
      rw [hl] at H3
      have HL := Lib.hid H3
      clear H1 H3 hr hb hl
      go_enter Try.func24, Try.ntmps24
      go_wp2_with fail
      refine HR.out.mono ?_
      rintro e w' ⟨rfl, rfl⟩
      go_wp2_with fail
      refine HL.out.mono ?_
      rintro e w' ⟨rfl, rfl⟩
      go_wp2
      go_ret2
      exact rowPostN_mk rfl rfl (OwnL.nil _ _) (Below.refl _ _)
  · obtain ⟨hr, hl⟩ := smoB_parts hb
    rw [smoL_ok hb, smoN_ok hb]
    exact iSO_ok r w v l hv hn hvl hr hl

set_option maxHeartbeats 3200000 in
theorem sSO_ok (r : Int) (w : World) (v : Value) (l : List Int) (hv : Rds w v l) (hn : l.length ≤ 1048576) (hr : 1 ≤ r ∧ r ≤ 30) (hl : okL l = true) :
    Calls Try.prog 23 #[.int .i64 r, v] w (RowPostN (smL r l (smoT r l)) (ms r l (smoT r l)) w) := by
  have H1 := inr_any w r 1 30
  have H3 := sVld_any w v l hv hn
  rw [show (decide ((1 : Int) ≤ r) && decide (r ≤ 30)) = true from by simp; omega] at H1
  rw [hl] at H3
  have HR := Lib.hid H1
  have HLD := Lib.hid H3
  have HL := Lib.hid hl
  obtain ⟨A, c, rfl, hA⟩ := hv
  have hlen := okL_len hl
  have HA := Lib.hid hA
  clear H1 H3 hl hA
  go_enter Try.func23, Try.ntmps23
  go_wp2_with fail
  refine HR.out.mono ?_
  rintro e w' ⟨rfl, rfl⟩
  go_wp2_with fail
  refine HLD.out.mono ?_
  rintro e w' ⟨rfl, rfl⟩
  go_wp2
  go_loopw [6, 7, 8, 9] (fun sv lv mv iv wr => ∃ k : Nat, iv = .int .i64 k ∧ lv = .int .i64 (lf r l k) ∧ mv = .int .i64 (ms r l k) ∧ OwnL wr w.heap.size sv (smL r l k) ∧ (∀ i, i < k → stopB r l i = false) ∧ Below w.heap.size w wr ∧ w.heap.size ≤ wr.heap.size) (fun _ _ _ iv _ => 600 - (intOf iv).toNat)
  case atStart => exact ⟨0, rfl, rfl, rfl, OwnL.empty _ _ (Nat.le_refl _), fun i hi => absurd hi (by omega), (Below.refl _ _).alloc (Nat.le_refl _) _, by simp⟩
  case round =>
    obtain ⟨k, rfl, rfl, rfl, hown, hst, hb, hz⟩ := hrel
    have hk5 := ticks_le hr.1 HL.out k hst
    have hbd := lf_bd hr.1 HL.out k
    have hbm := ms_bd hr.1 HL.out k
    have hbs := sm_bd hr.1 HL.out k
    have hx := lg_bd HL.out k
    have hlt2 := smL_len r l k
    obtain ⟨As, cs, rfl⟩ := hown.form
    cases hs : stopB r l k
    · have HSM := Lib.hid (stop_more hs hst)
      have HT := Lib.hid (smL_succ r l k)
      have HO := Lib.hid hown
      have HLF : Hid (lf r l (k + 1) = lf r l k + lg l k - sm r l k) := Lib.hid rfl
      have HMS : Hid (ms r l (k + 1) = max (ms r l k) (lf r l k + lg l k - sm r l k)) := Lib.hid rfl
      have hsm : sm r l k = min (lf r l k + lg l k) r := rfl
      have hge : l.length ≤ k → 0 < lf r l k := fun hge => by
        rcases (show lf r l k = 0 ∨ 0 < lf r l k from by omega) with h0 | h0
        · rw [stop_yes hge h0] at hs; cases hs
        · exact h0
      obtain ⟨M, hM⟩ : ∃ M, M = max (ms r l k) (lf r l k + lg l k - sm r l k) := ⟨_, rfl⟩
      have HM := Lib.hid hM
      have hmx := run_maxD _ _ M hM
      have hmn := run_minD _ _ _ hsm
      have hpast : l.length ≤ k → lg l k = 0 := fun h => lg_past h
      rw [hlt2] at HO
      rw [hlt2]
      by_cases hlt : k < l.length
      · obtain ⟨b, off, rfl, hat⟩ := HA.out (by omega)
        have hc1 := (hat.below hb hat.1).2 k hlt
        have hxe : l.getD k 0 = lg l k := rfl
        rw [hxe] at hc1
        clear hown hst hs hat hxe hsm hge hM hpast
        generalize sm r l k = y at *
        generalize lf r l k = t at *
        generalize ms r l k = m at *
        generalize lg l k = x at *
        go_wp2_with (at_builtin; refine append_oneI rfl (.tmp 49) (.tmp 51) rfl w.heap.size _ (smL r l k) y rfl rfl HO.out (by omega) hz ?_; intro A9 c9 w9 ho9 hg9 hb9 hz9)
        go_roundw
        case rel => exact ⟨k + 1, by go_num, by rw [HLF.out], by rw [HMS.out, ← HM.out], by rw [HT.out]; rw [hlt2] at ho9; exact ho9, HSM.out, hb.trans (hb9.mono (by omega)), by omega⟩
        case measure => simp [intOf]; omega
      · have h0 := hge (by omega)
        have hx0 := hpast (by omega)
        rw [hx0, Int.add_zero] at hmn hmx
        rw [hx0, Int.add_zero] at HLF HMS HM
        rw [hx0] at hbs
        clear hown hst hs hsm hge hM hpast hx hx0
        generalize sm r l k = y at *
        generalize lf r l k = t at *
        generalize ms r l k = m at *
        go_wp2_with (at_builtin; refine append_oneI rfl (.tmp 49) (.tmp 51) rfl w.heap.size _ (smL r l k) y rfl rfl HO.out (by omega) hz ?_; intro A9 c9 w9 ho9 hg9 hb9 hz9)
        go_roundw
        case rel => exact ⟨k + 1, by go_num, by rw [HLF.out], by rw [HMS.out, ← HM.out], by rw [HT.out]; rw [hlt2] at ho9; exact ho9, HSM.out, hb.trans (hb9.mono (by omega)), by omega⟩
        case measure => simp [intOf]; omega
    · obtain ⟨h1, h2⟩ := stop_len hs
      have HT : Hid (smoT r l = k) := Lib.hid (smoT_is hk5 hs hst)
      have HO := Lib.hid hown
      have hnl : ¬ k < l.length := by omega
      rw [h2]
      clear hown hst hs h2 hbd hbm hbs hx
      go_wp2
      go_ret2
      exact rowPostN_mk (by rw [HT.out]) (by rw [HT.out]) HO.out hb
theorem sSO_any (r : Int) (w : World) (v : Value) (l : List Int) (hv : Rds w v l) (hn : l.length ≤ 1048576) :
    Calls Try.prog 23 #[.int .i64 r, v] w (RowPostN (smoL r l) (smoN r l) w) := by
  cases hb : smoB r l
  · rw [smoL_bad hb, smoN_bad hb]
    have H1 := inr_any w r 1 30
    have H3 := sVld_any w v l hv hn
    cases hr : (decide ((1 : Int) ≤ r) && decide (r ≤ 30))
    · rw [hr] at H1
      have HR := Lib.hid H1
      clear H1 H3 hr hb
      go_enter Try.func23, Try.ntmps23
      go_wp2_with fail
      refine HR.out.mono ?_
      rintro e w' ⟨rfl, rfl⟩
      go_wp2
      go_ret2
      exact rowPostN_mk rfl rfl (OwnL.nil _ _) (Below.refl _ _)
    · rw [hr] at H1
      have HR := Lib.hid H1
      have hl : okL l = false := by
        cases h : okL l
        · rfl
        · simp only [smoB, hr, h] at hb; cases hb
      rw [hl] at H3
      have HL := Lib.hid H3
      clear H1 H3 hr hb hl
      go_enter Try.func23, Try.ntmps23
      go_wp2_with fail
      refine HR.out.mono ?_
      rintro e w' ⟨rfl, rfl⟩
      go_wp2_with fail
      refine HL.out.mono ?_
      rintro e w' ⟨rfl, rfl⟩
      go_wp2
      go_ret2
      exact rowPostN_mk rfl rfl (OwnL.nil _ _) (Below.refl _ _)
  · obtain ⟨hr, hl⟩ := smoB_parts hb
    rw [smoL_ok hb, smoN_ok hb]
    exact sSO_ok r w v l hv hn hr hl
end Go.Proofs.Yteifojanklggmaa
