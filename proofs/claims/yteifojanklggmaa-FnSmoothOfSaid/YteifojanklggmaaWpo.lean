/-
  The walks of both functions PassesOf. Conditions: where the lists lie, and the lengths that are typed.
-/
import Derived.Test.YteifojanklggmaaWrg
import Derived.Test.YteifojanklggmaaWvd
namespace Go.Proofs.Yteifojanklggmaa
open Go.RowKit
set_option linter.unusedVariables false

set_option maxHeartbeats 1600000 in
theorem sps_any (w : World) (r d : Int) (v : Value) (l : List Int) (hr : 0 ≤ r ∧ r ≤ 30) (hd : 0 ≤ d ∧ d ≤ 200) (hl : okL l = true) (hv : Rds w v l) :
    Calls Try.prog 31 #[.int .i64 r, .int .i64 d, v] w (ZowPostN (bkL r d l l.length) (hh r d l l.length) w) := by
  obtain ⟨A, c, rfl, hA⟩ := hv
  have hlen := okL_len hl
  have HA := Lib.hid hA
  have HL := Lib.hid hl
  clear hA hl
  go_enter Try.func31, Try.ntmps31
  go_wp2
  go_loopw [8, 9, 10] (fun sv lv iv wr => ∃ k : Nat, k ≤ l.length ∧ iv = .int .i64 k ∧ lv = .int .i64 (hh r d l k) ∧ OwnZ wr w.heap.size sv (bkL r d l k) ∧ Below w.heap.size w wr ∧ w.heap.size ≤ wr.heap.size) (fun _ _ iv _ => l.length - (intOf iv).toNat)
  case atStart => exact ⟨0, Nat.zero_le _, rfl, rfl, OwnZ.empty _ _ (Nat.le_refl _), (Below.refl _ _).alloc (Nat.le_refl _) _, by simp⟩
  case round =>
    obtain ⟨k, hk, rfl, rfl, hown, hb, hz⟩ := hrel
    by_cases hlt : k < l.length
    · obtain ⟨b, off, rfl, hat⟩ := HA.out (by omega)
      have hc1 := (hat.below hb hat.1).2 k hlt
      have hx := lg_bd HL.out k
      have hxe : l.getD k 0 = lg l k := rfl
      rw [hxe] at hc1
      have hbd := hh_bd hr.1 hd.1 HL.out k
      obtain ⟨As, cs, rfl⟩ := hown.form
      have HO := Lib.hid hown
      have HT := Lib.hid (bkL_succ r d l k)
      have hlt2 := bkL_len r d l k
      obtain ⟨M, hM⟩ : ∃ M, M = min (hh r d l k + r) d := ⟨_, rfl⟩
      have hMb : 0 ≤ M ∧ M ≤ 200 := by omega
      have hF : flag r d l k = decide (lg l k ≤ M) := by rw [hM]; rfl
      have hH : hh r d l (k + 1) = if lg l k ≤ M then M - lg l k else M := by rw [hM]; rfl
      have hmn := run_minD d (hh r d l k + r) M (by omega)
      have hk00 : k = 0 → hh r d l k = M := by
        intro h0
        rw [h0] at hM ⊢
        show d = M
        rw [hM]; show d = min (d + r) d; omega
      rw [hlt2] at HO
      rw [hlt2]
      have HF := Lib.hid hF
      have HH := Lib.hid hH
      clear hown hat hxe hM hF hH
      generalize flag r d l k = fl at *
      generalize hh r d l k = h at *
      generalize lg l k = x at *
      have HK := fun e => Lib.hid (hk00 e)
      clear hk00
      by_cases hp : x ≤ M
      · have e1 := HF.out.trans (decide_eq_true hp)
        have e2 := HH.out.trans (if_pos hp)
        have E1 := Lib.hid e1
        have E2 := Lib.hid e2
        have hpd : decide (x ≤ M) = true := decide_eq_true hp
        clear e1 e2 HF HH
        rcases (show k = 0 ∨ 0 < k from by omega) with h0 | h0
        · obtain rfl := (HK h0).out
          have q0 : decide ((0 : Int) < (k : Int)) = false := by simp; omega
          have q1 : decide (0 < k) = false := by simp; omega
          clear HK h0
          go_wp2_with (at_builtin; refine append_oneZ rfl (.tmp 40) (.tmp 42) rfl w.heap.size _ (bkL r d l k) true rfl rfl HO.out (by omega) hz ?_; intro A9 c9 w9 ho9 hg9 hb9 hz9)
          go_roundw
          case rel => exact ⟨k + 1, by omega, by go_num, by rw [E2.out], by rw [HT.out, E1.out]; rw [hlt2] at ho9; exact ho9, hb.trans (hb9.mono (by omega)), by omega⟩
          case measure => simp [intOf]; omega
        · clear HK
          go_wp2_with (at_builtin; refine append_oneZ rfl (.tmp 40) (.tmp 42) rfl w.heap.size _ (bkL r d l k) true rfl rfl HO.out (by omega) hz ?_; intro A9 c9 w9 ho9 hg9 hb9 hz9)
          go_roundw
          case rel => exact ⟨k + 1, by omega, by go_num, by rw [E2.out], by rw [HT.out, E1.out]; rw [hlt2] at ho9; exact ho9, hb.trans (hb9.mono (by omega)), by omega⟩
          case measure => simp [intOf]; omega
      · have e1 := HF.out.trans (decide_eq_false hp)
        have e2 := HH.out.trans (if_neg hp)
        have E1 := Lib.hid e1
        have E2 := Lib.hid e2
        have hpd : decide (x ≤ M) = false := decide_eq_false hp
        clear e1 e2 HF HH
        rcases (show k = 0 ∨ 0 < k from by omega) with h0 | h0
        · obtain rfl := (HK h0).out
          have q0 : decide ((0 : Int) < (k : Int)) = false := by simp; omega
          have q1 : decide (0 < k) = false := by simp; omega
          clear HK h0
          go_wp2_with (at_builtin; refine append_oneZ rfl (.tmp 40) (.tmp 42) rfl w.heap.size _ (bkL r d l k) false rfl rfl HO.out (by omega) hz ?_; intro A9 c9 w9 ho9 hg9 hb9 hz9)
          go_roundw
          case rel => exact ⟨k + 1, by omega, by go_num, by rw [E2.out], by rw [HT.out, E1.out]; rw [hlt2] at ho9; exact ho9, hb.trans (hb9.mono (by omega)), by omega⟩
          case measure => simp [intOf]; omega
        · clear HK
          go_wp2_with (at_builtin; refine append_oneZ rfl (.tmp 40) (.tmp 42) rfl w.heap.size _ (bkL r d l k) false rfl rfl HO.out (by omega) hz ?_; intro A9 c9 w9 ho9 hg9 hb9 hz9)
          go_roundw
          case rel => exact ⟨k + 1, by omega, by go_num, by rw [E2.out], by rw [HT.out, E1.out]; rw [hlt2] at ho9; exact ho9, hb.trans (hb9.mono (by omega)), by omega⟩
          case measure => simp [intOf]; omega
    · obtain rfl : k = l.length := by omega
      go_wp2
      go_ret2
      exact ⟨_, rfl, hown, hb⟩

theorem bokL_bad {r d : Int} {l : List Int} (h : bokB r d l = false) : bokL r d l = [] := by simp [bokL, h]
theorem bokN_bad {r d : Int} {l : List Int} (h : bokB r d l = false) : bokN r d l = -1 := by simp [bokN, h]
theorem bokL_ok {r d : Int} {l : List Int} (h : bokB r d l = true) : bokL r d l = bkL r d l l.length := by simp [bokL, h]
theorem bokN_ok {r d : Int} {l : List Int} (h : bokB r d l = true) : bokN r d l = hh r d l l.length := by simp [bokN, h]

set_option maxHeartbeats 1600000 in
theorem sPO_any (r d : Int) (w : World) (v : Value) (l : List Int) (hv : Rds w v l) (hn : l.length ≤ 1048576) :
    Calls Try.prog 9 #[.int .i64 r, .int .i64 d, v] w (ZowPostN (bokL r d l) (bokN r d l) w) := by
  have H1 := sVbk_any w r d
  have H2 := sVld_any w v l hv hn
  cases hrd : (rateB r && depB d)
  · have hb : bokB r d l = false := by simp [bokB, hrd]
    rw [bokL_bad hb, bokN_bad hb]
    rw [hrd] at H1
    have HR := Lib.hid H1
    clear H1 H2 hrd hb
    go_enter Try.func9, Try.ntmps9
    go_wp2_with fail
    refine HR.out.mono ?_
    rintro e w' ⟨rfl, rfl⟩
    go_wp2
    go_ret2
    exact zowPostN_mk rfl rfl (OwnZ.nil _ _) (Below.refl _ _)
  · rw [hrd] at H1
    have HR := Lib.hid H1
    cases hl : okL l
    · have hb : bokB r d l = false := by simp [bokB, hl]
      rw [bokL_bad hb, bokN_bad hb]
      rw [hl] at H2
      have HD := Lib.hid H2
      clear H1 H2 hrd hb hl
      go_enter Try.func9, Try.ntmps9
      go_wp2_with fail
      refine HR.out.mono ?_
      rintro e w' ⟨rfl, rfl⟩
      go_wp2_with fail
      refine HD.out.mono ?_
      rintro e w' ⟨rfl, rfl⟩
      go_wp2
      go_ret2
      exact zowPostN_mk rfl rfl (OwnZ.nil _ _) (Below.refl _ _)
    · have hb : bokB r d l = true := by simp only [bokB, hrd, hl]; rfl
      obtain ⟨hr, hd, _⟩ := bok_parts hb
      rw [bokL_ok hb, bokN_ok hb]
      have H3 := Lib.hid (sps_any w r d v l hr hd hl hv)
      rw [hl] at H2
      have HD := Lib.hid H2
      clear H1 H2 hrd hb hl
      go_enter Try.func9, Try.ntmps9
      go_wp2_with fail
      refine HR.out.mono ?_
      rintro e w' ⟨rfl, rfl⟩
      go_wp2_with fail
      refine HD.out.mono ?_
      rintro e w' ⟨rfl, rfl⟩
      go_wp2_with fail
      refine H3.out.mono ?_
      rintro e w1 ⟨u, rfl, hu, hb1⟩
      go_wp2
      go_ret2
      exact zowPostN_mk rfl rfl hu hb1

set_option maxHeartbeats 3200000 in
theorem iPO_ok (r d : Int) (w : World) (v : Value) (l : List Int) (hv : Rds w v l) (hn : l.length ≤ 1048576) (hvl : Lies w.heap.size v l) (hr : 0 ≤ r ∧ r ≤ 30) (hd : 0 ≤ d ∧ d ≤ 200) (hl : okL l = true) :
    Calls Try.prog 11 #[.int .i64 r, .int .i64 d, v] w (ZowPostN (bkL r d l l.length) (hh r d l l.length) w) := by
  have H1 := wit_any w r 0 30
  have H2 := wit_any w d 0 200
  have H3 := iOnl_any w v l 16 (by omega) hv hn
  rw [show (decide ((0 : Int) ≤ r) && decide (r ≤ 30)) = true from by simp; omega] at H1
  rw [show (decide ((0 : Int) ≤ d) && decide (d ≤ 200)) = true from by simp; omega] at H2
  rw [okM_16, hl] at H3
  have HR := Lib.hid H1
  have HD := Lib.hid H2
  have HL := Lib.hid H3
  have hlen := okL_len hl
  have HO := Lib.hid hl
  have HV := Lib.hid hv
  have HVL := Lib.hid hvl
  clear H1 H2 H3 hl hv hvl
  have hB0 : Bkt (w.alloc (.cells #[.int .i64 r, .int .i64 d, .int .i64 d] 51)) w.heap.size r d d := Blk.new w _ _
  have hB1 : Below w.heap.size w (w.alloc (.cells #[.int .i64 r, .int .i64 d, .int .i64 d] 51)) := (Below.refl _ _).alloc (Nat.le_refl _) _
  have HG := Lib.hid (rgB_any _ w.heap.size r d v l hr hd HO.out hB0 (HV.out.below hB1 HVL.out) HVL.out)
  have HB1 := Lib.hid hB1
  clear hB0 hB1
  go_enter Try.func11, Try.ntmps11
  go_wp2_with fail
  refine HR.out.mono ?_
  rintro e w' ⟨rfl, rfl⟩
  go_wp2_with fail
  refine HD.out.mono ?_
  rintro e w' ⟨rfl, rfl⟩
  go_wp2_with fail
  refine HL.out.mono ?_
  rintro e w' ⟨rfl, rfl⟩
  go_wp2_with fail
  refine HG.out.mono ?_
  rintro e w1 ⟨u, rfl, hu, hbk, hg1⟩
  have hB1 : Below w.heap.size w w1 := below_grown HB1.out hg1 (Nat.le_refl _) (by simp)
  have hz1 : w.heap.size < w1.heap.size := Blk.lt hbk
  have HBK := Lib.hid hbk
  have HBL := Lib.hid hB1
  have HV1 := Lib.hid (HV.out.below hB1 HVL.out)
  have HU := Lib.hid hu.rds
  have HUL : Hid (Lies w1.heap.size u (thrL r d l l.length)) := Lib.hid (own_lies hu)
  have hlt1 := thrL_len r d l l.length
  obtain ⟨Au, cu, rfl⟩ := hu.form
  obtain ⟨A, c, rfl⟩ : ∃ A c, v = .slice A l.length c := by obtain ⟨A, c, h, _⟩ := HV.out; exact ⟨A, c, h⟩
  rw [hlt1]
  rw [hlt1] at HU HUL
  clear hu hbk hg1 hB1 HB1 HG HR HD HL
  go_wp2
  go_loopw [9, 35] (fun sv iv wr => ∃ k : Nat, k ≤ l.length ∧ iv = .int .i64 k ∧ OwnZ wr w1.heap.size sv (bkL r d l k) ∧ Below w1.heap.size w1 wr ∧ w1.heap.size ≤ wr.heap.size) (fun _ iv _ => l.length - (intOf iv).toNat)
  case atStart => exact ⟨0, Nat.zero_le _, rfl, OwnZ.nil _ _, Below.refl _ _, Nat.le_refl _⟩
  case round =>
    obtain ⟨k, hk, rfl, hown, hb, hz⟩ := hrel
    by_cases hlt : k < l.length
    · obtain ⟨b, off, hA, hat⟩ : ∃ b off, A = some ⟨b, off, none⟩ ∧ At w1 b off l := by
        obtain ⟨A', c', hv', h1'⟩ := HV1.out
        cases hv'
        exact h1' (by omega)
      obtain ⟨b2, off2, hA2, hat2⟩ : ∃ b off, Au = some ⟨b, off, none⟩ ∧ At w1 b off (thrL r d l l.length) := by
        obtain ⟨A', c', hv', h1'⟩ := HU.out
        injection hv' with e1 e2 e3
        subst e1
        exact h1' (by omega)
      subst hA
      subst hA2
      have hc1 := (hat.below hb hat.1).2 k hlt
      have hc2 := (hat2.below hb hat2.1).2 k (by omega)
      rw [thrL_get r d l l.length k hlt] at hc2
      have hxe : l.getD k 0 = lg l k := rfl
      rw [hxe] at hc1
      have hfl := thr_flag hr.1 hd.1 HO.out k
      obtain ⟨As, cs, rfl⟩ := hown.form
      have HOW := Lib.hid hown
      have HT := Lib.hid (bkL_succ r d l k)
      have hlt2 := bkL_len r d l k
      rw [hlt2] at HOW
      rw [hlt2]
      clear hown hat hat2 hxe
      generalize flag r d l k = fl at *
      generalize thr r d l k = y at *
      generalize lg l k = x at *
      go_wp2_with (at_builtin; refine append_oneZ rfl (.tmp 40) (.tmp 47) rfl w1.heap.size _ (bkL r d l k) fl rfl rfl HOW.out (by omega) hz ?_; intro A9 c9 w9 ho9 hg9 hb9 hz9)
      go_roundw
      case rel => exact ⟨k + 1, by omega, by go_num, by rw [HT.out]; rw [hlt2] at ho9; exact ho9, hb.trans (hb9.mono (by omega)), by omega⟩
      case measure => simp [intOf]; omega
    · obtain rfl : k = l.length := by omega
      have hbk2 := Blk.below HBK.out hb hz1
      have k2 := Blk.cell hbk2 2
      simp at k2
      have HOW := Lib.hid (OwnZ.base hown (B' := w.heap.size) (by omega))
      have HBF := Lib.hid (HBL.out.trans (hb.mono (by omega)))
      clear hown hb hbk2
      go_wp2
      go_quiet (fail)
      go_wp2
      go_ret2
      exact zowPostN_mk rfl rfl (HOW.out.drewN nq) (below_drewN HBF.out nq)

theorem iPO_any (r d : Int) (w : World) (v : Value) (l : List Int) (hv : Rds w v l) (hn : l.length ≤ 1048576) (hvl : Lies w.heap.size v l) :
    Calls Try.prog 11 #[.int .i64 r, .int .i64 d, v] w (ZowPostN (bokL r d l) (bokN r d l) w) := by
  cases hb : bokB r d l
  · rw [bokL_bad hb, bokN_bad hb]
    have H1 := wit_any w r 0 30
    have H2 := wit_any w d 0 200
    have H3 := iOnl_any w v l 16 (by omega) hv hn
    rw [okM_16] at H3
    rw [show (decide ((0 : Int) ≤ r) && decide (r ≤ 30)) = rateB r from rfl] at H1
    rw [show (decide ((0 : Int) ≤ d) && decide (d ≤ 200)) = depB d from rfl] at H2
    cases hr : rateB r
    · rw [hr] at H1
      have HR := Lib.hid H1
      clear H1 H2 H3 hr hb
      go_enter Try.func11, Try.ntmps11
      go_wp2_with fail
      refine HR.out.mono ?_
      rintro e w' ⟨rfl, rfl⟩
      go_wp2
      go_ret2
      exact zowPostN_mk rfl rfl (OwnZ.nil _ _) (Below.refl _ _)
    · rw [hr] at H1
      have HR := Lib.hid H1
      cases hd : depB d
      · rw [hd] at H2
        have HD := Lib.hid H2
        clear H1 H2 H3 hr hb hd
        go_enter Try.func11, Try.ntmps11
        go_wp2_with fail
        refine HR.out.mono ?_
        rintro e w' ⟨rfl, rfl⟩
        go_wp2_with fail
        refine HD.out.mono ?_
        rintro e w' ⟨rfl, rfl⟩
        go_wp2
        go_ret2
        exact zowPostN_mk rfl rfl (OwnZ.nil _ _) (Below.refl _ _)
      · rw [hd] at H2
        have HD := Lib.hid H2
        have hl : okL l = false := by
          cases h : okL l
          · rfl
          · simp [bokB, hr, hd, h] at hb
        rw [hl] at H3
        have HL := Lib.hid H3
        clear H1 H2 H3 hr hb hd hl
        go_enter Try.func11, Try.ntmps11
        go_wp2_with fail
        refine HR.out.mono ?_
        rintro e w' ⟨rfl, rfl⟩
        go_wp2_with fail
        refine HD.out.mono ?_
        rintro e w' ⟨rfl, rfl⟩
        go_wp2_with fail
        refine HL.out.mono ?_
        rintro e w' ⟨rfl, rfl⟩
        go_wp2
        go_ret2
        exact zowPostN_mk rfl rfl (OwnZ.nil _ _) (Below.refl _ _)
  · obtain ⟨hr, hd, hl⟩ := bok_parts hb
    rw [bokL_ok hb, bokN_ok hb]
    exact iPO_ok r d w v l hv hn hvl hr hd hl

theorem Rds.lies {w : World} {v : Value} {l : List Int} (h : Rds w v l) : Lies w.heap.size v l := by
  obtain ⟨A, c, rfl, h1⟩ := h
  intro h0 g hg
  obtain ⟨b, off, rfl, hat⟩ := h1 h0
  have e : b = g := by simpa [Value.ownBlock] using hg
  subst e; exact hat.1
end Go.Proofs.Yteifojanklggmaa
