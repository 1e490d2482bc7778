/-
  The walk of the law FnBlindOf: it returns true at every code. No condition but that the code is a list that can be.
-/
import Derived.Test.YtpneopldbeefhaaWbs
import Derived.Test.YtpneopldbeefhaaWbi
import Derived.Test.YtpneopldbeefhaaWpl
import Derived.Test.YtpneopldbeefhaaWdraw
namespace Go.Proofs.Ytpneopldbeefhaa
open Go.RowKit
set_option linter.unusedVariables false

def lens : List Int := [8, 10, 12, 15, 20, 4, 21, 0]
set_option maxHeartbeats 800000 in
theorem dbl_any (w : World) (a : Option Addr) (len cap : Nat) (zs : List Int) (h : IsRow .u8 w a len cap zs) :
    Calls Try.prog 14 #[.slice a len cap] w fun e w' => ∃ (t : ByteArray) (z : Int), e = .returned (.tuple #[.string t, .int .i64 z]) ∧ t.size ≤ 10 ∧ Below w.heap.size w w' := by
  have H := Lib.hid (nr_any w a len cap zs h)
  clear h
  go_enter Try.func14, Try.ntmps14
  go_wp2_with fail
  refine H.out.mono ?_
  rintro e w1 ⟨rfl, hr, hb, hz⟩
  have HR := Lib.hid hr
  clear H hz hr
  go_wp2_with fail
  refine (apo_any HR.out (by omega)).mono ?_
  rintro e w2 ⟨t, p', rfl, ht, hr2, hp2, hb2⟩
  have hbs := hb.trans hb2
  have hgl := hr2.lt
  have HR2 := Lib.hid hr2
  clear hr2 hb hb2 HR
  go_wp2_with fail
  refine (one_any (HR2.out.alloc _) (by omega) w2.heap.size 8 8 lens rfl (by omega) (by omega) (by omega) (new_ints w2 lens _)).mono ?_
  rintro e w3 ⟨x, m2, rfl, hx, hw3⟩
  have hb3 : Below w.heap.size w w3 := by rw [hw3]; exact (hbs.alloc hbs.size _).trans (picked_below (HR2.out.alloc _) m2)
  clear hw3 hx
  go_wp2
  go_ret2
  exact ⟨t, x, rfl, ht, hb3⟩

theorem cyc_one {Q : List Bool} {K J : Nat} (h : IsCyc Q K) (g : IsCyc Q J) : K = J := by
  rcases Nat.lt_trichotomy K J with hl | hl | hl
  · exact absurd h.2.1 (g.2.2 K h.1 hl)
  · exact hl
  · exact absurd g.2.1 (h.2.2 J g.1 hl)
theorem innL_step (K a b : Nat) : innL K a b <+: innL K a (b + 1) := by
  by_cases h : bt K a b = true
  · by_cases hab : a < b
    · rw [innL_yes hab h]; exact List.prefix_append _ _
    · have e : innL K a (b + 1) = innL K a b := by simp [innL, List.range_succ, List.filter_append, hab]
      rw [e]
      exact List.prefix_rfl
  · rw [innL_no (by simpa using h)]; exact List.prefix_rfl
theorem innL_pre (K a b : Nat) : ∀ k, innL K a b <+: innL K a (b + k)
  | 0 => List.prefix_rfl
  | k + 1 => (innL_pre K a b k).trans (innL_step K a (b + k))
theorem outL_pre (K n a : Nat) : ∀ k, outL K n a <+: outL K n (a + k)
  | 0 => List.prefix_rfl
  | k + 1 => (outL_pre K n a k).trans (List.prefix_append _ _)
theorem at_pair {K n a b : Nat} (ha : a < n) (hab : a < b) (hb : b < n) (h : bt K a b = true) :
    (outL K n a ++ innL K a b).length < (outL K n n).length ∧ (outL K n n).getD (outL K n a ++ innL K a b).length (0, 0) = ((a : Int), (b : Int)) := by
  have h1 : outL K n a ++ innL K a (b + 1) <+: outL K n n := by
    have e1 := outL_pre K n (a + 1) (n - (a + 1))
    rw [show a + 1 + (n - (a + 1)) = n from by omega, outL] at e1
    have e2 := innL_pre K a (b + 1) (n - (b + 1))
    rw [show b + 1 + (n - (b + 1)) = n from by omega] at e2
    obtain ⟨t, ht⟩ := e2
    refine List.IsPrefix.trans ⟨t, ?_⟩ e1
    rw [List.append_assoc, ht]
  rw [innL_yes hab h, ← List.append_assoc] at h1
  obtain ⟨t, ht⟩ := h1
  rw [← ht]
  generalize outL K n a ++ innL K a b = M
  simp [List.getD_eq_getElem?_getD]
theorem bt_int {K a b : Nat} (hab : a < b) : (((b : Int) - (a : Int)) % (K : Int) = 0) ↔ bt K a b = true := by
  unfold bt
  rw [show (b : Int) - (a : Int) = ((b - a : Nat) : Int) from by omega, decide_eq_true_iff]
  omega

set_option maxHeartbeats 6400000 in
theorem fnBlindOf_walk (a : Option Addr) (len cap : Nat) (zs : List Int) (w : World) (h : IsRow .u8 w a len cap zs) :
    Calls Try.prog 5 #[.slice a len cap] w fun e w' => e = .returned (.bool true) ∧ Below w.heap.size w w' := by
  by_cases hg : (1048576 : Int) < (len : Int)
  · go_enter Try.func5, Try.ntmps5
    go_wp2_with fail
    go_ret
    exact ⟨rfl, Below.refl _ _⟩
  · have H := Lib.hid (dbl_any w a len cap zs h)
    clear h
    go_enter Try.func5, Try.ntmps5
    go_wp2_with fail
    refine H.out.mono ?_
    rintro e w0 ⟨t, z, rfl, ht, hb0⟩
    obtain ⟨L, hx, hL⟩ := bliR_some t.data.toList z
    have H1 := Lib.hid (fun W => sBL_any t z L W (by omega) hx)
    have H2 := Lib.hid (fun W => iBL_any t z L W (by omega) hx)
    have hvp := fun W => iVP_any t W (by unfold maxLen; omega)
    have hpl0 : t.data.toList.length = t.size := by simp
    have HX := Lib.hid hx
    have HB0 := Lib.hid hb0
    clear H hb0 hx
    go_wp2_with fail
    refine (H2.out _).mono ?_
    rintro e w1 ⟨v1, rfl, hlr1, hb1⟩
    have hb01 := HB0.out.trans (hb1.mono HB0.out.size)
    have HLR1 := Lib.hid hlr1
    have HB1 := Lib.hid hb01
    clear hlr1 hb1 hb01 HB0
    go_wp2_with fail
    refine (H1.out _).mono ?_
    rintro e w2 ⟨v2, rfl, hlr2, hb2⟩
    obtain ⟨gs1, hl1, hp1⟩ := HLR1.out.below hb2
    obtain ⟨gs2, hl2, hp2⟩ := hlr2
    have heq := eqLL_any w2 _ _ v1 v2 gs1 gs2 _ hp1 hp2 (by omega) (by omega)
    have hb02 := HB1.out.trans (hb2.mono HB1.out.size)
    have HEQ := Lib.hid heq
    have HP1 := Lib.hid hp1
    have HB2 := Lib.hid hb02
    have HBW := Lib.hid hb2
    have hgn : gs1.length ≤ 420 := by omega
    have HGL := Lib.hid hl1
    clear heq hp1 hp2 hb02 hl1 hl2 hb2
    go_wp2_with fail
    refine HEQ.out.mono ?_
    rintro e w3 ⟨rfl, m3, rfl⟩
    have hb03 := below_drewN HB2.out m3
    have hp3 := HP1.out.drewN m3
    generalize w2.drewN m3 = w3 at *
    have HP3 := Lib.hid hp3
    have HB3 := Lib.hid hb03
    clear hp3 hb03 HP1 HB2 HEQ HBW HLR1 HB1
    rcases HX.out with ⟨hv, rfl⟩ | ⟨hv, hz, rfl⟩ | ⟨Q, K, n, hQ, hq1, hq2, hq3, hc, rfl, hqn, hn, rfl⟩
    · rw [hv] at hvp
      have HVP := Lib.hid (hvp w3)
      clear hvp HX
      go_wp2_with fail
      refine HVP.out.mono ?_
      rintro e w4 ⟨rfl, hb4⟩
      have hb04 := HB3.out.trans (hb4.mono HB3.out.size)
      have hp4 := HP3.out.below hb4
      have HP4 := Lib.hid hp4
      have HB4 := Lib.hid hb04
      clear hp4 hb04 hb4 HP3 HB3 HVP
      go_wp2_with fail
      refine (H1.out _).mono ?_
      rintro e w5 ⟨v5, rfl, hlr5, hb5⟩
      obtain ⟨gs5, hl5, hp5⟩ := hlr5
      have hp45 := HP4.out.below hb5
      have heq := eqLL_any w5 _ _ v1 v5 gs1 gs5 _ hp45 hp5 (by have := HGL.out; omega) (by omega)
      have HB5 := Lib.hid (HB4.out.trans (hb5.mono HB4.out.size))
      have HEQ := Lib.hid heq
      clear heq hp45 hp5 hb5 HP4 HB4
      go_wp2_with fail
      refine HEQ.out.mono ?_
      rintro e w6 ⟨rfl, m6, rfl⟩
      go_wp2
      go_ret
      exact ⟨rfl, below_drewN HB5.out m6⟩
    · rw [hv] at hvp
      rw [hpl0] at hz
      by_cases hlo : z < (t.size : Int) - 1
      · have hlod : decide (z < (t.size : Int) - 1) = true := by simpa using hlo
        clear hz
        have HVP := Lib.hid (hvp w3)
        clear hvp HX
        go_wp2_with fail
        refine HVP.out.mono ?_
        rintro e w4 ⟨rfl, hb4⟩
        have hb04 := HB3.out.trans (hb4.mono HB3.out.size)
        have hp4 := HP3.out.below hb4
        have HP4 := Lib.hid hp4
        have HB4 := Lib.hid hb04
        clear hp4 hb04 hb4 HP3 HB3 HVP
        go_wp2_with fail
        refine (H1.out _).mono ?_
        rintro e w5 ⟨v5, rfl, hlr5, hb5⟩
        obtain ⟨gs5, hl5, hp5⟩ := hlr5
        have hp45 := HP4.out.below hb5
        have heq := eqLL_any w5 _ _ v1 v5 gs1 gs5 _ hp45 hp5 (by have := HGL.out; omega) (by omega)
        have HB5 := Lib.hid (HB4.out.trans (hb5.mono HB4.out.size))
        have HEQ := Lib.hid heq
        clear heq hp45 hp5 hb5 HP4 HB4
        go_wp2_with fail
        refine HEQ.out.mono ?_
        rintro e w6 ⟨rfl, m6, rfl⟩
        go_wp2
        go_ret
        exact ⟨rfl, below_drewN HB5.out m6⟩
      · have hlod : decide (z < (t.size : Int) - 1) = false := by simpa using hlo
        have hhi : (20 : Int) < z := by omega
        have hhid : decide ((20 : Int) < z) = true := by simpa using hhi
        clear hz
        have HVP := Lib.hid (hvp w3)
        clear hvp HX
        go_wp2_with fail
        refine HVP.out.mono ?_
        rintro e w4 ⟨rfl, hb4⟩
        have hb04 := HB3.out.trans (hb4.mono HB3.out.size)
        have hp4 := HP3.out.below hb4
        have HP4 := Lib.hid hp4
        have HB4 := Lib.hid hb04
        clear hp4 hb04 hb4 HP3 HB3 HVP
        go_wp2_with fail
        refine (H1.out _).mono ?_
        rintro e w5 ⟨v5, rfl, hlr5, hb5⟩
        obtain ⟨gs5, hl5, hp5⟩ := hlr5
        have hp45 := HP4.out.below hb5
        have heq := eqLL_any w5 _ _ v1 v5 gs1 gs5 _ hp45 hp5 (by have := HGL.out; omega) (by omega)
        have HB5 := Lib.hid (HB4.out.trans (hb5.mono HB4.out.size))
        have HEQ := Lib.hid heq
        clear heq hp45 hp5 hb5 HP4 HB4
        go_wp2_with fail
        refine HEQ.out.mono ?_
        rintro e w6 ⟨rfl, m6, rfl⟩
        go_wp2
        go_ret
        exact ⟨rfl, below_drewN HB5.out m6⟩
    · skip
      have hv : polyB t.data.toList = true := by rw [hQ]; exact polyB_mk hq1 hq2 hq3
      have hpl : t.size = Q.length + 1 := by rw [← hpl0, hQ, txt_len]; rfl
      obtain ⟨J, hJ, hcJ⟩ := cyc_some Q hq1 hq2 hq3
      have hKJ := cyc_one hc hcJ
      have hcy := fun W => iCY_any t (K : Int) W (by omega) (.inr ⟨Q, K, hQ, hq1, hq2, hq3, hc, by omega, rfl⟩)
      have hK1 := hc.1
      have hK2 : K ≤ 256 := by omega
      have hlo : ¬ (n : Int) < (t.size : Int) - 1 := by omega
      have hlod : decide ((n : Int) < (t.size : Int) - 1) = false := by simpa using hlo
      have hhi : ¬ (20 : Int) < (n : Int) := by omega
      have hhid : decide ((20 : Int) < (n : Int)) = false := by simpa using hhi
      rw [hv] at hvp
      have HVP := Lib.hid (hvp w3)
      have HCY := Lib.hid hcy
      clear hvp HX hv hQ hpl hpl0 hc hcJ hKJ hJ hcy
      go_wp2_with fail
      refine HVP.out.mono ?_
      rintro e w4 ⟨rfl, hb4⟩
      have hb04 := HB3.out.trans (hb4.mono HB3.out.size)
      have hp4 := HP3.out.below hb4
      have HP4 := Lib.hid hp4
      have HB4 := Lib.hid hb04
      clear hp4 hb04 hb4 HP3 HB3 HVP
      go_wp2_with fail
      refine (HCY.out _).mono ?_
      rintro e w5 ⟨rfl, hb5⟩
      have hp5 := HP4.out.below hb5
      have HP5 := Lib.hid hp5
      have HB5 := Lib.hid (HB4.out.trans (hb5.mono HB4.out.size))
      obtain ⟨A, c, rfl⟩ := own_form hp5.own
      clear hp5 hb5 HP4 HB4 HCY H1 H2
      go_wp2
      go_loopw [7, 8] (fun iv av wr => ∃ a : Nat, a ≤ n ∧ av = .int .i64 a ∧ iv = .int .i64 ((outL K n a).length : Int) ∧ PR wr w0.heap.size (.slice A gs1.length c) gs1 (fun j => (outL K n n).getD j (0, 0)) ∧ Below w.heap.size w wr ∧ w.heap.size ≤ wr.heap.size) (fun _ av _ => n - (intOf av).toNat)
      case atStart => exact ⟨0, Nat.zero_le _, rfl, rfl, HP5.out, HB5.out, HB5.out.size⟩
      case round =>
        obtain ⟨a, ha, rfl, rfl, hpr, hbel, hsz⟩ := hrel
        have HPR0 := Lib.hid hpr
        have HBEL0 := Lib.hid hbel
        clear hpr hbel
        by_cases hlt : a < n
        · have HZ := Lib.hid (innL_zero K a)
          go_wp2
          go_loopw [7, 9] (fun iv bv wq => ∃ b : Nat, a < b ∧ b ≤ n ∧ bv = .int .i64 b ∧ iv = .int .i64 ((outL K n a ++ innL K a b).length : Int) ∧ PR wq w0.heap.size (.slice A gs1.length c) gs1 (fun j => (outL K n n).getD j (0, 0)) ∧ Below w.heap.size w wq ∧ w.heap.size ≤ wq.heap.size) (fun _ bv _ => n - (intOf bv).toNat)
          case atStart => exact ⟨a + 1, by omega, by omega, by go_num, by rw [HZ.out, List.append_nil], HPR0.out, HBEL0.out, hsz⟩
          case round =>
            obtain ⟨b, hab, hbn, rfl, rfl, hpr, hbel2, hsz2⟩ := hrel
            have HPR := Lib.hid hpr
            have HBEL := Lib.hid hbel2
            clear hpr hbel2
            by_cases hblt : b < n
            · cases hbt : bt K a b
              · have hr : ¬ ((b : Int) - (a : Int)) % (K : Int) = 0 := by rw [bt_int hab, hbt]; simp
                have hrd : decide (((b : Int) - (a : Int)) % (K : Int) = 0) = false := by simpa using hr
                have HE := Lib.hid (innL_no hbt)
                clear hbt
                go_wp2
                go_roundw
                case rel => exact ⟨b + 1, by omega, by omega, by go_num, by rw [HE.out], HPR.out, HBEL.out, hsz2⟩
                case measure => simp [intOf]; omega
              · have hr : ((b : Int) - (a : Int)) % (K : Int) = 0 := by rw [bt_int hab, hbt]
                obtain ⟨hq, hf⟩ := at_pair hlt hab hblt hbt
                have hq1 : ((outL K n a ++ innL K a (b + 1)).length : Int) = ((outL K n a ++ innL K a b).length : Int) + 1 := by
                  rw [innL_yes hab hbt, ← List.append_assoc, List.length_append (bs := [_])]; simp
                rw [← HGL.out] at hq
                clear hbt
                generalize (outL K n a ++ innL K a b).length = q at *
                have HQ1 := Lib.hid hq1
                obtain ⟨g, c', hA⟩ := own_form_some HPR.out.own (by omega)
                obtain ⟨rfl, rfl⟩ : A = some ⟨g, 0, none⟩ ∧ c' = c := by simp at hA; exact ⟨hA.1, hA.2.symm⟩
                have hc1 := (HPR.out.own.cellAt q (by omega)).trans (pv_get gs1 q hq)
                have hat0 := HPR.out.at_ q hq
                rw [hf] at hat0
                have hbal : Below wr.heap.size wr (wr.alloc (.cells #[.int .i64 (a : Int), .int .i64 (b : Int)] 3)) := (Below.refl wr.heap.size wr).alloc (Nat.le_refl _) _
                have hat1 := hat0.below hbal (HPR.out.lt q hq).2
                have hat2 : At (wr.alloc (.cells #[.int .i64 (a : Int), .int .i64 (b : Int)] 3)) wr.heap.size 0 [(a : Int), (b : Int)] :=
                  OwnI.at_ (B := wr.heap.size) (cap := 2) (World.ownsRow_lit (base := wr.heap.size) (size := 1) (e := 3) wr #[.int .i64 (a : Int), .int .i64 (b : Int)] 2 (Nat.le_refl _) (by rw [mx]; omega) (by simp))
                have heq := eqL_at _ (gs1.getD q 0) 0 2 wr.heap.size 0 2 2 [(a : Int), (b : Int)] [(a : Int), (b : Int)] rfl rfl (by omega) hat1 hat2
                rw [decide_eq_true rfl] at heq
                have hp2 := HPR.out.below hbal
                have hb2 := HBEL.out.alloc hsz2 (.cells #[.int .i64 (a : Int), .int .i64 (b : Int)] 3)
                have HP2 := Lib.hid hp2
                have HB2 := Lib.hid hb2
                have hqi : ¬ (gs1.length : Int) ≤ (q : Int) := by omega
                have hqd : decide ((gs1.length : Int) ≤ (q : Int)) = false := by simp; omega
                have hq0 : (q : Int) < (gs1.length : Int) := by omega
                generalize gs1.getD q 0 = x at *
                have HEQ := Lib.hid heq
                clear heq hat0 hat1 hat2 hp2 hb2 hbal hf hq1 hA
                go_wp2_with (go_at_call 17; refine HEQ.out.mono ?_; rintro e w' ⟨rfl, m, rfl⟩)
                go_roundw
                case rel => exact ⟨b + 1, by omega, by omega, by go_num, by rw [HQ1.out], HP2.out.drewN m, below_drewN HB2.out m, by have := (below_drewN HB2.out m).size; omega⟩
                case measure => simp [intOf]; omega
            · obtain rfl : b = n := by omega
              have hlr9 : (outL K b a ++ innL K a b).length = (outL K b (a + 1)).length := rfl
              rw [hlr9]
              go_wp2
              go_roundw
              case rel => exact ⟨a + 1, by omega, by go_num, rfl, HPR.out, HBEL.out, hsz2⟩
              case measure => simp [intOf]; omega
        · obtain rfl : a = n := by omega
          have hgl := HGL.out
          rw [← hgl]
          go_wp2
          go_ret
          exact ⟨by simp, HBEL0.out⟩
end Go.Proofs.Ytpneopldbeefhaa
