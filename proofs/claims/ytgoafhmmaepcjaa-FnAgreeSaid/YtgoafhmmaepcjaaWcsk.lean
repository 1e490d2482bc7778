/-
  The walks of the functions by which two offers agree. Conditions: where the lists of needs lie, and their lengths.
-/
import Derived.Test.YtgoafhmmaepcjaaWabl
import Derived.Test.YtgoafhmmaepcjaaWofs
namespace Go.Proofs.Ytgoafhmmaepcjaa
open Go.RowKit
set_option linter.unusedVariables false

theorem voB_parts {o : Ofr} (h : voB o = true) : Nds o.nd ∧ (0 ≤ o.ca ∧ o.ca ≤ 31) ∧ (0 ≤ o.lo ∧ o.lo ≤ 20) ∧ o.lo ≤ o.hi ∧ o.hi ≤ 20 := by
  simp only [voB, voT, Bool.and_eq_true, decide_eq_true_eq] at h
  obtain ⟨h1, h2, h3, h4, h5⟩ := h
  have := btw_yes h3
  have := btw_yes h4
  have := btw_yes h5
  exact ⟨⟨h2, h1⟩, by omega, by omega, by omega, by omega⟩
/-- The skills that both can. -/
def caN (a b : Ofr) : Nat := a.ca.toNat &&& b.ca.toNat
/-- Whether two offers agree, on what version, and on what skills. -/
def agB (a b : Ofr) : Bool := voB a && (voB b && !decide (min a.hi b.hi < max a.lo b.lo))
def agX (a b : Ofr) : Int := if agB a b = true then min a.hi b.hi else -1
def agS (a b : Ofr) : Int := if agB a b = true then ((fx (ndf a.nd b.nd) (caN a b) : Nat) : Int) else 0

set_option maxHeartbeats 3200000 in
theorem csk_any (o p : Ofr) (v u : Value) (w : World) (h : Rds w v o.nd) (h2 : Rds w u p.nd) (ho : voB o = true) (hp : voB p = true) :
    Calls Try.prog 39 #[ofv o v, ofv p u] w fun e w' => e = .returned (.int .i64 ((fx (ndf o.nd p.nd) (caN o p) : Nat) : Int)) ∧ Below w.heap.size w w' := by
  obtain ⟨no, co, _⟩ := voB_parts ho
  obtain ⟨np, cp, _⟩ := voB_parts hp
  have HAB := Lib.hid (fun s W hs h h2 => able_any s o p v u W hs h h2 no np)
  have hc : bits .and .i64 o.ca p.ca = ((caN o p : Nat) : Int) := by
    have := and_nat6 (a := o.ca.toNat) (b := p.ca.toNat) (by omega) (by omega)
    rw [show ((o.ca.toNat : Nat) : Int) = o.ca from by omega, show ((p.ca.toNat : Nat) : Int) = p.ca from by omega] at this
    exact this
  have hc32 : caN o p < 32 := Nat.lt_of_le_of_lt Nat.and_le_left (by omega)
  generalize caN o p = s0 at *
  obtain ⟨lo, hi, ca, xs⟩ := o
  obtain ⟨lo2, hi2, ca2, ys⟩ := p
  simp only at h h2 HAB hc ⊢
  unfold ofv at *
  simp only at HAB ⊢
  generalize ndf xs ys = nd at *
  have hb0 := ((Below.refl w.heap.size w).alloc (Nat.le_refl _) (.cells #[.int .i64 lo, .int .i64 hi, .int .i64 ca, v] 34)).alloc (by simp) (.cells #[.int .i64 lo2, .int .i64 hi2, .int .i64 ca2, u] 34)
  have hr := h.more6 hb0
  have hr2 := h2.more6 hb0
  have k0 := (Blk.new w 34 #[.int .i64 lo, .int .i64 hi, .int .i64 ca, v]).alloc (.cells #[.int .i64 lo2, .int .i64 hi2, .int .i64 ca2, u] 34)
  have k1 := Blk.new (w.alloc (.cells #[.int .i64 lo, .int .i64 hi, .int .i64 ca, v] 34)) 34 #[.int .i64 lo2, .int .i64 hi2, .int .i64 ca2, u]
  rw [World.size_alloc] at k1
  have hz : ((w.alloc (.cells #[.int .i64 lo, .int .i64 hi, .int .i64 ca, v] 34)).alloc (.cells #[.int .i64 lo2, .int .i64 hi2, .int .i64 ca2, u] 34)).heap.size = w.heap.size + 2 := by simp
  have HBL := Lib.hid hb0
  have HK0 := Lib.hid k0
  have HK1 := Lib.hid k1
  have HR := Lib.hid hr
  have HR2 := Lib.hid hr2
  have HZ := Lib.hid hz
  obtain ⟨a0, a1, a2, a3⟩ := k0.c4
  obtain ⟨b0, b1, b2, b3⟩ := k1.c4
  clear hb0 k0 k1 h h2 hr hr2 hz no np co cp ho hp
  go_enter Try.func39, Try.ntmps39
  go_upto_region 1 with fail
  generalize (w.alloc (.cells #[.int .i64 lo, .int .i64 hi, .int .i64 ca, v] 34)).alloc (.cells #[.int .i64 lo2, .int .i64 hi2, .int .i64 ca2, u] 34) = w1 at *
  go_wp2
  go_loopw [5] (fun sv wr => ∃ s : Nat, sv = .int .i64 (s : Int) ∧ s < 32 ∧ Hid (fx nd s = fx nd s0) ∧ Below w.heap.size w wr ∧ Below w1.heap.size w1 wr) (fun sv _ => (intOf sv).toNat)
  case atStart => exact ⟨s0, rfl, hc32, Lib.hid rfl, HBL.out, Below.refl _ _⟩
  case round =>
    clear a0 a1 a2 a3 b0 b1 b2 b3
    obtain ⟨s, rfl, hs, hfx, hb, hb1⟩ := hrel
    have HBW := Lib.hid hb
    have hzz := HZ.out
    have hz1 := hb1.size
    have hzr : w.heap.size ≤ wr.heap.size := by omega
    have q0 := HK0.out.below hb1 (by omega)
    have q1 := HK1.out.below hb1 (by omega)
    obtain ⟨a0, a1, a2, a3⟩ := q0.c4
    obtain ⟨b0, b1, b2, b3⟩ := q1.c4
    have HRr := Lib.hid (HR.out.more6 hb1)
    have HR2r := Lib.hid (HR2.out.more6 hb1)
    have HB1 := Lib.hid hb1
    have HN32 := Lib.hid (nxt32 nd s 5 (Nat.le_refl _))
    have hnl := nxt_le nd s 5
    clear hb hb1 hzz
    have HC := Lib.hid (HAB.out s wr hs HRr.out HR2r.out)
    have HCW := Lib.hid (fun W h h2 => HAB.out s W hs h h2)
    by_cases hst : nxt nd s 5 = s
    · have HE : Hid (fx nd s0 = s) := Lib.hid (by rw [← hfx.out, fx_done hst])
      rw [hst] at HC
      clear hst hnl q0 q1
      go_wp2_with fail
      refine HC.out.mono ?_
      rintro e w2 ⟨rfl, hb2⟩
      go_wp2
      go_ret
      exact ⟨ret_int (by rw [HE.out]), HBW.out.trans (hb2.mono hzr)⟩
    · have HE : Hid (fx nd (nxt nd s 5) = fx nd s0) := Lib.hid (by rw [← hfx.out, fx_step hst])
      generalize nxt nd s 5 = t at *
      have hne : ((t : Int) != (s : Int)) = true := by simp; omega
      go_wp2_with fail
      refine HC.out.mono ?_
      rintro e w2 ⟨rfl, hb2⟩
      have q2 := q0.below hb2 (by have := HZ.out; omega)
      have q3 := q1.below hb2 (by have := HZ.out; omega)
      obtain ⟨c0, c1, c2, c3⟩ := q2.c4
      obtain ⟨d0, d1, d2, d3⟩ := q3.c4
      have HC2 := Lib.hid (HCW.out w2 (HRr.out.more6 hb2) (HR2r.out.more6 hb2))
      have HB2 := Lib.hid (HBW.out.trans (hb2.mono hzr))
      have HB12 := Lib.hid (HB1.out.trans (hb2.mono hz1))
      have hz2 := hb2.size
      clear hb2 HC a0 a1 a2 a3 b0 b1 b2 b3 q0 q1 q2 q3
      go_wp2_with fail
      refine HC2.out.mono ?_
      rintro e w3 ⟨rfl, hb3⟩
      have HB3 := Lib.hid (HB2.out.trans (hb3.mono (by omega)))
      have HB13 := Lib.hid (HB12.out.trans (hb3.mono (by omega)))
      go_wp2
      go_roundw
      case rel => exact ⟨t, rfl, by have := HN32.out; omega, HE, HB3.out, HB13.out⟩
      case measure => simp [intOf] <;> omega

set_option maxHeartbeats 3200000 in
theorem iAG_any (o p : Ofr) (v u : Value) (w : World) (h : Rds w v o.nd) (h2 : Rds w u p.nd) (hn : o.nd.length ≤ 1048576) (hn2 : p.nd.length ≤ 1048576) :
    Calls Try.prog 23 #[ofv o v, ofv p u] w fun e w' => e = .returned (.tuple #[.int .i64 (agX o p), .int .i64 (agS o p), .bool (agB o p)]) ∧ Below w.heap.size w w' := by
  have HI1 := Lib.hid (fun W h => iVO_any o v W h hn)
  have HI2 := Lib.hid (fun W h => iVO_any p u W h hn2)
  have HCS := fun ho hp => Lib.hid (fun W h h2 => csk_any o p v u W h h2 ho hp)
  have hagB : agB o p = (voB o && (voB p && !decide (min o.hi p.hi < max o.lo p.lo))) := rfl
  have hagX : agX o p = if agB o p = true then min o.hi p.hi else -1 := rfl
  have hagS : agS o p = if agB o p = true then ((fx (ndf o.nd p.nd) (caN o p) : Nat) : Int) else 0 := rfl
  have hpo := fun h => voB_parts (o := o) h
  have hpp := fun h => voB_parts (o := p) h
  generalize agB o p = B at *
  generalize agX o p = X at *
  generalize agS o p = S at *
  generalize (fx (ndf o.nd p.nd) (caN o p) : Nat) = F at *
  generalize voB o = vo at *
  generalize voB p = vp at *
  obtain ⟨lo, hi, ca, xs⟩ := o
  obtain ⟨lo2, hi2, ca2, ys⟩ := p
  simp only at h h2 HCS HI1 HI2 hagB hagX hagS hpo hpp hn hn2 ⊢
  unfold ofv at *
  simp only at HCS HI1 HI2 ⊢
  have hb0 := ((Below.refl w.heap.size w).alloc (Nat.le_refl _) (.cells #[.int .i64 lo, .int .i64 hi, .int .i64 ca, v] 34)).alloc (by simp) (.cells #[.int .i64 lo2, .int .i64 hi2, .int .i64 ca2, u] 34)
  have hr := h.more6 hb0
  have hr2 := h2.more6 hb0
  have k0 := (Blk.new w 34 #[.int .i64 lo, .int .i64 hi, .int .i64 ca, v]).alloc (.cells #[.int .i64 lo2, .int .i64 hi2, .int .i64 ca2, u] 34)
  have k1 := Blk.new (w.alloc (.cells #[.int .i64 lo, .int .i64 hi, .int .i64 ca, v] 34)) 34 #[.int .i64 lo2, .int .i64 hi2, .int .i64 ca2, u]
  rw [World.size_alloc] at k1
  have hz : ((w.alloc (.cells #[.int .i64 lo, .int .i64 hi, .int .i64 ca, v] 34)).alloc (.cells #[.int .i64 lo2, .int .i64 hi2, .int .i64 ca2, u] 34)).heap.size = w.heap.size + 2 := by simp
  have HBL := Lib.hid hb0
  have HK0 := Lib.hid k0
  have HK1 := Lib.hid k1
  have HR := Lib.hid hr
  have HR2 := Lib.hid hr2
  have HZ := Lib.hid hz
  obtain ⟨a0, a1, a2, a3⟩ := k0.c4
  obtain ⟨b0, b1, b2, b3⟩ := k1.c4
  have HAB := Lib.hid hagB
  have HAX := Lib.hid hagX
  have HAS := Lib.hid hagS
  clear hb0 k0 k1 h h2 hr hr2 hz hagB hagX hagS
  go_enter Try.func23, Try.ntmps23
  go_upto_region 1 with fail
  generalize (w.alloc (.cells #[.int .i64 lo, .int .i64 hi, .int .i64 ca, v] 34)).alloc (.cells #[.int .i64 lo2, .int .i64 hi2, .int .i64 ca2, u] 34) = w1 at *
  go_wp2_with fail
  refine (HI1.out w1 HR.out).mono ?_
  rintro e w2 ⟨rfl, hb2⟩
  have q0 := HK0.out.below hb2 (by have := HZ.out; omega)
  have q1 := HK1.out.below hb2 (by have := HZ.out; omega)
  obtain ⟨c0, c1, c2, c3⟩ := q0.c4
  obtain ⟨d0, d1, d2, d3⟩ := q1.c4
  have HRb := Lib.hid (HR.out.more6 hb2)
  have HR2b := Lib.hid (HR2.out.more6 hb2)
  have HB2 := Lib.hid (HBL.out.trans (hb2.mono (by have := HZ.out; omega)))
  have hz2 : w.heap.size + 2 ≤ w2.heap.size := by have := HZ.out; have := hb2.size; omega
  clear hb2 HR HR2 HBL HK0 HK1 HI1 a0 a1 a2 a3 b0 b1 b2 b3 HZ
  cases vo
  · have e1 : B = false := by rw [HAB.out]; rfl
    have e2 : X = -1 := by rw [HAX.out, e1]; rfl
    have e3 : S = 0 := by rw [HAS.out, e1]; rfl
    have E1 := Lib.hid e1
    have E2 := Lib.hid e2
    have E3 := Lib.hid e3
    clear e1 e2 e3 q0 q1
    go_wp2
    go_ret3
    rw [E1.out, E2.out, E3.out]
    exact ⟨rfl, HB2.out⟩
  · go_wp2_with fail
    refine (HI2.out w2 HR2b.out).mono ?_
    rintro e w3 ⟨rfl, hb3⟩
    have r0 := q0.below hb3 (by omega)
    have r1 := q1.below hb3 (by omega)
    obtain ⟨f0, f1, f2, f3⟩ := r0.c4
    obtain ⟨g0, g1, g2, g3⟩ := r1.c4
    have HRc := Lib.hid (HRb.out.more6 hb3)
    have HR2c := Lib.hid (HR2b.out.more6 hb3)
    have HB3 := Lib.hid (HB2.out.trans (hb3.mono (by omega)))
    have hz3 : w.heap.size + 2 ≤ w3.heap.size := by have := hb3.size; omega
    clear hb3 HRb HR2b HB2 HI2 c0 c1 c2 c3 d0 d1 d2 d3 q0 q1 hz2 r0 r1
    cases vp
    · have e1 : B = false := by rw [HAB.out]; rfl
      have e2 : X = -1 := by rw [HAX.out, e1]; rfl
      have e3 : S = 0 := by rw [HAS.out, e1]; rfl
      have E1 := Lib.hid e1
      have E2 := Lib.hid e2
      have E3 := Lib.hid e3
      clear e1 e2 e3
      go_wp2
      go_ret3
      rw [E1.out, E2.out, E3.out]
      exact ⟨rfl, HB3.out⟩
    · have HC := HCS trivial rfl
      clear HCS hpo hpp
      rcases (show hi ≤ hi2 ∨ hi2 < hi from by omega) with h1 | h1
      · rw [Int.min_eq_left h1] at HAB HAX
        rcases (show lo < lo2 ∨ lo2 ≤ lo from by omega) with h2 | h2
        · rw [Int.max_eq_right (Int.le_of_lt h2)] at HAB
          by_cases hmm : hi < lo2
          · have hd : decide (hi < lo2) = true := decide_eq_true hmm
            have e1 : B = false := by rw [HAB.out, hd]; rfl
            have e2 : X = -1 := by rw [HAX.out, e1]; rfl
            have e3 : S = 0 := by rw [HAS.out, e1]; rfl
            have E1 := Lib.hid e1
            have E2 := Lib.hid e2
            have E3 := Lib.hid e3
            clear e1 e2 e3
            go_wp2
            go_ret3
            rw [E1.out, E2.out, E3.out]
            exact ⟨rfl, HB3.out⟩
          · have hd : decide (hi < lo2) = false := decide_eq_false hmm
            have e1 : B = true := by rw [HAB.out, hd]; rfl
            have e2 : X = hi := by rw [HAX.out, e1]; rfl
            have e3 : S = (F : Int) := by rw [HAS.out, e1]; rfl
            have E1 := Lib.hid e1
            have E2 := Lib.hid e2
            have E3 := Lib.hid e3
            clear e1 e2 e3
            go_wp2_with fail
            refine (HC.out w3 HRc.out HR2c.out).mono ?_
            rintro e w4 ⟨rfl, hb4⟩
            go_wp2
            go_ret3
            rw [E1.out, E2.out, E3.out]
            exact ⟨rfl, HB3.out.trans (hb4.mono (by omega))⟩
        · rw [Int.max_eq_left h2] at HAB
          by_cases hmm : hi < lo
          · have hd : decide (hi < lo) = true := decide_eq_true hmm
            have e1 : B = false := by rw [HAB.out, hd]; rfl
            have e2 : X = -1 := by rw [HAX.out, e1]; rfl
            have e3 : S = 0 := by rw [HAS.out, e1]; rfl
            have E1 := Lib.hid e1
            have E2 := Lib.hid e2
            have E3 := Lib.hid e3
            clear e1 e2 e3
            go_wp2
            go_ret3
            rw [E1.out, E2.out, E3.out]
            exact ⟨rfl, HB3.out⟩
          · have hd : decide (hi < lo) = false := decide_eq_false hmm
            have e1 : B = true := by rw [HAB.out, hd]; rfl
            have e2 : X = hi := by rw [HAX.out, e1]; rfl
            have e3 : S = (F : Int) := by rw [HAS.out, e1]; rfl
            have E1 := Lib.hid e1
            have E2 := Lib.hid e2
            have E3 := Lib.hid e3
            clear e1 e2 e3
            go_wp2_with fail
            refine (HC.out w3 HRc.out HR2c.out).mono ?_
            rintro e w4 ⟨rfl, hb4⟩
            go_wp2
            go_ret3
            rw [E1.out, E2.out, E3.out]
            exact ⟨rfl, HB3.out.trans (hb4.mono (by omega))⟩
      · rw [Int.min_eq_right (Int.le_of_lt h1)] at HAB HAX
        rcases (show lo < lo2 ∨ lo2 ≤ lo from by omega) with h2 | h2
        · rw [Int.max_eq_right (Int.le_of_lt h2)] at HAB
          by_cases hmm : hi2 < lo2
          · have hd : decide (hi2 < lo2) = true := decide_eq_true hmm
            have e1 : B = false := by rw [HAB.out, hd]; rfl
            have e2 : X = -1 := by rw [HAX.out, e1]; rfl
            have e3 : S = 0 := by rw [HAS.out, e1]; rfl
            have E1 := Lib.hid e1
            have E2 := Lib.hid e2
            have E3 := Lib.hid e3
            clear e1 e2 e3
            go_wp2
            go_ret3
            rw [E1.out, E2.out, E3.out]
            exact ⟨rfl, HB3.out⟩
          · have hd : decide (hi2 < lo2) = false := decide_eq_false hmm
            have e1 : B = true := by rw [HAB.out, hd]; rfl
            have e2 : X = hi2 := by rw [HAX.out, e1]; rfl
            have e3 : S = (F : Int) := by rw [HAS.out, e1]; rfl
            have E1 := Lib.hid e1
            have E2 := Lib.hid e2
            have E3 := Lib.hid e3
            clear e1 e2 e3
            go_wp2_with fail
            refine (HC.out w3 HRc.out HR2c.out).mono ?_
            rintro e w4 ⟨rfl, hb4⟩
            go_wp2
            go_ret3
            rw [E1.out, E2.out, E3.out]
            exact ⟨rfl, HB3.out.trans (hb4.mono (by omega))⟩
        · rw [Int.max_eq_left h2] at HAB
          by_cases hmm : hi2 < lo
          · have hd : decide (hi2 < lo) = true := decide_eq_true hmm
            have e1 : B = false := by rw [HAB.out, hd]; rfl
            have e2 : X = -1 := by rw [HAX.out, e1]; rfl
            have e3 : S = 0 := by rw [HAS.out, e1]; rfl
            have E1 := Lib.hid e1
            have E2 := Lib.hid e2
            have E3 := Lib.hid e3
            clear e1 e2 e3
            go_wp2
            go_ret3
            rw [E1.out, E2.out, E3.out]
            exact ⟨rfl, HB3.out⟩
          · have hd : decide (hi2 < lo) = false := decide_eq_false hmm
            have e1 : B = true := by rw [HAB.out, hd]; rfl
            have e2 : X = hi2 := by rw [HAX.out, e1]; rfl
            have e3 : S = (F : Int) := by rw [HAS.out, e1]; rfl
            have E1 := Lib.hid e1
            have E2 := Lib.hid e2
            have E3 := Lib.hid e3
            clear e1 e2 e3
            go_wp2_with fail
            refine (HC.out w3 HRc.out HR2c.out).mono ?_
            rintro e w4 ⟨rfl, hb4⟩
            go_wp2
            go_ret3
            rw [E1.out, E2.out, E3.out]
            exact ⟨rfl, HB3.out.trans (hb4.mono (by omega))⟩
end Go.Proofs.Ytgoafhmmaepcjaa
