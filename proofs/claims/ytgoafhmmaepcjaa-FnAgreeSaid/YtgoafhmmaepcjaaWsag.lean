/-
  The walk of the model's function by which two offers agree. Conditions: where the lists of needs lie, and their lengths.
-/
import Derived.Test.YtgoafhmmaepcjaaWclo
import Derived.Deep.RegionLaw
import Derived.Deep.Cut
namespace Go.Proofs.Ytgoafhmmaepcjaa
open Go.RowKit
set_option linter.unusedVariables false

set_option maxHeartbeats 6400000 in
theorem sAG_any (o p : Ofr) (v u : Value) (w : World) (h : Rds w v o.nd) (h2 : Rds w u p.nd) (hn : o.nd.length ≤ 1048576) (hn2 : p.nd.length ≤ 1048576) :
    Calls Try.prog 24 #[ofv o v, ofv p u] w fun e w' => e = .returned (.tuple #[.int .i64 (agX o p), .int .i64 (agS o p), .bool (agB o p)]) ∧ Below w.heap.size w w' := by
  have HI1 := Lib.hid (fun W h => svo_any o v W h hn)
  have HI2 := Lib.hid (fun W h => svo_any p u W h hn2)
  have hagB : agB o p = (voB o && (voB p && !decide (min o.hi p.hi < max o.lo p.lo))) := rfl
  have hagX : agX o p = if agB o p = true then min o.hi p.hi else -1 := rfl
  have hagS : agS o p = if agB o p = true then ((fx (ndf o.nd p.nd) (caN o p) : Nat) : Int) else 0 := rfl
  have hpo := fun h => voB_parts (o := o) h
  have hpp := fun h => voB_parts (o := p) h
  have hcan : caN o p = o.ca.toNat &&& p.ca.toNat := rfl
  generalize agB o p = B at *
  generalize agX o p = X at *
  generalize agS o p = S at *
  generalize caN o p = cn at *
  generalize voB o = vo at *
  generalize voB p = vp at *
  obtain ⟨lo, hi, ca, xs⟩ := o
  obtain ⟨lo2, hi2, ca2, ys⟩ := p
  simp only at h h2 HI1 HI2 hagB hagX hagS hpo hpp hcan hn hn2 ⊢
  unfold ofv at *
  simp only at HI1 HI2 ⊢
  have hb0 := ((Below.refl w.heap.size w).alloc (Nat.le_refl _) (.cells #[.int .i64 lo, .int .i64 hi, .int .i64 ca, v] 34)).alloc (by simp) (.cells #[.int .i64 lo2, .int .i64 hi2, .int .i64 ca2, u] 34)
  have hr := h.more6 hb0
  have hr2 := h2.more6 hb0
  have k0 := (Blk.new w 34 #[.int .i64 lo, .int .i64 hi, .int .i64 ca, v]).alloc (.cells #[.int .i64 lo2, .int .i64 hi2, .int .i64 ca2, u] 34)
  have k1 := Blk.new (w.alloc (.cells #[.int .i64 lo, .int .i64 hi, .int .i64 ca, v] 34)) 34 #[.int .i64 lo2, .int .i64 hi2, .int .i64 ca2, u]
  rw [World.size_alloc] at k1
  have hz : ((w.alloc (.cells #[.int .i64 lo, .int .i64 hi, .int .i64 ca, v] 34)).alloc (.cells #[.int .i64 lo2, .int .i64 hi2, .int .i64 ca2, u] 34)).heap.size = w.heap.size + 2 := by simp
  have HBL := Lib.hid hb0
  have HK0 := Lib.hid k0
  have HK1 := Lib.hid k1
  have HR := Lib.hid hr
  have HR2 := Lib.hid hr2
  have HZ := Lib.hid hz
  obtain ⟨a0, a1, a2, a3⟩ := k0.c4
  obtain ⟨b0, b1, b2, b3⟩ := k1.c4
  have HAB := Lib.hid hagB
  have HAX := Lib.hid hagX
  have HAS := Lib.hid hagS
  have HCN := Lib.hid hcan
  clear hb0 k0 k1 h h2 hr hr2 hz hagB hagX hagS hcan
  go_enter Try.func24, Try.ntmps24
  go_upto_region 1 with fail
  generalize (w.alloc (.cells #[.int .i64 lo, .int .i64 hi, .int .i64 ca, v] 34)).alloc (.cells #[.int .i64 lo2, .int .i64 hi2, .int .i64 ca2, u] 34) = w1 at *
  go_wp2_with fail
  refine (HI1.out w1 HR.out).mono ?_
  rintro e w2 ⟨rfl, hb2⟩
  have q0 := HK0.out.below hb2 (by have := HZ.out; omega)
  have q1 := HK1.out.below hb2 (by have := HZ.out; omega)
  obtain ⟨c0, c1, c2, c3⟩ := q0.c4
  obtain ⟨d0, d1, d2, d3⟩ := q1.c4
  have HRb := Lib.hid (HR.out.more6 hb2)
  have HR2b := Lib.hid (HR2.out.more6 hb2)
  have HB2 := Lib.hid (HBL.out.trans (hb2.mono (by have := HZ.out; omega)))
  have hz2 : w.heap.size + 2 ≤ w2.heap.size := by have := HZ.out; have := hb2.size; omega
  clear hb2 HR HR2 HBL HK0 HK1 HI1 a0 a1 a2 a3 b0 b1 b2 b3 HZ
  cases vo
  · have e1 : B = false := by rw [HAB.out]; rfl
    have e2 : X = -1 := by rw [HAX.out, e1]; rfl
    have e3 : S = 0 := by rw [HAS.out, e1]; rfl
    have E1 := Lib.hid e1
    have E2 := Lib.hid e2
    have E3 := Lib.hid e3
    clear e1 e2 e3 q0 q1
    go_wp2
    go_ret3
    rw [E1.out, E2.out, E3.out]
    exact ⟨rfl, HB2.out⟩
  · obtain ⟨NO, cao, _⟩ := hpo rfl
    have HNO := Lib.hid NO
    have HCA := Lib.hid cao
    clear hpo NO cao
    go_wp2_with fail
    refine (HI2.out w2 HR2b.out).mono ?_
    rintro e w3 ⟨rfl, hb3⟩
    have r0 := q0.below hb3 (by omega)
    have r1 := q1.below hb3 (by omega)
    have HQ0 := Lib.hid r0
    have HQ1 := Lib.hid r1
    obtain ⟨f0, f1, f2, f3⟩ := r0.c4
    obtain ⟨g0, g1, g2, g3⟩ := r1.c4
    have HRc := Lib.hid (HRb.out.more6 hb3)
    have HR2c := Lib.hid (HR2b.out.more6 hb3)
    have HB3 := Lib.hid (HB2.out.trans (hb3.mono (by omega)))
    have hz3 : w.heap.size + 2 ≤ w3.heap.size := by have := hb3.size; omega
    clear hb3 HRb HR2b HB2 HI2 c0 c1 c2 c3 d0 d1 d2 d3 q0 q1 hz2 r0 r1
    cases vp
    · have e1 : B = false := by rw [HAB.out]; rfl
      have e2 : X = -1 := by rw [HAX.out, e1]; rfl
      have e3 : S = 0 := by rw [HAS.out, e1]; rfl
      have E1 := Lib.hid e1
      have E2 := Lib.hid e2
      have E3 := Lib.hid e3
      clear e1 e2 e3
      go_wp2
      go_ret3
      rw [E1.out, E2.out, E3.out]
      exact ⟨rfl, HB3.out⟩
    · obtain ⟨NP, cap, _⟩ := hpp rfl
      have HNP := Lib.hid NP
      have hcand : bits .and .i64 ca ca2 = ((cn : Nat) : Int) := by
        have h1 := HCA.out
        have := and_nat6 (a := ca.toNat) (b := ca2.toNat) (by omega) (by omega)
        rw [show ((ca.toNat : Nat) : Int) = ca from by omega, show ((ca2.toNat : Nat) : Int) = ca2 from by omega] at this
        rw [HCN.out]; exact this
      have hc32 : cn < 32 := by rw [HCN.out]; exact Nat.lt_of_le_of_lt Nat.and_le_left (by have h1 := HCA.out; omega)
      have hxl : xs.length = 5 := HNO.out.1
      have hyl : ys.length = 5 := HNP.out.1
      have HX := HRc.out
      have HY := HR2c.out
      obtain ⟨Av, cv, rfl, hAv⟩ := HX
      obtain ⟨Au, cu, rfl, hAu⟩ := HY
      obtain ⟨bx, ox, rfl, hbx⟩ := hAv (by omega)
      obtain ⟨bu, ou, rfl, hbu⟩ := hAu (by omega)
      have HXA := Lib.hid hbx
      have HYA := Lib.hid hbu
      rw [hxl] at HQ0 f3
      rw [hyl] at HQ1 g3
      rw [hxl] at *
      rw [hyl] at *
      clear hpp NP cap HCN HCA hAv hAu hbx hbu hxl hyl HRc HR2c hn hn2
      rcases (show hi ≤ hi2 ∨ hi2 < hi from by omega) with h1 | h1
      · rw [Int.min_eq_left h1] at HAB HAX
        rcases (show lo < lo2 ∨ lo2 ≤ lo from by omega) with h2 | h2
        · rw [Int.max_eq_right (Int.le_of_lt h2)] at HAB
          by_cases hmm : hi < lo2
          · have hd : decide (hi < lo2) = true := decide_eq_true hmm
            have e1 : B = false := by rw [HAB.out, hd]; rfl
            have e2 : X = -1 := by rw [HAX.out, e1]; rfl
            have e3 : S = 0 := by rw [HAS.out, e1]; rfl
            have E1 := Lib.hid e1
            have E2 := Lib.hid e2
            have E3 := Lib.hid e3
            clear e1 e2 e3
            go_wp2
            go_ret3
            rw [E1.out, E2.out, E3.out]
            exact ⟨rfl, HB3.out⟩
          · have hd : decide (hi < lo2) = false := decide_eq_false hmm
            have e1 : B = true := by rw [HAB.out, hd]; rfl
            have e2 : X = hi := by rw [HAX.out, e1]; rfl
            have e3 : S = ((fx (ndf xs ys) cn : Nat) : Int) := by rw [HAS.out, e1]; rfl
            have E1 := Lib.hid e1
            have E2 := Lib.hid e2
            have E3 := Lib.hid e3
            have HO0 := Lib.hid (OwnL.empty w3 w3.heap.size (Nat.le_refl _))
            have HB30 := Lib.hid ((Below.refl w3.heap.size w3).alloc (Nat.le_refl _) (.cells #[] 3))
            clear e1 e2 e3
            go_wp2
            go_loopw [7, 8] (fun nv iv wr => ∃ k : Nat, k ≤ 5 ∧ iv = .int .i64 (k : Int) ∧ OwnL wr w3.heap.size nv (ndL xs ys k) ∧ Below w3.heap.size w3 wr) (fun _ iv _ => 5 - (intOf iv).toNat)
            case atStart => exact ⟨0, by omega, rfl, HO0.out, HB30.out⟩
            case round =>
              clear f0 f1 f2 f3 g0 g1 g2 g3
              obtain ⟨k, hk, rfl, hown, hb⟩ := hrel
              have q0 := HQ0.out.below hb (by omega)
              have q1 := HQ1.out.below hb (by omega)
              obtain ⟨f0, f1, f2, f3⟩ := q0.drew.c4
              obtain ⟨g0, g1, g2, g3⟩ := q1.drew.c4
              have HB := Lib.hid hb
              have hLl := ndL_len xs ys k
              have HOW := Lib.hid hown
              obtain ⟨An, cnn, rfl⟩ := hown.form
              have hzr := hb.size
              by_cases hlt : k < 5
              · have x3 : wr.drew.cell? ⟨bx, ox + k, none⟩ = _ := (HXA.out.below hb HXA.out.1).2 k (by have := HNO.out.1; omega)
                have y3 : wr.drew.cell? ⟨bu, ou + k, none⟩ = _ := (HYA.out.below hb HYA.out.1).2 k (by have := HNP.out.1; omega)
                obtain ⟨xe, xl⟩ := HNO.out.get hlt
                obtain ⟨ye, yl⟩ := HNP.out.get hlt
                rw [xe] at x3
                rw [ye] at y3
                have hnd : ndf xs ys k = (xs.getD k 0).toNat ||| (ys.getD k 0).toNat := rfl
                have hor := or_nat6 xl yl
                rw [← hnd] at hor
                have HSN := Lib.hid (ndL_snoc xs ys k)
                generalize ndf xs ys k = z at *
                generalize (xs.getD k 0).toNat = x at *
                generalize (ys.getD k 0).toNat = y at *
                have HLL := Lib.hid hLl
                generalize ndL xs ys k = L at *
                have hk0 : (0 : Int) ≤ (k : Int) := by omega
                have hk5 : (k : Int) < 5 := by omega
                clear hb hnd xe ye xl yl q0 q1 hown hLl
                have HOD : Hid (OwnL wr.drew w3.heap.size (.slice An L.length cnn) L) := Lib.hid (by have h9 := HOW.out; exact h9)
                go_wp2
                go_region_law (refine step_append_one rfl (.tmp 35) (.tmp 47) rfl w3.heap.size (.slice An L.length cnn) L (z : Int) (by simp [Act.eval, Act.put]) (by simp [Act.eval, Act.put]) HOD.out (by have := HLL.out; omega) (by show w3.heap.size ≤ wr.heap.size; omega) ?_; intro v9 w9 hown9 hb9)
                all_goals simp only [Act.put]
                all_goals go_wp2
                all_goals
                  obtain ⟨A9, c9, hf9⟩ := hown9.form
                  subst hf9
                  go_roundw
                  case rel => exact ⟨k + 1, by omega, by go_num, by rw [HSN.out]; exact hown9, (show Below w3.heap.size w3 wr.drew from below_drewN HB.out 1).trans hb9⟩
                  case measure => simp [intOf] <;> omega
              · obtain rfl : k = 5 := by omega
                have HCL := Lib.hid (fun W h => clo_any (ndf xs ys) cn (.slice An (ndL xs ys 5).length cnn) (ndL xs ys 5) W h hc32 hLl (fun j hj => ⟨ndL_get xs ys 5 j hj, by rw [show ndf xs ys j = _ from rfl]; exact or_lt (HNO.out.get hj).2 (HNP.out.get hj).2⟩))
                have HRO := Lib.hid (OwnL.rds HOW.out)
                rw [hLl] at HCL HRO
                generalize fx (ndf xs ys) cn = FX at *
                clear f0 f1 f2 f3 g0 g1 g2 g3
                obtain ⟨f0, f1, f2, f3⟩ := q0.c4
                obtain ⟨g0, g1, g2, g3⟩ := q1.c4
                clear hb q0 q1 hown
                go_wp2
                go_quiet ((go_at_call 40; exact Calls.quiet_of (HCL.out _ (show Rds _ (.slice An 5 cnn) _ from HRO.out))))
                go_wp2
                go_ret3
                rw [E1.out, E2.out, E3.out]
                exact ⟨rfl, below_drewN (HB3.out.trans (HB.out.mono (by omega))) nq⟩
        · rw [Int.max_eq_left h2] at HAB
          by_cases hmm : hi < lo
          · exfalso; omega
          · have hd : decide (hi < lo) = false := decide_eq_false hmm
            have e1 : B = true := by rw [HAB.out, hd]; rfl
            have e2 : X = hi := by rw [HAX.out, e1]; rfl
            have e3 : S = ((fx (ndf xs ys) cn : Nat) : Int) := by rw [HAS.out, e1]; rfl
            have E1 := Lib.hid e1
            have E2 := Lib.hid e2
            have E3 := Lib.hid e3
            have HO0 := Lib.hid (OwnL.empty w3 w3.heap.size (Nat.le_refl _))
            have HB30 := Lib.hid ((Below.refl w3.heap.size w3).alloc (Nat.le_refl _) (.cells #[] 3))
            clear e1 e2 e3
            go_wp2
            go_loopw [7, 8] (fun nv iv wr => ∃ k : Nat, k ≤ 5 ∧ iv = .int .i64 (k : Int) ∧ OwnL wr w3.heap.size nv (ndL xs ys k) ∧ Below w3.heap.size w3 wr) (fun _ iv _ => 5 - (intOf iv).toNat)
            case atStart => exact ⟨0, by omega, rfl, HO0.out, HB30.out⟩
            case round =>
              clear f0 f1 f2 f3 g0 g1 g2 g3
              obtain ⟨k, hk, rfl, hown, hb⟩ := hrel
              have q0 := HQ0.out.below hb (by omega)
              have q1 := HQ1.out.below hb (by omega)
              obtain ⟨f0, f1, f2, f3⟩ := q0.drew.c4
              obtain ⟨g0, g1, g2, g3⟩ := q1.drew.c4
              have HB := Lib.hid hb
              have hLl := ndL_len xs ys k
              have HOW := Lib.hid hown
              obtain ⟨An, cnn, rfl⟩ := hown.form
              have hzr := hb.size
              by_cases hlt : k < 5
              · have x3 : wr.drew.cell? ⟨bx, ox + k, none⟩ = _ := (HXA.out.below hb HXA.out.1).2 k (by have := HNO.out.1; omega)
                have y3 : wr.drew.cell? ⟨bu, ou + k, none⟩ = _ := (HYA.out.below hb HYA.out.1).2 k (by have := HNP.out.1; omega)
                obtain ⟨xe, xl⟩ := HNO.out.get hlt
                obtain ⟨ye, yl⟩ := HNP.out.get hlt
                rw [xe] at x3
                rw [ye] at y3
                have hnd : ndf xs ys k = (xs.getD k 0).toNat ||| (ys.getD k 0).toNat := rfl
                have hor := or_nat6 xl yl
                rw [← hnd] at hor
                have HSN := Lib.hid (ndL_snoc xs ys k)
                generalize ndf xs ys k = z at *
                generalize (xs.getD k 0).toNat = x at *
                generalize (ys.getD k 0).toNat = y at *
                have HLL := Lib.hid hLl
                generalize ndL xs ys k = L at *
                have hk0 : (0 : Int) ≤ (k : Int) := by omega
                have hk5 : (k : Int) < 5 := by omega
                clear hb hnd xe ye xl yl q0 q1 hown hLl
                have HOD : Hid (OwnL wr.drew w3.heap.size (.slice An L.length cnn) L) := Lib.hid (by have h9 := HOW.out; exact h9)
                go_wp2
                go_region_law (refine step_append_one rfl (.tmp 35) (.tmp 47) rfl w3.heap.size (.slice An L.length cnn) L (z : Int) (by simp [Act.eval, Act.put]) (by simp [Act.eval, Act.put]) HOD.out (by have := HLL.out; omega) (by show w3.heap.size ≤ wr.heap.size; omega) ?_; intro v9 w9 hown9 hb9)
                all_goals simp only [Act.put]
                all_goals go_wp2
                all_goals
                  obtain ⟨A9, c9, hf9⟩ := hown9.form
                  subst hf9
                  go_roundw
                  case rel => exact ⟨k + 1, by omega, by go_num, by rw [HSN.out]; exact hown9, (show Below w3.heap.size w3 wr.drew from below_drewN HB.out 1).trans hb9⟩
                  case measure => simp [intOf] <;> omega
              · obtain rfl : k = 5 := by omega
                have HCL := Lib.hid (fun W h => clo_any (ndf xs ys) cn (.slice An (ndL xs ys 5).length cnn) (ndL xs ys 5) W h hc32 hLl (fun j hj => ⟨ndL_get xs ys 5 j hj, by rw [show ndf xs ys j = _ from rfl]; exact or_lt (HNO.out.get hj).2 (HNP.out.get hj).2⟩))
                have HRO := Lib.hid (OwnL.rds HOW.out)
                rw [hLl] at HCL HRO
                generalize fx (ndf xs ys) cn = FX at *
                clear f0 f1 f2 f3 g0 g1 g2 g3
                obtain ⟨f0, f1, f2, f3⟩ := q0.c4
                obtain ⟨g0, g1, g2, g3⟩ := q1.c4
                clear hb q0 q1 hown
                go_wp2
                go_quiet ((go_at_call 40; exact Calls.quiet_of (HCL.out _ (show Rds _ (.slice An 5 cnn) _ from HRO.out))))
                go_wp2
                go_ret3
                rw [E1.out, E2.out, E3.out]
                exact ⟨rfl, below_drewN (HB3.out.trans (HB.out.mono (by omega))) nq⟩
      · rw [Int.min_eq_right (Int.le_of_lt h1)] at HAB HAX
        rcases (show lo < lo2 ∨ lo2 ≤ lo from by omega) with h2 | h2
        · rw [Int.max_eq_right (Int.le_of_lt h2)] at HAB
          by_cases hmm : hi2 < lo2
          · exfalso; omega
          · have hd : decide (hi2 < lo2) = false := decide_eq_false hmm
            have e1 : B = true := by rw [HAB.out, hd]; rfl
            have e2 : X = hi2 := by rw [HAX.out, e1]; rfl
            have e3 : S = ((fx (ndf xs ys) cn : Nat) : Int) := by rw [HAS.out, e1]; rfl
            have E1 := Lib.hid e1
            have E2 := Lib.hid e2
            have E3 := Lib.hid e3
            have HO0 := Lib.hid (OwnL.empty w3 w3.heap.size (Nat.le_refl _))
            have HB30 := Lib.hid ((Below.refl w3.heap.size w3).alloc (Nat.le_refl _) (.cells #[] 3))
            clear e1 e2 e3
            go_wp2
            go_loopw [7, 8] (fun nv iv wr => ∃ k : Nat, k ≤ 5 ∧ iv = .int .i64 (k : Int) ∧ OwnL wr w3.heap.size nv (ndL xs ys k) ∧ Below w3.heap.size w3 wr) (fun _ iv _ => 5 - (intOf iv).toNat)
            case atStart => exact ⟨0, by omega, rfl, HO0.out, HB30.out⟩
            case round =>
              clear f0 f1 f2 f3 g0 g1 g2 g3
              obtain ⟨k, hk, rfl, hown, hb⟩ := hrel
              have q0 := HQ0.out.below hb (by omega)
              have q1 := HQ1.out.below hb (by omega)
              obtain ⟨f0, f1, f2, f3⟩ := q0.drew.c4
              obtain ⟨g0, g1, g2, g3⟩ := q1.drew.c4
              have HB := Lib.hid hb
              have hLl := ndL_len xs ys k
              have HOW := Lib.hid hown
              obtain ⟨An, cnn, rfl⟩ := hown.form
              have hzr := hb.size
              by_cases hlt : k < 5
              · have x3 : wr.drew.cell? ⟨bx, ox + k, none⟩ = _ := (HXA.out.below hb HXA.out.1).2 k (by have := HNO.out.1; omega)
                have y3 : wr.drew.cell? ⟨bu, ou + k, none⟩ = _ := (HYA.out.below hb HYA.out.1).2 k (by have := HNP.out.1; omega)
                obtain ⟨xe, xl⟩ := HNO.out.get hlt
                obtain ⟨ye, yl⟩ := HNP.out.get hlt
                rw [xe] at x3
                rw [ye] at y3
                have hnd : ndf xs ys k = (xs.getD k 0).toNat ||| (ys.getD k 0).toNat := rfl
                have hor := or_nat6 xl yl
                rw [← hnd] at hor
                have HSN := Lib.hid (ndL_snoc xs ys k)
                generalize ndf xs ys k = z at *
                generalize (xs.getD k 0).toNat = x at *
                generalize (ys.getD k 0).toNat = y at *
                have HLL := Lib.hid hLl
                generalize ndL xs ys k = L at *
                have hk0 : (0 : Int) ≤ (k : Int) := by omega
                have hk5 : (k : Int) < 5 := by omega
                clear hb hnd xe ye xl yl q0 q1 hown hLl
                have HOD : Hid (OwnL wr.drew w3.heap.size (.slice An L.length cnn) L) := Lib.hid (by have h9 := HOW.out; exact h9)
                go_wp2
                go_region_law (refine step_append_one rfl (.tmp 35) (.tmp 47) rfl w3.heap.size (.slice An L.length cnn) L (z : Int) (by simp [Act.eval, Act.put]) (by simp [Act.eval, Act.put]) HOD.out (by have := HLL.out; omega) (by show w3.heap.size ≤ wr.heap.size; omega) ?_; intro v9 w9 hown9 hb9)
                all_goals simp only [Act.put]
                all_goals go_wp2
                all_goals
                  obtain ⟨A9, c9, hf9⟩ := hown9.form
                  subst hf9
                  go_roundw
                  case rel => exact ⟨k + 1, by omega, by go_num, by rw [HSN.out]; exact hown9, (show Below w3.heap.size w3 wr.drew from below_drewN HB.out 1).trans hb9⟩
                  case measure => simp [intOf] <;> omega
              · obtain rfl : k = 5 := by omega
                have HCL := Lib.hid (fun W h => clo_any (ndf xs ys) cn (.slice An (ndL xs ys 5).length cnn) (ndL xs ys 5) W h hc32 hLl (fun j hj => ⟨ndL_get xs ys 5 j hj, by rw [show ndf xs ys j = _ from rfl]; exact or_lt (HNO.out.get hj).2 (HNP.out.get hj).2⟩))
                have HRO := Lib.hid (OwnL.rds HOW.out)
                rw [hLl] at HCL HRO
                generalize fx (ndf xs ys) cn = FX at *
                clear f0 f1 f2 f3 g0 g1 g2 g3
                obtain ⟨f0, f1, f2, f3⟩ := q0.c4
                obtain ⟨g0, g1, g2, g3⟩ := q1.c4
                clear hb q0 q1 hown
                go_wp2
                go_quiet ((go_at_call 40; exact Calls.quiet_of (HCL.out _ (show Rds _ (.slice An 5 cnn) _ from HRO.out))))
                go_wp2
                go_ret3
                rw [E1.out, E2.out, E3.out]
                exact ⟨rfl, below_drewN (HB3.out.trans (HB.out.mono (by omega))) nq⟩
        · rw [Int.max_eq_left h2] at HAB
          by_cases hmm : hi2 < lo
          · have hd : decide (hi2 < lo) = true := decide_eq_true hmm
            have e1 : B = false := by rw [HAB.out, hd]; rfl
            have e2 : X = -1 := by rw [HAX.out, e1]; rfl
            have e3 : S = 0 := by rw [HAS.out, e1]; rfl
            have E1 := Lib.hid e1
            have E2 := Lib.hid e2
            have E3 := Lib.hid e3
            clear e1 e2 e3
            go_wp2
            go_ret3
            rw [E1.out, E2.out, E3.out]
            exact ⟨rfl, HB3.out⟩
          · have hd : decide (hi2 < lo) = false := decide_eq_false hmm
            have e1 : B = true := by rw [HAB.out, hd]; rfl
            have e2 : X = hi2 := by rw [HAX.out, e1]; rfl
            have e3 : S = ((fx (ndf xs ys) cn : Nat) : Int) := by rw [HAS.out, e1]; rfl
            have E1 := Lib.hid e1
            have E2 := Lib.hid e2
            have E3 := Lib.hid e3
            have HO0 := Lib.hid (OwnL.empty w3 w3.heap.size (Nat.le_refl _))
            have HB30 := Lib.hid ((Below.refl w3.heap.size w3).alloc (Nat.le_refl _) (.cells #[] 3))
            clear e1 e2 e3
            go_wp2
            go_loopw [7, 8] (fun nv iv wr => ∃ k : Nat, k ≤ 5 ∧ iv = .int .i64 (k : Int) ∧ OwnL wr w3.heap.size nv (ndL xs ys k) ∧ Below w3.heap.size w3 wr) (fun _ iv _ => 5 - (intOf iv).toNat)
            case atStart => exact ⟨0, by omega, rfl, HO0.out, HB30.out⟩
            case round =>
              clear f0 f1 f2 f3 g0 g1 g2 g3
              obtain ⟨k, hk, rfl, hown, hb⟩ := hrel
              have q0 := HQ0.out.below hb (by omega)
              have q1 := HQ1.out.below hb (by omega)
              obtain ⟨f0, f1, f2, f3⟩ := q0.drew.c4
              obtain ⟨g0, g1, g2, g3⟩ := q1.drew.c4
              have HB := Lib.hid hb
              have hLl := ndL_len xs ys k
              have HOW := Lib.hid hown
              obtain ⟨An, cnn, rfl⟩ := hown.form
              have hzr := hb.size
              by_cases hlt : k < 5
              · have x3 : wr.drew.cell? ⟨bx, ox + k, none⟩ = _ := (HXA.out.below hb HXA.out.1).2 k (by have := HNO.out.1; omega)
                have y3 : wr.drew.cell? ⟨bu, ou + k, none⟩ = _ := (HYA.out.below hb HYA.out.1).2 k (by have := HNP.out.1; omega)
                obtain ⟨xe, xl⟩ := HNO.out.get hlt
                obtain ⟨ye, yl⟩ := HNP.out.get hlt
                rw [xe] at x3
                rw [ye] at y3
                have hnd : ndf xs ys k = (xs.getD k 0).toNat ||| (ys.getD k 0).toNat := rfl
                have hor := or_nat6 xl yl
                rw [← hnd] at hor
                have HSN := Lib.hid (ndL_snoc xs ys k)
                generalize ndf xs ys k = z at *
                generalize (xs.getD k 0).toNat = x at *
                generalize (ys.getD k 0).toNat = y at *
                have HLL := Lib.hid hLl
                generalize ndL xs ys k = L at *
                have hk0 : (0 : Int) ≤ (k : Int) := by omega
                have hk5 : (k : Int) < 5 := by omega
                clear hb hnd xe ye xl yl q0 q1 hown hLl
                have HOD : Hid (OwnL wr.drew w3.heap.size (.slice An L.length cnn) L) := Lib.hid (by have h9 := HOW.out; exact h9)
                go_wp2
                go_region_law (refine step_append_one rfl (.tmp 35) (.tmp 47) rfl w3.heap.size (.slice An L.length cnn) L (z : Int) (by simp [Act.eval, Act.put]) (by simp [Act.eval, Act.put]) HOD.out (by have := HLL.out; omega) (by show w3.heap.size ≤ wr.heap.size; omega) ?_; intro v9 w9 hown9 hb9)
                all_goals simp only [Act.put]
                all_goals go_wp2
                all_goals
                  obtain ⟨A9, c9, hf9⟩ := hown9.form
                  subst hf9
                  go_roundw
                  case rel => exact ⟨k + 1, by omega, by go_num, by rw [HSN.out]; exact hown9, (show Below w3.heap.size w3 wr.drew from below_drewN HB.out 1).trans hb9⟩
                  case measure => simp [intOf] <;> omega
              · obtain rfl : k = 5 := by omega
                have HCL := Lib.hid (fun W h => clo_any (ndf xs ys) cn (.slice An (ndL xs ys 5).length cnn) (ndL xs ys 5) W h hc32 hLl (fun j hj => ⟨ndL_get xs ys 5 j hj, by rw [show ndf xs ys j = _ from rfl]; exact or_lt (HNO.out.get hj).2 (HNP.out.get hj).2⟩))
                have HRO := Lib.hid (OwnL.rds HOW.out)
                rw [hLl] at HCL HRO
                generalize fx (ndf xs ys) cn = FX at *
                clear f0 f1 f2 f3 g0 g1 g2 g3
                obtain ⟨f0, f1, f2, f3⟩ := q0.c4
                obtain ⟨g0, g1, g2, g3⟩ := q1.c4
                clear hb q0 q1 hown
                go_wp2
                go_quiet ((go_at_call 40; exact Calls.quiet_of (HCL.out _ (show Rds _ (.slice An 5 cnn) _ from HRO.out))))
                go_wp2
                go_ret3
                rw [E1.out, E2.out, E3.out]
                exact ⟨rfl, below_drewN (HB3.out.trans (HB.out.mono (by omega))) nq⟩
end Go.Proofs.Ytgoafhmmaepcjaa
