/-
  The walk of the law FnDepthFor: it returns true at every list of bytes. No condition but that the list is one that can be.
-/
import Derived.Test.YteifojanklggmaaWde
import Derived.Test.YteifojanklggmaaWdt
import Derived.Test.YteifojanklggmaaWsld
namespace Go.Proofs.Yteifojanklggmaa
open Go.RowKit
set_option linter.unusedVariables false

/-- What is asked of the answer where the loads are loads. -/
theorem dep_law {r : Int} {l : List Int} (hr : rateB r = true) (hl : okL l = true) :
    (depB' r l = true ∧ dv r l l.length ≤ 200 ∧ depN r l = dv r l l.length) ∨ (depB' r l = false ∧ 200 < dv r l l.length) := by
  have hr0 : 0 ≤ r := by
    have : 0 ≤ r ∧ r ≤ 30 := by simpa [rateB] using hr
    exact this.1
  have e : depO r l = depFrom r l 201 0 := by simp [depO, depOk, hr, hl]
  cases h : depFrom r l 201 0 with
  | none => exact .inr ⟨by unfold depB'; rw [e, h]; rfl, dep_none hr0 h⟩
  | some d =>
    obtain ⟨h1, h2⟩ := dep_some hr0 h
    refine .inl ⟨by unfold depB'; rw [e, h]; rfl, by omega, ?_⟩
    unfold depN
    rw [e, h]
    exact h1
theorem dep_bad {r : Int} {l : List Int} (hl : okL l = false) : depB' r l = false := by
  have e : depO r l = none := by simp [depO, depOk, hl]
  unfold depB'; rw [e]; rfl

set_option maxHeartbeats 3200000 in
theorem fnDepthFor_walk (a : Option Addr) (len cap : Nat) (zs : List Int) (w : World) (h : IsRow .u8 w a len cap zs) :
    Calls Try.prog 6 #[.slice a len cap] w fun e w' => e = .returned (.bool true) ∧ Below w.heap.size w w' := by
  by_cases hg : (1048576 : Int) < (len : Int)
  · go_enter Try.func6, Try.ntmps6
    go_wp2_with fail
    go_ret
    exact ⟨rfl, Below.refl _ _⟩
  · have H := Lib.hid (ddf_any w a len cap zs h)
    clear h
    go_enter Try.func6, Try.ntmps6
    go_wp2_with fail
    refine H.out.mono ?_
    rintro e w1 ⟨r, v, l, B, rfl, hv, hll, hB, hrb, hb1⟩
    have hS := fun W h => sDF_any r W v l h (by omega)
    have hI := fun W h => iDF_any r W v l h (by omega)
    unfold DepPost at hS hI
    have HP := Lib.hid (fun W (h : Rds W v l) => iPO_any r 0 W v l h (by omega) h.lies)
    have HDP := Lib.hid (fun W (h : Rds W v l) (hr : 0 ≤ r ∧ r ≤ 30) (hl : okL l = true) => dpo_any W r v l h hr hl)
    have HLAW := Lib.hid (fun (hr : rateB r = true) (hl : okL l = true) => dep_law hr hl)
    have HBAD := Lib.hid (fun (hl : okL l = false) => dep_bad (r := r) hl)
    have HB1 := Lib.hid hb1
    have HV1 := Lib.hid hv
    have z1 := hb1.size
    obtain ⟨Av, cv, rfl⟩ := hv.form
    clear hv hb1 H
    generalize depN r l = n at *
    generalize hbb : depB' r l = bb at *
    have HBB := Lib.hid hbb
    clear hbb
    cases bb
    all_goals
      have HS := Lib.hid hS
      have HI := Lib.hid hI
      clear hS hI
      go_wp2_with fail
      refine (HI.out _ (OwnL.rds HV1.out)).mono ?_
      rintro e w2 ⟨rfl, hb2⟩
      have HB2 := Lib.hid (HB1.out.trans (hb2.mono z1))
      have HV2 : Hid (OwnL w2 B _ l) := Lib.hid (OwnL.below HV1.out hb2 (Nat.le_refl _))
      clear hb2 HB1 HI HV1
      go_wp2_with fail
      refine (HS.out _ (OwnL.rds HV2.out)).mono ?_
      rintro e w3 ⟨rfl, hb3⟩
      have HB3 := Lib.hid (HB2.out.trans (hb3.mono HB2.out.size))
      have HV3 : Hid (OwnL w3 B _ l) := Lib.hid (OwnL.below HV2.out hb3 (Nat.le_refl _))
      clear hb3 HB2 HV2 HS
      rcases (show r < 0 ∨ 30 < r ∨ (0 ≤ r ∧ r ≤ 30) from by omega) with hr | hr | hr
      · go_wp2
        go_ret
        exact ⟨rfl, HB3.out⟩
      · go_wp2
        go_ret
        exact ⟨rfl, HB3.out⟩
      · have hrB : rateB r = true := by simp [rateB]; omega
        have hC := HP.out w3 (OwnL.rds HV3.out)
        cases hl : okL l
        · have hbk : bokB r 0 l = false := by simp [bokB, hl]
          rw [bokL_bad hbk, bokN_bad hbk] at hC
          have HC := Lib.hid hC
          have hbb := HBAD.out hl
          clear hbk hC hl HDP HLAW HBAD HP
          first
            | (cases hbb; done)
            | (clear hbb
               go_wp2_with fail
               refine HC.out.mono ?_
               rintro e w4 ⟨u, rfl, hu, hb4⟩
               obtain ⟨Au, cu, rfl⟩ := hu.form
               have HB4 := Lib.hid (HB3.out.trans (hb4.mono HB3.out.size))
               clear hu hb4
               go_wp2
               go_ret
               exact ⟨rfl, HB4.out⟩)
        · have hbk : bokB r 0 l = true := by simp [bokB, hrB, hl, depB]
          rw [bokL_ok hbk, bokN_ok hbk] at hC
          have hh0 := hh_bd (d := 0) hr.1 (Int.le_refl _) hl l.length
          have HC := Lib.hid hC
          have HD := Lib.hid (fun W h => HDP.out W h hr hl)
          have hlaw := HLAW.out hrB hl
          clear hbk hC hl HDP HLAW HBAD HP
          generalize hh r 0 l l.length = h0 at *
          generalize dv r l l.length = dvv at *
          go_wp2_with fail
          refine HC.out.mono ?_
          rintro e w4 ⟨u, rfl, hu, hb4⟩
          have HB4 := Lib.hid (HB3.out.trans (hb4.mono HB3.out.size))
          have HV4 : Hid (OwnL w4 B _ l) := Lib.hid (OwnL.below HV3.out hb4 (Nat.le_refl _))
          have HLW := Lib.hid hlaw
          clear hu hb4 hlaw
          go_wp2_with fail
          refine (HD.out _ (OwnL.rds HV4.out)).mono ?_
          rintro e w5 ⟨rfl, rfl⟩
          rcases HLW.out with ⟨h1, h2, h3⟩ | ⟨h1, h2⟩
          · first
              | (cases h1; done)
              | (have hd1 : decide (dvv ≤ 200) = true := decide_eq_true h2
                 have hq : (n == dvv) = true := by simpa using h3
                 clear h1 h2 h3
                 go_wp2
                 go_ret
                 exact ⟨rfl, HB4.out⟩)
          · first
              | (cases h1; done)
              | (have hd1 : decide (dvv ≤ 200) = false := decide_eq_false (by omega)
                 clear h1 h2
                 go_wp2
                 go_ret
                 exact ⟨rfl, HB4.out⟩)
end Go.Proofs.Yteifojanklggmaa
