/-
  The walk of the law FnPointBytes: it returns true at every code. No condition but that the code is a list that can be.
-/
import Derived.Test.YtimlmbbegeaakaaWsomy
import Derived.Test.YtimlmbbegeaakaaWeql
import Derived.Test.YtimlmbbegeaakaaWisin
namespace Go.Proofs.Ytimlmbbegeaakaa
open Go.RowKit
set_option linter.unusedVariables false

set_option maxHeartbeats 400000 in
theorem dpb_any (w : World) (a : Option Addr) (len cap : Nat) (zs : List Int) (h : IsRow .u8 w a len cap zs) :
    Calls Try.prog 15 #[.slice a len cap] w fun e w' => ∃ u l B, e = .returned u ∧ w'.ownsRow B 3 1 u l.length (ints l) ∧ l.length ≤ 40 ∧ Below w.heap.size w w' := by
  have H := Lib.hid (nr_any w a len cap zs h)
  clear h
  go_enter Try.func15, Try.ntmps15
  go_wp2_with (first | (go_at_call 22; refine H.out.mono ?_; rintro e w1 ⟨rfl, hr, hb, hz⟩; have HR := Lib.hid hr; clear hr hz) | (go_at_call 21; refine (sy_any HR.out (by omega)).mono ?_; rintro e w2 ⟨u, l, p', rfl, ho, hl, hr2, hp2, hb2⟩; have HO := Lib.hid ho; clear ho hr2))
  go_ret
  exact ⟨u, l, _, rfl, HO.out, hl, hb.trans hb2⟩

set_option maxHeartbeats 3200000 in
theorem fnPointBytes_walk (a : Option Addr) (len cap : Nat) (zs : List Int) (w : World) (h : IsRow .u8 w a len cap zs) :
    Calls Try.prog 5 #[.slice a len cap] w fun e w' => e = .returned (.bool true) ∧ Below w.heap.size w w' := by
  by_cases hg : (1048576 : Int) < (len : Int)
  · go_enter Try.func5, Try.ntmps5
    go_wp2_with fail
    go_ret
    exact ⟨rfl, Below.refl _ _⟩
  · have H := Lib.hid (dpb_any w a len cap zs h)
    clear h
    go_enter Try.func5, Try.ntmps5
    go_wp2_with fail
    refine H.out.mono ?_
    rintro e w1 ⟨u, l, B1, rfl, hu, hl, hb1⟩
    have HU := Lib.hid (Rds.of_own hu)
    have HLU := Lib.hid (own_lies (xs := l) hu)
    obtain ⟨Au, cu, rfl⟩ := own_form hu
    clear H hu
    cases hv : bytesB 16 l
    · have e0 : pntR' l = [] := by simp [pntR', hv]
      have hI : ∀ W v, Rds W v l → Calls Try.prog 9 #[v] W fun e w' => ∃ u, e = .returned u ∧ w'.ownsRow W.heap.size 3 1 u 0 (ints []) ∧ Below W.heap.size W w' := fun W v h => by
        have := iPB_any W v l h (by omega)
        rw [e0] at this; exact this
      have hS : ∀ W v, Rds W v l → Calls Try.prog 7 #[v] W fun e w' => ∃ u, e = .returned u ∧ w'.ownsRow W.heap.size 3 1 u 0 (ints []) ∧ Below W.heap.size W w' := fun W v h => by
        have := sPB_any W v l h (by omega)
        rw [e0] at this; exact this
      clear e0 hv
      go_wp2_with fail
      refine (hI _ _ HU.out).mono ?_
      rintro e w2 ⟨o, rfl, ho, hb2⟩
      have HO := Lib.hid ho
      have HLO := Lib.hid (own_lies (xs := []) ho)
      have hfo := own_fits' ho
      have HU2 := Lib.hid (HU.out.below hb2 HLU.out)
      have hz2 := hb2.size
      have hbb2 := hb1.trans (hb2.mono hb1.size)
      obtain ⟨Ao, co, rfl⟩ := own_form ho
      have hco : 0 ≤ co := hfo _ _ _ rfl
      clear ho HU hb1 hb2 hfo
      go_wp2_with fail
      refine (hS _ _ HU2.out).mono ?_
      rintro e w3 ⟨s, rfl, hs, hb3⟩
      have HS3 : Hid (Rds w3 s []) := Rds.of_own hs
      have HU3 := Lib.hid (HU2.out.below hb3 (HLU.out.mono hz2))
      have HO3 : Hid (Rds w3 (.slice Ao 0 co) []) := (Rds.of_own (xs := []) HO.out).below hb3 HLO.out
      have hbb3 := hbb2.trans (hb3.mono hbb2.size)
      have hz3 := hb3.size
      clear hs HU2 HO hbb2 hb3
      go_wp2_with fail
      refine (eqL_same _ _ _ [] HO3.out HS3.out (by simp)).mono ?_
      rintro e w4 ⟨rfl, m4, rfl⟩
      go_wp2_with fail
      refine (hS _ _ (HU3.out.drewN m4)).mono ?_
      rintro e w5 ⟨s5, rfl, hs5, hb5⟩
      have hb5' : Below w3.heap.size w3 w5 := (below_drewN (Below.refl w3.heap.size w3) m4).trans hb5
      have HS5 : Hid (Rds w5 s5 []) := Rds.of_own hs5
      have HO5 := Lib.hid (HO3.out.below hb5' (HLO.out.mono hz3))
      have hbb5 := hbb3.trans (hb5'.mono hbb3.size)
      clear hs5 hb5 hb5' hbb3
      go_wp2_with fail
      refine (eqL_same _ _ _ [] HO5.out HS5.out (by simp)).mono ?_
      rintro e w6 ⟨rfl, m6, rfl⟩
      go_wp2
      go_ret
      exact ⟨rfl, below_drewN hbb5 m6⟩
    · have e0 : pntR' l = pnt l := by simp [pntR', hv]
      obtain ⟨hRlen, hno, hu⟩ := pnt_bytes hv
      have h16 : l.length ≤ 16 := by simp [bytesB] at hv; exact hv.1
      generalize pnt l = R at *
      have hI : ∀ W v, Rds W v l → Calls Try.prog 9 #[v] W fun e w' => ∃ u, e = .returned u ∧ w'.ownsRow W.heap.size 3 1 u R.length (ints R) ∧ Below W.heap.size W w' := fun W v h => by
        have := iPB_any W v l h (by omega)
        rw [e0] at this; exact this
      have hS : ∀ W v, Rds W v l → Calls Try.prog 7 #[v] W fun e w' => ∃ u, e = .returned u ∧ w'.ownsRow W.heap.size 3 1 u R.length (ints R) ∧ Below W.heap.size W w' := fun W v h => by
        have := sPB_any W v l h (by omega)
        rw [e0] at this; exact this
      clear e0 hv
      have HNO := Lib.hid hno
      have HUN := Lib.hid hu
      clear hno hu
      have hR1 : 1 ≤ R.length := by omega
      have hR2 : R.length ≤ 17 := by omega
      have HRL := Lib.hid hRlen
      clear hRlen
      go_wp2_with fail
      refine (hI _ _ HU.out).mono ?_
      rintro e w2 ⟨o, rfl, ho, hb2⟩
      have HO := Lib.hid ho
      have HLO := Lib.hid (own_lies (xs := R) ho)
      have hfo := own_fits' ho
      have HU2 := Lib.hid (HU.out.below hb2 HLU.out)
      have hz2 := hb2.size
      have hbb2 := hb1.trans (hb2.mono hb1.size)
      obtain ⟨Ao, co, rfl⟩ := own_form ho
      have hco : R.length ≤ co := hfo _ _ _ rfl
      clear ho HU hb1 hb2 hfo
      go_wp2_with fail
      refine (hS _ _ HU2.out).mono ?_
      rintro e w3 ⟨s, rfl, hs, hb3⟩
      have HS3 : Hid (Rds w3 s R) := Rds.of_own hs
      have HU3 := Lib.hid (HU2.out.below hb3 (HLU.out.mono hz2))
      have HO3 : Hid (Rds w3 (.slice Ao R.length co) R) := (Rds.of_own (xs := R) HO.out).below hb3 HLO.out
      have hbb3 := hbb2.trans (hb3.mono hbb2.size)
      have hz3 := hb3.size
      clear hs HU2 HO hbb2 hb3
      go_wp2_with fail
      refine (eqL_same _ _ _ R HO3.out HS3.out (by omega)).mono ?_
      rintro e w4 ⟨rfl, m4, rfl⟩
      have hq0 : ((R.length : Int) == 0) = false := beq_eq_false_iff_ne.2 (by omega)
      obtain ⟨bo, offo, hA, haO⟩ : ∃ b off, Ao = some ⟨b, off, none⟩ ∧ At w3 b off R := by
        obtain ⟨A', c', hv', h1'⟩ := HO3.out
        cases hv'
        exact h1' (by omega)
      subst hA
      have HAO := Lib.hid haO
      clear haO
      go_wp2_with fail
      have hun := iUP_any (w3.drewN m4) (.slice (some ⟨bo, offo, none⟩) R.length co) R (HO3.out.drewN m4) (by omega) (fun A n c hv => by cases hv; exact hco)
      rw [HUN.out] at hun
      have HUV := Lib.hid hun
      clear hun
      refine HUV.out.mono ?_
      rintro e w5 ⟨bk, rfl, hbk, hb5⟩
      have hb5' : Below w3.heap.size w3 w5 := (below_drewN (Below.refl w3.heap.size w3) m4).trans hb5
      have HBK : Hid (Rds w5 bk l) := Rds.of_own hbk
      have HU5 := Lib.hid (HU3.out.below hb5' (HLU.out.mono (Nat.le_trans hz2 hz3)))
      have hbo : bo < w3.heap.size := HAO.out.1
      have HA5 := Lib.hid (HAO.out.below hb5' hbo)
      have hbb5 := hbb3.trans (hb5'.mono hbb3.size)
      have hln : ((R.length : Int) == (l.length : Int) + 1) = true := by rw [beq_iff_eq]; have := HRL.out; omega
      clear hbk hb5 hb5' hbb3
      go_wp2_with fail
      refine (eqL_same _ _ _ l HBK.out HU5.out (by omega)).mono ?_
      rintro e w6 ⟨rfl, m6, rfl⟩
      go_wp2_with fail
      refine (isin_no _ bo offo co R.length R 0 rfl (by omega) (HA5.out.drewN m6) HNO.out).mono ?_
      rintro e w7 ⟨rfl, rfl⟩
      go_wp2
      go_ret
      exact ⟨rfl, below_drewN hbb5 m6⟩
end Go.Proofs.Ytimlmbbegeaakaa
