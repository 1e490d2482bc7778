/-
  The walk of the law FnValidOffer: it returns true at every list of bytes. Conditions: the list is one that can be.
-/
import Derived.Test.YtgoafhmmaepcjaaWdof
namespace Go.Proofs.Ytgoafhmmaepcjaa
open Go.RowKit
set_option linter.unusedVariables false

/-- A box of the call's own with an offer in it. -/
structure Bo (g : Nat) (o : Ofr) (v : Value) (w : World) : Prop where
  a : Blk w g 34 #[.int .i64 o.lo, .int .i64 o.hi, .int .i64 o.ca, v]
  r : Rds w v o.nd
  z : g < w.heap.size
theorem Bo.more {w w' : World} {g : Nat} {o : Ofr} {v : Value} (h : Bo g o v w) (hb : Below w.heap.size w w') : Bo g o v w' :=
  ⟨h.a.below hb h.z, h.r.more6 hb, Nat.lt_of_lt_of_le h.z hb.size⟩
theorem Bo.new {w : World} {o : Ofr} {v : Value} (h : Rds w v o.nd) : Bo w.heap.size o v (w.alloc (.cells #[.int .i64 o.lo, .int .i64 o.hi, .int .i64 o.ca, v] 34)) :=
  ⟨Blk.new w 34 _, h.more6 ((Below.refl _ w).alloc (Nat.le_refl _) _), by simp⟩
/-- The skills of an agreement are skills of both. -/
theorem agS_facts {o p : Ofr} (h : agB o p = true) : voB o = true ∧ voB p = true ∧ agX o p = min o.hi p.hi ∧ max o.lo p.lo ≤ min o.hi p.hi ∧ ∃ S : Nat, agS o p = S ∧ S = fx (ndf o.nd p.nd) (caN o p) ∧ S < 32 ∧ bits .and .i64 (S : Int) o.ca = S ∧ bits .and .i64 (S : Int) p.ca = S := by
  have h' := h
  simp only [agB, Bool.and_eq_true, Bool.not_eq_true', decide_eq_false_iff_not] at h'
  obtain ⟨h1, h2, h3⟩ := h'
  obtain ⟨_, c1, _⟩ := voB_parts h1
  obtain ⟨_, c2, _⟩ := voB_parts h2
  have hs := fx_sub (ndf o.nd p.nd) (caN o p)
  have ho : o.ca.toNat < 32 := by omega
  have hp : p.ca.toNat < 32 := by omega
  have hca : caN o p < 32 := Nat.lt_of_le_of_lt Nat.and_le_left ho
  have hS : fx (ndf o.nd p.nd) (caN o p) < 32 := fx_lt hca
  have s1 : caN o p &&& o.ca.toNat = caN o p := by rw [sub_iff]; intro i hi; unfold caN at hi; rw [Nat.testBit_and, Bool.and_eq_true] at hi; exact hi.1
  have s2 : caN o p &&& p.ca.toNat = caN o p := by rw [sub_iff]; intro i hi; unfold caN at hi; rw [Nat.testBit_and, Bool.and_eq_true] at hi; exact hi.2
  have e1 := and_nat6 (a := fx (ndf o.nd p.nd) (caN o p)) (b := o.ca.toNat) hS ho
  have e2 := and_nat6 (a := fx (ndf o.nd p.nd) (caN o p)) (b := p.ca.toNat) hS hp
  rw [sub_trans hs s1, Int.toNat_of_nonneg c1.1] at e1
  rw [sub_trans hs s2, Int.toNat_of_nonneg c2.1] at e2
  exact ⟨h1, h2, by unfold agX; rw [if_pos h], by omega, _, by unfold agS; rw [if_pos h], rfl, hS, e1, e2⟩
theorem agB_self {o : Ofr} (h : voB o = true) : agB o o = true := by
  obtain ⟨_, _, _, h1, _⟩ := voB_parts h
  simp only [agB, Bool.and_eq_true, Bool.not_eq_true', decide_eq_false_iff_not]
  exact ⟨h, h, by omega⟩

set_option maxRecDepth 50000 in
set_option maxHeartbeats 6400000 in
theorem fnValidOffer_walk (a : Option Addr) (len cap : Nat) (zs : List Int) (w : World) (h : IsRow .u8 w a len cap zs) :
    Calls Try.prog 8 #[.slice a len cap] w fun e w' => e = .returned (.bool true) ∧ Below w.heap.size w w' := by
  by_cases hg : (1048576 : Int) < (len : Int)
  · go_enter Try.func8, Try.ntmps8
    go_wp2_with fail
    go_ret
    exact ⟨rfl, Below.refl _ _⟩
  · have H := Lib.hid (dvo_any w a len cap zs h)
    clear h
    go_enter Try.func8, Try.ntmps8
    go_wp2_with fail
    refine H.out.mono ?_
    rintro e w1 ⟨lo, hi, ca, A, c, xs, rfl, hrd, hx5, hb1⟩
    have hbo := Bo.new (o := ⟨lo, hi, ca, xs⟩) hrd
    have HBO := Lib.hid hbo
    have HB1 := Lib.hid (hb1.alloc hb1.size (.cells #[.int .i64 lo, .int .i64 hi, .int .i64 ca, .slice A xs.length c] 34))
    have hI := fun W h => iVO_any ⟨lo, hi, ca, xs⟩ (.slice A xs.length c) W h (by show xs.length ≤ 1048576; omega)
    have hS := fun W h => sVO_any ⟨lo, hi, ca, xs⟩ (.slice A xs.length c) W h (by show xs.length ≤ 1048576; omega)
    have hA := fun W h => iAG_any ⟨lo, hi, ca, xs⟩ ⟨lo, hi, ca, xs⟩ (.slice A xs.length c) (.slice A xs.length c) W h h (by show xs.length ≤ 1048576; omega) (by show xs.length ≤ 1048576; omega)
    have HSE := Lib.hid (agB_self (o := ⟨lo, hi, ca, xs⟩))
    have HFA := Lib.hid (agS_facts (o := ⟨lo, hi, ca, xs⟩) (p := ⟨lo, hi, ca, xs⟩))
    unfold ofv at hI hS hA
    simp only at hI hS hA
    generalize voB ⟨lo, hi, ca, xs⟩ = bb at *
    generalize agB ⟨lo, hi, ca, xs⟩ ⟨lo, hi, ca, xs⟩ = ab at *
    have HI := Lib.hid hI
    have HS := Lib.hid hS
    have HA := Lib.hid hA
    obtain ⟨p0, p1, p2, p3⟩ := hbo.a.c4
    clear hrd hb1 hbo H hI hS hA
    go_upto_region 4 with fail
    generalize w1.alloc (.cells #[.int .i64 lo, .int .i64 hi, .int .i64 ca, .slice A xs.length c] 34) = w2 at *
    generalize w1.heap.size = q at *
    go_wp2_with fail
    refine (HI.out _ HBO.out.r).mono ?_
    rintro e w3 ⟨rfl, hb3⟩
    have HBO3 := Lib.hid (HBO.out.more hb3)
    have HB3 := Lib.hid (HB1.out.trans (hb3.mono HB1.out.size))
    clear hb3 p0 p1 p2 p3 HBO HB1 HI
    obtain ⟨p0, p1, p2, p3⟩ := HBO3.out.a.c4
    simp only at p0 p1 p2
    go_wp2_with fail
    refine (HS.out _ HBO3.out.r).mono ?_
    rintro e w4 ⟨rfl, hb4⟩
    have HBO4 := Lib.hid (HBO3.out.more hb4)
    have HB4 := Lib.hid (HB3.out.trans (hb4.mono HB3.out.size))
    clear hb4 p0 p1 p2 p3 HBO3 HB3
    obtain ⟨p0, p1, p2, p3⟩ := HBO4.out.a.c4
    simp only at p0 p1 p2
    cases bb
    · go_wp2_with fail
      refine (HS.out _ HBO4.out.r).mono ?_
      rintro e w5 ⟨rfl, hb5⟩
      have HB5 := Lib.hid (HB4.out.trans (hb5.mono HB4.out.size))
      clear hb5
      go_wp2
      go_ret
      exact ⟨rfl, HB5.out⟩
    · have hab := HSE.out (by first | rfl | trivial)
      obtain ⟨_, _, hX, _, S, hS, _, _, hand, _⟩ := HFA.out hab
      have hm : min hi hi = hi := by omega
      have hA := HA.out
      try simp only at hX
      try simp only at hand
      rw [hX, hS, hab, hm] at hA
      have HA2 := Lib.hid hA
      generalize (S : Int) = s at *
      clear hA hab hX hS hm HA HSE HFA
      go_wp2_with fail
      refine (HA2.out _ HBO4.out.r).mono ?_
      rintro e w5 ⟨rfl, hb5⟩
      have HBO5 := Lib.hid (HBO4.out.more hb5)
      have HB5 := Lib.hid (HB4.out.trans (hb5.mono HB4.out.size))
      clear hb5 p0 p1 p2 p3
      obtain ⟨p0, p1, p2, p3⟩ := HBO5.out.a.c4
      simp only at p0 p1 p2
      go_wp2
      go_ret
      exact ⟨rfl, HB5.out⟩
end Go.Proofs.Ytgoafhmmaepcjaa
