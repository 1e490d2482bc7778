/-
  The plain mathematics of wholes that come in any order, and of holes that fill up: no program is named here. No condition.
-/
import Derived.Test.YteililppbnbfhaaWwh
namespace Go.Proofs.Yteililppbnbfhaa
set_option linter.unusedVariables false

theorem fE_some' : ∀ (ps : List Pc), fE ps ≠ -1 → ∃ p ∈ ps, p.m = false ∧ p.e = fE ps
  | [], h => absurd rfl h
  | p :: t, h => by
    cases hm : p.m
    · refine ⟨p, by simp, hm, ?_⟩
      simp [fE, hm]
    · have e : fE (p :: t) = fE t := by simp [fE, hm]
      rw [e] at h ⊢
      obtain ⟨q, h1, h2, h3⟩ := fE_some' t h
      exact ⟨q, by simp [h1], h2, h3⟩
theorem fE_all {E : Int} : ∀ (R : List Pc), (∀ r ∈ R, r.m = false → r.e = E) → (∃ r ∈ R, r.m = false) → fE R = E
  | [], _, h => by obtain ⟨r, hr, _⟩ := h; cases hr
  | p :: t, h1, h2 => by
    cases hm : p.m
    · have e := h1 p (by simp) hm
      simp [fE, hm, e]
    · have e : fE (p :: t) = fE t := by simp [fE, hm]
      rw [e]
      refine fE_all t (fun r hr => h1 r (by simp [hr])) ?_
      obtain ⟨r, hr, hrm⟩ := h2
      rcases List.mem_cons.1 hr with rfl | hr
      · rw [hm] at hrm; cases hrm
      · exact ⟨r, hr, hrm⟩
theorem ok_rev1 {ps : List Pc} (ho : okE ps = true) : okE ps.reverse = true ∧ fE ps.reverse = fE ps := by
  obtain ⟨hv, hall, h20, _⟩ := okE_parts' ho
  have hgw : ps.all (gw (fE ps)) = true := by
    have := ho
    simp only [okE, Bool.and_eq_true] at this
    exact this.2
  have hf : ∀ r ∈ ps, r.m = false → r.e = fE ps := fun r hr hm => by
    have hg := List.all_eq_true.1 hgw r hr
    unfold gw at hg
    rw [hm] at hg
    simpa using hg
  have hE : fE ps.reverse = fE ps := by
    rcases fE_bd hall with h1 | ⟨h1, h2⟩
    · rw [h1]
      refine fE_none _ (fun p hp => ?_)
      have hp' : p ∈ ps := List.mem_reverse.1 hp
      cases hm : p.m
      · have := hf p hp' hm
        have h3 := e_bd hall p hp'
        omega
      · rfl
    · obtain ⟨p, hp, hm, _⟩ := fE_some' ps (by omega)
      exact fE_all _ (fun r hr hrm => hf r (List.mem_reverse.1 hr) hrm) ⟨p, List.mem_reverse.2 hp, hm⟩
  refine ⟨?_, hE⟩
  simp only [okE, vpB, lpB, Bool.and_eq_true, decide_eq_true_eq, List.length_reverse]
  refine ⟨⟨?_, by omega⟩, ?_⟩
  · rw [List.all_reverse]; exact hall
  · rw [hE, List.all_reverse]; exact hgw
theorem ok_rev (ps : List Pc) : okE ps.reverse = okE ps := by
  cases h : okE ps
  · cases h' : okE ps.reverse
    · rfl
    · have := (ok_rev1 h').1
      rw [List.reverse_reverse, h] at this; cases this
  · exact (ok_rev1 h).1
theorem whole_rev (ps : List Pc) : wholeB ps.reverse = wholeB ps := by
  unfold wholeB
  rw [ok_rev]
  cases h : okE ps
  · rfl
  · rw [(ok_rev1 h).2]
    have hin : ∀ j, inI ps.reverse j = inI ps j := fun j => by unfold inI; rw [List.any_reverse]
    unfold fulB
    simp only [hin]
theorem whole_nil : wholeB [] = false := by decide
theorem WA.whole {ps : List Pc} {r : Int} {b : Bool} (h : WA ps r b) (hw : wholeB ps = true) : b = true := by
  rcases h with ⟨_, _, _, _, rfl, _⟩ | ⟨h1, _, rfl⟩
  · rfl
  · exfalso
    have ho : okE ps = true := by
      unfold wholeB at hw
      rw [Bool.and_eq_true] at hw
      exact hw.1
    obtain ⟨hv, _⟩ := okE_parts' ho
    have hne : 0 < ps.length := by
      rcases Nat.eq_zero_or_pos ps.length with h0 | h0
      · have : ps = [] := List.eq_nil_of_length_eq_zero h0
        rw [this, whole_nil] at hw; cases hw
      · exact h0
    have := h1 hv (ps.length - 1) (by omega)
    rw [show ps.length - 1 + 1 = ps.length from by omega, List.take_length, hw] at this
    cases this
theorem WA.parts {ps : List Pc} {r : Int} (h : WA ps r true) : ∃ k : Nat, k < ps.length ∧ r = (k : Int) + 1 ∧ wholeB (ps.take (k + 1)) = true ∧ ∀ j, j ≤ k → wholeB (ps.take j) = false := by
  rcases h with ⟨k, h1, hv, hr, _, h2, h3⟩ | ⟨_, _, hb⟩
  · refine ⟨k, h1, hr, h2, fun j hj => ?_⟩
    cases j with
    | zero => rw [List.take_zero]; exact whole_nil
    | succ j => exact h3 j (by omega)
  · cases hb
/-- Holes with the pieces around them have none. -/
theorem HP.filled {ps R : List Pc} {N : Nat} (h : HP ps N R) (ho : okH ps N = true) (hl : (ps ++ R).length ≤ 20) : okH (ps ++ R) N = true ∧ ∀ R2, HP (ps ++ R) N R2 → ((R2.length : Int) == 0) = true := by
  obtain ⟨hn, hi, _⟩ := h.1 ho
  have e : ((N : Int)).toNat = N := by omega
  rw [e] at hi
  obtain ⟨hv, hall, _, N', hN', hN1, hN2⟩ := okH_valid ho
  obtain rfl : N = N' := by omega
  have hallR : R.all pcB = true := by
    rw [List.all_eq_true]
    intro p hp
    have hs := hn.2 p hp
    have he : p.e = p.a + p.s := rfl
    have b1 := mis_bd p.a ((hi p.a).1 ⟨p, hp, by omega, by omega⟩)
    have b2 := mis_bd (p.e - 1) ((hi (p.e - 1)).1 ⟨p, hp, by omega, by omega⟩)
    simp only [pcB, c1B, c2B, Bool.and_eq_true, decide_eq_true_eq]
    omega
  have ho2 : okH (ps ++ R) N = true := by
    simp only [okH, vpB, lpB, Bool.and_eq_true, decide_eq_true_eq, List.all_append, hall, hallR, true_and]
    omega
  refine ⟨ho2, fun R2 h2 => ?_⟩
  rw [h2.full ho2, fulB_iff]
  intro k
  cases hm : mis (ps ++ R) N k
  · rfl
  · exfalso
    have hb := mis_bd k hm
    unfold mis inI at hm
    rw [List.any_append] at hm
    have h3 : mis ps N k = true := by
      unfold mis inI
      simp only [Bool.and_eq_true, Bool.not_eq_true', Bool.or_eq_false_iff] at hm ⊢
      exact ⟨hm.1, hm.2.1⟩
    have h4 := (inI_iff R k).2 ((hi k).2 h3)
    unfold inI at h4
    simp only [Bool.and_eq_true, Bool.not_eq_true', Bool.or_eq_false_iff] at hm
    rw [hm.2.2] at h4; cases h4
theorem Norm.at2 {R : List Pc} (h : Norm R) (k : Nat) (hk : k + 1 < R.length) : (R.getD k d0).e < (R.getD (k + 1) d0).a := by
  have := (List.pairwise_iff_getElem.1 h.1) k (k + 1) (by omega) hk (by omega)
  rw [List.getD_eq_getElem?_getD, List.getD_eq_getElem?_getD, List.getElem?_eq_getElem hk, List.getElem?_eq_getElem (by omega)]
  exact this
theorem pmem_getD {R : List Pc} (k : Nat) (hk : k < R.length) : R.getD k d0 ∈ R := by
  rw [List.getD_eq_getElem?_getD, List.getElem?_eq_getElem hk]; exact List.getElem_mem _
/-- What holes are, one by one. -/
theorem HP.each {ps R : List Pc} {N : Nat} (h : HP ps N R) (ho : okH ps N = true) (k : Nat) (hk : k < R.length) : 0 ≤ (R.getD k d0).a ∧ 1 ≤ (R.getD k d0).s ∧ (R.getD k d0).e ≤ 60 ∧ (k + 1 < R.length → (R.getD k d0).e < (R.getD (k + 1) d0).a ∧ (R.getD k d0).m = true) := by
  obtain ⟨hn, hi, hf⟩ := h.1 ho
  have e : ((N : Int)).toNat = N := by omega
  rw [e] at hi
  obtain ⟨hv, hall, _, N', hN', hN1, hN2⟩ := okH_valid ho
  obtain rfl : N = N' := by omega
  have hbd : ∀ p ∈ R, 0 ≤ p.a ∧ 1 ≤ p.s ∧ p.e ≤ N ∧ p.a < N := fun p hp => by
    have hs := hn.2 p hp
    have he : p.e = p.a + p.s := rfl
    have b1 := mis_bd p.a ((hi p.a).1 ⟨p, hp, by omega, by omega⟩)
    have b2 := mis_bd (p.e - 1) ((hi (p.e - 1)).1 ⟨p, hp, by omega, by omega⟩)
    omega
  have h1 := hbd _ (pmem_getD k hk)
  refine ⟨h1.1, h1.2.1, by omega, fun hk2 => ?_⟩
  have h2 := hn.at2 k hk2
  have h3 := hbd _ (pmem_getD (k + 1) hk2)
  refine ⟨h2, ?_⟩
  rw [hf _ (pmem_getD k hk)]
  exact decide_eq_true (by omega)
end Go.Proofs.Yteililppbnbfhaa
