/-
  The plain mathematics of pieces that are joined again: no program is named here. No condition.
-/
import Derived.Test.YtpkajiflbejajaaWijp
import Derived.Test.YtpkajiflbejajaaHol
namespace Go.Proofs.Ytpkajiflbejajaa
set_option linter.unusedVariables false

theorem fE_some : ∀ (ps : List Pc), fE ps ≠ -1 → ∃ p ∈ ps, p.m = false ∧ p.e = fE ps
  | [], h => absurd rfl h
  | p :: t, h => by
    cases hm : p.m
    · refine ⟨p, by simp, hm, ?_⟩
      simp [fE, hm]
    · have e : fE (p :: t) = fE t := by simp [fE, hm]
      rw [e] at h ⊢
      obtain ⟨q, h1, h2, h3⟩ := fE_some t h
      exact ⟨q, by simp [h1], h2, h3⟩
theorem fE_flag {E : Int} : ∀ (R : List Pc), (∀ r ∈ R, r.m = (r.e != E)) → (∃ r ∈ R, r.m = false) → fE R = E
  | [], _, h => by obtain ⟨r, hr, _⟩ := h; cases hr
  | p :: t, h1, h2 => by
    cases hm : p.m
    · have := h1 p (by simp)
      rw [hm] at this
      have e : p.e = E := by simpa using this.symm
      simp [fE, hm, e]
    · have e : fE (p :: t) = fE t := by simp [fE, hm]
      rw [e]
      refine fE_flag t (fun r hr => h1 r (by simp [hr])) ?_
      obtain ⟨r, hr, hrm⟩ := h2
      rcases List.mem_cons.1 hr with rfl | hr
      · rw [hm] at hrm; cases hrm
      · exact ⟨r, hr, hrm⟩
theorem sorted_perm_ex (ps : List Pc) : ∃ ts : List Pc, ts.Perm ps ∧ ts.Pairwise (fun p q => p.a ≤ q.a) := by
  refine ⟨ps.mergeSort (fun p q => decide (p.a ≤ q.a)), List.mergeSort_perm _ _, ?_⟩
  have h := List.pairwise_mergeSort (le := fun p q : Pc => decide (p.a ≤ q.a)) (fun a b c h1 h2 => by simp only [decide_eq_true_eq] at *; omega) (fun a b => by simp only [Bool.or_eq_true, decide_eq_true_eq]; omega) ps
  exact h.imp (fun h => by simpa using h)
theorem JP.again {ps R : List Pc} (h : JP ps R) (ho : okE ps = true) : JP R R ∧ okE R = true ∧ (∀ k, inI R k = inI ps k) ∧ R.length ≤ ps.length ∧ okH R 60 = true ∧ okH ps 60 = true ∧ (∀ p ∈ R, 0 ≤ p.a ∧ 1 ≤ p.s ∧ p.e ≤ 60) ∧ Norm R := by
  obtain ⟨hall, h20, _⟩ := okE_valid ho
  obtain ⟨hn, hi, hf⟩ := h.1 ho
  have hbd : ∀ p ∈ R, 0 ≤ p.a ∧ 1 ≤ p.s ∧ p.e ≤ 60 := fun p hp => by
    have hs := hn.2 p hp
    have he : p.e = p.a + p.s := rfl
    have b1 := inn_bd hall ((hi p.a).1 ⟨p, hp, by omega, by omega⟩)
    have b2 := inn_bd hall ((hi (p.e - 1)).1 ⟨p, hp, by omega, by omega⟩)
    exact ⟨b1.1, hs, by omega⟩
  have hlen : R.length ≤ ps.length := by
    obtain ⟨ts, hp, hs⟩ := sorted_perm_ex ps
    obtain ⟨hj, hall2, _, _⟩ := JP.of_tou ho hp hs
    have e := h.uniq hj
    have h1 : ∀ p ∈ ts, 1 ≤ p.s := fun p hm => (pc_yes (List.all_eq_true.1 hall2 p hm)).2.2.1
    have := (tou_all h1 hs).2.2
    rw [e, List.length_map]
    have := hp.length_eq
    omega
  have hallR : R.all pcB = true := by
    rw [List.all_eq_true]
    intro p hp
    have := hbd p hp
    have he : p.e = p.a + p.s := rfl
    simp only [pcB, c1B, c2B, Bool.and_eq_true, decide_eq_true_eq]
    omega
  have hvR : vpB R = true := by
    simp only [vpB, lpB, Bool.and_eq_true, decide_eq_true_eq]
    exact ⟨hallR, by omega⟩
  have hvP : vpB ps = true := by
    simp only [vpB, lpB, Bool.and_eq_true, decide_eq_true_eq]
    exact ⟨hall, by omega⟩
  have hgw : ps.all (gw (fE ps)) = true := by
    have := ho
    simp only [okE, Bool.and_eq_true] at this
    exact this.2
  have hE : fE R = fE ps ∧ ∀ p ∈ R, gw (fE ps) p = true := by
    rcases fE_bd hall with h1 | ⟨h1, h2⟩
    · rw [h1] at hf ⊢
      have hm : ∀ p ∈ R, p.m = true := fun p hp => by
        rw [hf p hp]
        have := hbd p hp
        have he : p.e = p.a + p.s := rfl
        rw [bne_iff_ne]; omega
      exact ⟨fE_none R hm, fun p hp => by simp [gw, hm p hp]⟩
    · obtain ⟨p0, hp0, hm0, he0⟩ := fE_some ps (by omega)
      have hle : ∀ r ∈ R, r.e ≤ fE ps := fun r hr => by
        have hb := hbd r hr
        have he : r.e = r.a + r.s := rfl
        obtain ⟨q, hq, h3, h4⟩ := (hi (r.e - 1)).1 ⟨r, hr, by omega, by omega⟩
        have hg := List.all_eq_true.1 hgw q hq
        unfold gw at hg
        cases hqm : q.m
        · rw [hqm] at hg; simp at hg; omega
        · rw [hqm] at hg; simp at hg; omega
      have hp1 := (pc_yes (List.all_eq_true.1 hall p0 hp0)).2.2.1
      have hpe : p0.e = p0.a + p0.s := rfl
      obtain ⟨r, hr, h3, h4⟩ := (hi (fE ps - 1)).2 ⟨p0, hp0, by omega, by omega⟩
      have hre : r.e = fE ps := by have := hle r hr; omega
      refine ⟨fE_flag R hf ⟨r, hr, by rw [hf r hr, hre]; simp⟩, fun p hp => ?_⟩
      have := hle p hp
      unfold gw
      cases hpm : p.m
      · have h5 := hf p hp
        rw [hpm] at h5
        have : p.e = fE ps := by simpa using h5.symm
        simp [this]
      · have h5 := hf p hp
        rw [hpm] at h5
        have h6 : p.e ≠ fE ps := by simpa using h5.symm
        simp; omega
  have hoR : okE R = true := by
    simp only [okE, Bool.and_eq_true]
    exact ⟨hvR, by rw [List.all_eq_true, hE.1]; exact hE.2⟩
  have hin : ∀ k, inI R k = inI ps k := fun k => by
    have := hi k
    rw [← inI_iff, ← inI_iff] at this
    cases h1 : inI R k <;> cases h2 : inI ps k <;> simp_all
  exact ⟨⟨fun _ => ⟨hn, fun k => Iff.rfl, by rw [hE.1]; exact hf⟩, fun hx => absurd hx (by simp [hoR])⟩, hoR, hin, hlen, by unfold okH; rw [hvR]; decide, by unfold okH; rw [hvP]; decide, hbd, hn⟩
theorem HP.same {ps ps' R R' : List Pc} {L : Int} (h : HP ps L R) (h' : HP ps' L R') (hi : ∀ k, inI ps k = inI ps' k) (ho : okH ps L = true) (ho' : okH ps' L = true) : R = R' := by
  refine HP.uniq (ps := ps) h ⟨fun _ => ?_, fun hx => absurd hx (by simp [ho])⟩
  obtain ⟨h1, h2, h3⟩ := h'.1 ho'
  refine ⟨h1, fun k => ?_, h3⟩
  rw [h2 k]
  unfold mis
  rw [hi k]
theorem Norm.at_ {R : List Pc} (h : Norm R) (k : Nat) (hk : k + 1 < R.length) : (R.getD k d0).e < (R.getD (k + 1) d0).a := by
  have := (List.pairwise_iff_getElem.1 h.1) k (k + 1) (by omega) hk (by omega)
  rw [List.getD_eq_getElem?_getD, List.getD_eq_getElem?_getD, List.getElem?_eq_getElem hk, List.getElem?_eq_getElem (by omega)]
  exact this
end Go.Proofs.Ytpkajiflbejajaa
