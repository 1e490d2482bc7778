/-
  The plain mathematics of lengths that are cut: no program is named here. No condition.
-/
import Derived.Test.YtpkajiflbejajaaWwh
import Derived.Test.YtpkajiflbejajaaJpm
import Derived.Test.YtpkajiflbejajaaWcu
namespace Go.Proofs.Ytpkajiflbejajaa
set_option linter.unusedVariables false

/-- What is known of the pieces of a length from a number on. -/
structure Sgm (L M S a : Int) (l : List Pc) : Prop where
  each : ∀ p ∈ l, a ≤ p.a ∧ 1 ≤ p.s ∧ p.s ≤ M ∧ p.e ≤ L ∧ p.m = (p.e != L) ∧ (p.m = true → p.s = S)
  inn : ∀ k, Inn l k ↔ a ≤ k ∧ k < L
  fe : fE l = L
  last : ∀ i, i < l.length → (l.getD i d0).m = decide (i + 1 < l.length)
  pos : 0 < l.length
theorem sgm_cut (L M S : Int) (hS : 1 ≤ S) (hSM : S ≤ M) : ∀ (f : Nat) (a : Int), a < L → L < f + a → Sgm L M S a (cutF L M S f a)
  | 0, a, h1, h2 => by omega
  | f + 1, a, h1, h2 => by
    by_cases hm : M < L - a
    · rw [cutF_more L M S f a hm]
      have ih := sgm_cut L M S hS hSM f (a + S) (by omega) (by omega)
      refine ⟨fun p hp => ?_, fun k => ?_, ?_, fun i hi => ?_, by simp⟩
      · rcases List.mem_cons.1 hp with rfl | hp
        · have he : Pc.e ⟨a, S, true⟩ = a + S := rfl
          refine ⟨Int.le_refl _, hS, hSM, by rw [he]; omega, ?_, fun _ => rfl⟩
          rw [he]
          show true = _
          symm; rw [bne_iff_ne]; omega
        · obtain ⟨b1, b2, b3, b4, b5, b6⟩ := ih.each p hp
          exact ⟨by omega, b2, b3, b4, b5, b6⟩
      · rw [inn_cons, ih.inn k]
        show (a ≤ k ∧ k < a + S) ∨ _ ↔ _
        constructor
        · rintro (h | h) <;> omega
        · intro h
          by_cases hk : k < a + S
          · exact .inl ⟨h.1, hk⟩
          · exact .inr ⟨by omega, h.2⟩
      · have : fE (⟨a, S, true⟩ :: cutF L M S f (a + S)) = fE (cutF L M S f (a + S)) := by simp [fE]
        rw [this]; exact ih.fe
      · cases i with
        | zero =>
          have := ih.pos
          simp only [List.getD_cons_zero, List.length_cons]
          symm
          exact decide_eq_true (by omega)
        | succ j =>
          simp only [List.length_cons] at hi
          have := ih.last j (by omega)
          simp only [List.getD_cons_succ, List.length_cons]
          rw [this]
          rw [decide_eq_decide]; omega
    · rw [cutF_last L M S f a hm]
      have he : Pc.e ⟨a, L - a, false⟩ = L := by show a + (L - a) = L; omega
      refine ⟨fun p hp => ?_, fun k => ?_, ?_, fun i hi => ?_, by simp⟩
      · simp only [List.mem_singleton] at hp
        subst hp
        refine ⟨Int.le_refl _, by show 1 ≤ L - a; omega, by show L - a ≤ M; omega, by rw [he]; omega, by rw [he]; simp, fun h => by cases h⟩
      · rw [inn_cons]
        show (a ≤ k ∧ k < Pc.e ⟨a, L - a, false⟩) ∨ _ ↔ _
        rw [he]
        constructor
        · rintro (h | h)
          · exact h
          · exact absurd h (inn_nil k)
        · exact fun h => .inl h
      · simp [fE, he]
      · have : i = 0 := by simpa using hi
        subst this
        simp
/-- What CutLength gives. -/
theorem cut_all {L M U : Int} (hb : cutB L M U = true) : ∃ l S, cutR L M U = l ∧ l.length ≤ 20 ∧ 1 ≤ U ∧ U ≤ 8 ∧ 1 ≤ L ∧ L ≤ 60 ∧ M ≤ 60 ∧ 1 ≤ S ∧ S % U = 0 ∧ Sgm L M S 0 l ∧ okE l = true ∧ endR l = L ∧ wholeB l = true ∧ HP l L [] ∧ JP l [⟨0, L, false⟩] := by
  have hb' := hb
  simp only [cutB, cutA, Bool.and_eq_true, decide_eq_true_eq] at hb'
  obtain ⟨⟨⟨l1, l2⟩, ⟨u1, u2⟩, m1, m2⟩, h20⟩ := hb'
  obtain ⟨s1, s2, _, _, _, _, _⟩ := step_bd u1 m1
  have hsg := sgm_cut L M (M - M % U) s1 s2 61 0 (by omega) (by omega)
  have hR : cutR L M U = cutF L M (M - M % U) 61 0 := by
    unfold cutR
    rw [if_pos hb]; rfl
  have hlen : (cutF L M (M - M % U) 61 0).length ≤ 20 := h20
  have hmod : (M - M % U) % U = 0 := by
    rw [Int.sub_emod, Int.emod_emod_of_dvd _ (Int.dvd_refl U), Int.sub_self]; simp
  refine ⟨cutF L M (M - M % U) 61 0, M - M % U, hR, hlen, u1, u2, l1, l2, m2, s1, hmod, hsg, ?_⟩
  generalize cutF L M (M - M % U) 61 0 = l at *
  have hall : l.all pcB = true := by
    rw [List.all_eq_true]
    intro p hp
    obtain ⟨b1, b2, b3, b4, _⟩ := hsg.each p hp
    have he : p.e = p.a + p.s := rfl
    simp only [pcB, c1B, c2B, Bool.and_eq_true, decide_eq_true_eq]
    omega
  have hv : vpB l = true := by
    simp only [vpB, lpB, Bool.and_eq_true, decide_eq_true_eq]
    exact ⟨hall, by omega⟩
  have hgw : l.all (gw (fE l)) = true := by
    rw [List.all_eq_true, hsg.fe]
    intro p hp
    obtain ⟨b1, b2, b3, b4, b5, _⟩ := hsg.each p hp
    unfold gw
    cases hm : p.m
    · rw [hm] at b5
      have : p.e = L := by simpa using b5.symm
      simp [this]
    · rw [hm] at b5
      have : p.e ≠ L := by simpa using b5.symm
      simp; omega
  have ho : okE l = true := by
    simp only [okE, Bool.and_eq_true]
    exact ⟨hv, hgw⟩
  obtain ⟨N, rfl⟩ : ∃ N : Nat, L = N := ⟨L.toNat, by omega⟩
  have hmis : ∀ k, mis l N k = false := fun k => by
    unfold mis
    rw [Bool.and_eq_false_iff]
    by_cases hk : 0 ≤ k ∧ k < (N : Int)
    · right
      have := (inI_iff l k).2 ((hsg.inn k).2 hk)
      rw [this]; rfl
    · left
      rw [Bool.and_eq_false_iff]
      simp; omega
  have hoh : okH l N = true := by unfold okH; rw [hv]; simp; omega
  refine ⟨ho, by rw [show endR l = fE l from by simp [endR, ho], hsg.fe], ?_, ⟨fun _ => ⟨⟨by simp, by simp⟩, fun k => ⟨fun h => absurd h (inn_nil k), fun h => ?_⟩, by simp⟩, fun _ => rfl⟩, ⟨fun _ => ⟨⟨by simp, fun p hp => ?_⟩, fun k => ?_, fun p hp => ?_⟩, fun hx => absurd hx (by simp [ho])⟩⟩
  · unfold wholeB
    rw [ho, hsg.fe]
    have h1 : decide ((1 : Int) ≤ (N : Int)) = true := by simp; omega
    rw [h1, show ((N : Int)).toNat = N from by omega, (fulB_iff l N).2 hmis]; rfl
  · rw [show ((N : Int)).toNat = N from by omega, hmis k] at h; cases h
  · simp only [List.mem_singleton] at hp
    subst hp
    exact l1
  · rw [inn_cons, hsg.inn k]
    show (0 ≤ k ∧ k < (0 : Int) + (N : Int)) ∨ _ ↔ _
    constructor
    · rintro (h | h)
      · omega
      · exact absurd h (inn_nil k)
    · intro h; exact .inl (by omega)
  · simp only [List.mem_singleton] at hp
    subst hp
    rw [hsg.fe]
    show false = ((0 : Int) + (N : Int) != (N : Int))
    simp
end Go.Proofs.Ytpkajiflbejajaa
