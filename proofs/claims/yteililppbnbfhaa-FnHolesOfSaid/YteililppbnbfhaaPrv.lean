/-
  The plain mathematics of rows that are found one number after the other: no program is named here. No condition.
-/
import Derived.Test.YteililppbnbfhaaPru
namespace Go.Proofs.Yteililppbnbfhaa
set_option linter.unusedVariables false

/-- What has been found below the number K: rows of the numbers for which h holds, each told by f. -/
structure RunI (N : Nat) (h : Nat → Bool) (f : Int → Bool) (K : Nat) (acc : List Pc) : Prop where
  le : K ≤ N
  norm : Norm acc
  pos : ∀ p ∈ acc, 0 ≤ p.a ∧ p.e ≤ K ∧ (p.e = K → K = N ∨ h K = false)
  inn : ∀ j : Int, Inn acc j ↔ ∃ i : Nat, j = i ∧ i < K ∧ h i = true
  flag : ∀ p ∈ acc, p.m = f p.e
theorem RunI.start (N : Nat) (h : Nat → Bool) (f : Int → Bool) : RunI N h f 0 [] :=
  ⟨Nat.zero_le _, ⟨by simp, by simp⟩, by simp, fun j => ⟨fun hj => absurd hj (inn_nil j), fun ⟨i, _, hi, _⟩ => by omega⟩, by simp⟩
theorem RunI.skip {N : Nat} {h : Nat → Bool} {f : Int → Bool} {K : Nat} {acc : List Pc} (H : RunI N h f K acc) (hK : K < N) (hf : h K = false) : RunI N h f (K + 1) acc := by
  refine ⟨by omega, H.norm, fun p hp => ?_, fun j => ?_, H.flag⟩
  · obtain ⟨h1, h2, h3⟩ := H.pos p hp
    exact ⟨h1, by omega, fun he => by omega⟩
  · rw [H.inn j]
    constructor
    · rintro ⟨i, h1, h2, h3⟩
      exact ⟨i, h1, by omega, h3⟩
    · rintro ⟨i, h1, h2, h3⟩
      refine ⟨i, h1, ?_, h3⟩
      rcases (show i < K ∨ i = K from by omega) with h4 | h4
      · exact h4
      · rw [h4, hf] at h3; cases h3
theorem RunI.run {N : Nat} {h : Nat → Bool} {f : Int → Bool} {K s : Nat} {acc : List Pc} (H : RunI N h f K acc) (hs : 1 ≤ s) (hN : K + s ≤ N) (hr : ∀ i, i < s → h (K + i) = true) (he : K + s = N ∨ h (K + s) = false) :
    RunI N h f (K + s) (acc ++ [⟨K, s, f ((K : Int) + s)⟩]) := by
  have hK := hr 0 (by omega)
  rw [Nat.add_zero] at hK
  refine ⟨hN, norm_snoc H.norm (fun q hq => ?_) (by show (1 : Int) ≤ s; omega), fun p hp => ?_, fun j => ?_, fun p hp => ?_⟩
  · obtain ⟨h1, h2, h3⟩ := H.pos q hq
    show q.e < (K : Int)
    rcases (show q.e < (K : Int) ∨ q.e = K from by omega) with h4 | h4
    · exact h4
    · rcases h3 h4 with h5 | h5
      · omega
      · rw [hK] at h5; cases h5
  · rcases List.mem_append.1 hp with hp | hp
    · obtain ⟨h1, h2, h3⟩ := H.pos p hp
      exact ⟨h1, by omega, fun he => by omega⟩
    · simp only [List.mem_singleton] at hp
      subst hp
      refine ⟨by show (0 : Int) ≤ K; omega, by show (K : Int) + s ≤ _; omega, fun _ => he⟩
  · rw [inn_app, H.inn j, inn_cons]
    constructor
    · rintro (⟨i, h1, h2, h3⟩ | h4 | h4)
      · exact ⟨i, h1, by omega, h3⟩
      · have h5 : (K : Int) ≤ j ∧ j < (K : Int) + s := h4
        refine ⟨j.toNat, by omega, by omega, ?_⟩
        have := hr (j.toNat - K) (by omega)
        rwa [show K + (j.toNat - K) = j.toNat from by omega] at this
      · exact absurd h4 (inn_nil j)
    · rintro ⟨i, h1, h2, h3⟩
      rcases (show i < K ∨ K ≤ i from by omega) with h4 | h4
      · exact .inl ⟨i, h1, h4, h3⟩
      · refine .inr (.inl ?_)
        show (K : Int) ≤ j ∧ j < (K : Int) + s
        omega
  · rcases List.mem_append.1 hp with hp | hp
    · exact H.flag p hp
    · simp only [List.mem_singleton] at hp
      subst hp; rfl
theorem RunI.len {N : Nat} {h : Nat → Bool} {f : Int → Bool} {K : Nat} {acc : List Pc} (H : RunI N h f K acc) : acc.length ≤ K := by
  have := norm_len H.norm (lo := 0) (hi := K) (fun k hk => by
    obtain ⟨i, h1, h2, _⟩ := (H.inn k).1 hk
    omega) (by omega)
  omega
end Go.Proofs.Yteililppbnbfhaa
