/-
  The plain mathematics of what acts change: no program is walked here. No condition.
-/
import Derived.Test.YtpjefjomihnbhaaWao
namespace Go.Proofs.Ytpjefjomihnbhaa
open Go.RowKit
set_option linter.unusedVariables false

/-- What an act that may be done changes. -/
def actP (l o : Lk) (ok : Bool) (act : Nat) : Prop :=
  if act = 115 then ok = true ∧ o.s = l.s + 1 ∧ o.da = l.s
  else if act = 120 then ok = true ∧ o.da = -1 ∧ o.wo = l.wo
  else if act = 121 then ok = true ∧ o.wo = -1 ∧ o.da = l.da
  else if act = 100 then o.da = -1 ∧ l.d ≤ o.d ∧ (ok = false ∨ o.wo = o.d)
  else if act = 97 then ok = true ∧ o.wo = -1 ∧ l.kn ≤ o.kn
  else ok = true ∧ l.kn ≤ o.da ∧ o.da < l.s
theorem takeF_due (p : Pl) (l : Lk) (hp : vpB p = true) (hi : Inv p l) : l.d ≤ (takeF p l).1.d ∧ ((takeF p l).2 = false ∨ (takeF p l).1.wo = (takeF p l).1.d) := by
  obtain ⟨g0, g1, g2, g3, g4, g5, g6, h0, h1, h2, rest⟩ := hi
  have hr := room_le p l hp
  unfold takeF
  split
  · have := strip_ok 4 (room p l) l.h l.d hr h0 h2
    exact ⟨this.1, .inr rfl⟩
  · rename_i k hk
    split
    · rename_i he
      have hkk := findK_some hk
      have hrr : k < room p l := by unfold room; omega
      obtain ⟨a, b⟩ := orb_ok l.h k (room p l) h0 h2 hrr hr
      have := strip_ok 4 (room p l) (orb l.h k) l.d hr a b
      exact ⟨this.1, .inr rfl⟩
    · exact ⟨Int.le_refl _, .inl rfl⟩
theorem aoR_z (p : Pl) (l : Lk) : aoR p l 122 = decide (vpB p = true ∧ vlB p l = true) := by
  unfold aoR stepR mayF
  by_cases h : vpB p = true ∧ vlB p l = true
  · rw [if_pos h, decide_eq_true h]; rfl
  · rw [if_neg h, decide_eq_false h]
theorem ao_bad {p : Pl} {l : Lk} (h : aoR p l 122 = false) (act : Nat) : aoM p l act = false ∧ aoR p l act = false := by
  rw [aoR_z] at h
  have h' := of_decide_eq_false h
  unfold aoM aoR
  rw [if_neg h', if_neg h']; exact ⟨rfl, rfl⟩
theorem ao_ok {p : Pl} {l : Lk} (h : aoR p l 122 = true) : vpB p = true ∧ Inv p l := by
  rw [aoR_z] at h
  have h' := of_decide_eq_true h
  refine ⟨h'.1, ?_⟩
  have := of_decide_eq_true h'.2
  exact this.1
theorem ao_not {p : Pl} {l : Lk} (h : aoR p l 122 = true) (act : Nat) (hm : aoM p l act = false) : aoL p l act = l ∧ aoR p l act = true := by
  rw [aoR_z] at h
  have h' := of_decide_eq_true h
  unfold aoM at hm
  unfold aoL aoR stepL stepR
  rw [if_pos h'] at hm
  rw [if_pos h', if_pos h', hm]
  exact ⟨rfl, rfl⟩
theorem ao_may {p : Pl} {l : Lk} (h : aoR p l 122 = true) (act : Nat) (hm : aoM p l act = true) : actP l (aoL p l act) (aoR p l act) act := by
  obtain ⟨hp, hi⟩ := ao_ok h
  rw [aoR_z] at h
  have h' := of_decide_eq_true h
  unfold aoM at hm
  unfold aoL aoR stepL stepR
  rw [if_pos h'] at hm
  rw [if_pos h', if_pos h', hm]
  simp only [if_true]
  unfold actP doneF
  by_cases h1 : act = 115
  · subst h1; simp [sendF]
  by_cases h2 : act = 120
  · subst h2; simp
  by_cases h3 : act = 121
  · subst h3; simp
  by_cases h4 : act = 100
  · subst h4
    have := takeF_due p l hp hi
    have h5 := takeF_da p l
    simpa [h5] using this
  by_cases h5 : act = 97
  · subst h5
    simp
    unfold hearF
    split <;> simp <;> omega
  · rw [if_neg h1, if_neg h2, if_neg h3, if_neg h4, if_neg h5]
    unfold mayF at hm
    rw [if_neg h1] at hm
    by_cases h6 : 48 ≤ act ∧ act ≤ 57
    · rw [if_pos h6] at hm
      rw [if_neg h1, if_pos h6]
      have := of_decide_eq_true hm
      refine ⟨rfl, ?_, ?_⟩ <;> simp <;> omega
    · rw [if_neg h6, if_neg (by omega), if_neg (by omega)] at hm
      cases hm
end Go.Proofs.Ytpjefjomihnbhaa
