/-
  The plain mathematics of unpointing step by step: lists of numbers, no program is named here. No condition.
-/
import Derived.Test.YtimlmbbegeaakaaRowm
namespace Go.Proofs.Ytimlmbbegeaakaa

/-- One step of unpointing: what stands, how many more of the group, whether nothing is ahead. -/
def ups (st : List Int × Nat × Bool) (b : Int) : Option (List Int × Nat × Bool) :=
  if b < 1 then none else if st.2.1 = 0 then some (if st.2.2 = true then st.1 else st.1 ++ [0], (b - 1).toNat, false) else some (st.1 ++ [b], st.2.1 - 1, false)
def upf : List Int → List Int × Nat × Bool → Option (List Int × Nat × Bool)
  | [], st => some st
  | b :: l, st => match ups st b with | none => none | some st' => upf l st'
theorem upf_app : ∀ (a b : List Int) (st : List Int × Nat × Bool), upf (a ++ b) st = match upf a st with | none => none | some st' => upf b st'
  | [], b, st => by simp [upf]
  | c :: a, b, st => by
    rw [List.cons_append, upf, upf]
    cases ups st c with
    | none => rfl
    | some st' => exact upf_app a b st'
theorem upf_snoc (a : List Int) (c : Int) (st st' : List Int × Nat × Bool) (h : upf a st = some st') : upf (a ++ [c]) st = ups st' c := by
  rw [upf_app, h]
  show upf [c] st' = _
  rw [upf]
  cases ups st' c <;> rfl
theorem upf_unp : ∀ (l o : List Int) (r : Nat) (f : Bool), (match upf l (o, r, f) with | none => none | some st => if st.2.1 = 0 then some st.1 else none) = (unp f r l).map (o ++ ·)
  | [], o, 0, f => by simp [upf, unp]
  | [], o, r + 1, f => by simp [upf, unp]
  | b :: l, o, 0, f => by
    rw [upf, unp]
    by_cases h : b < 1
    · simp [ups, h]
    · have e : ups (o, 0, f) b = some (if f = true then o else o ++ [0], (b - 1).toNat, false) := by simp [ups, h]
      rw [e, if_neg h]
      simp only []
      rw [upf_unp l]
      cases unp false (b - 1).toNat l <;> cases f <;> simp
  | b :: l, o, r + 1, f => by
    rw [upf, unp]
    by_cases h : b < 1
    · simp [ups, h]
    · have e : ups (o, r + 1, f) b = some (o ++ [b], r, false) := by simp [ups, h]
      rw [e, if_neg h]
      simp only []
      rw [upf_unp l]
      cases unp false r l <;> simp
theorem unp_end {l o : List Int} {r : Nat} {f : Bool} (h : upf l ([], 0, true) = some (o, r, f)) : unp true 0 l = if r = 0 then some o else none := by
  have := upf_unp l [] 0 true
  rw [h] at this
  simp only [] at this
  rw [this]
  cases unp true 0 l <;> simp
theorem unp_none {a b : List Int} (h : upf a ([], 0, true) = none) : unp true 0 (a ++ b) = none := by
  have := upf_unp (a ++ b) [] 0 true
  rw [upf_app, h] at this
  simp only [] at this
  cases hu : unp true 0 (a ++ b) with
  | none => rfl
  | some o => rw [hu] at this; simp at this
/-- What UnpointBytes gives. -/
def unpR (l : List Int) : Option (List Int) := if l ≠ [] ∧ bytesB 17 l = true then unp true 0 l else none
theorem unpR_nil : unpR [] = none := rfl
theorem unpR_long {l : List Int} (h : 17 < l.length) : unpR l = none := by
  unfold unpR
  rw [if_neg]
  simp [bytesB]; omega
theorem unpR_wide {l : List Int} (h : l.all isByte = false) : unpR l = none := by
  unfold unpR
  rw [if_neg]
  simp [bytesB, h]
theorem unpR_bad {l : List Int} (h : unp true 0 l = none) : unpR l = none := by
  unfold unpR
  rw [h]; split <;> rfl
theorem unpR_ok {l o : List Int} (h1 : 0 < l.length) (h2 : l.length ≤ 17) (h3 : l.all isByte = true) (h : unp true 0 l = some o) : unpR l = some o := by
  unfold unpR
  rw [if_pos, h]
  refine ⟨by rintro rfl; simp at h1, ?_⟩
  simp only [bytesB, h3, Bool.and_true, decide_eq_true_eq]
  exact h2
theorem ups_low {o : List Int} {r : Nat} {f : Bool} {b : Int} (h : b < 1) : ups (o, r, f) b = none := by simp [ups, h]
theorem ups_more {o : List Int} {r : Nat} {f : Bool} {b : Int} (h : ¬ b < 1) (hr : r ≠ 0) : ups (o, r, f) b = some (o ++ [b], r - 1, false) := by simp [ups, h, hr]
theorem ups_head {o : List Int} {f : Bool} {b : Int} (h : ¬ b < 1) : ups (o, 0, f) b = some (if f = true then o else o ++ [0], (b - 1).toNat, false) := by simp [ups, h]
end Go.Proofs.Ytimlmbbegeaakaa
