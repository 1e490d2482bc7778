/-
  The walk of the model's FindFrames. Condition: the text is one that can be.
-/
import Derived.Test.YtogoedjcacnfcaaDoorWfi
namespace Go.Proofs.YtogoedjcacnfcaaDoor
open Go.RowKit
set_option linter.unusedVariables false

theorem flag_call (w : World) : Calls Tryd.prog 17 #[] w fun e w' => e = .returned (.string ⟨#[48, 49, 49, 49, 49, 49, 49, 48]⟩) ∧ w' = w := by
  go_enter Tryd.func17, Tryd.ntmps17
  go_wp2
  go_ret
  exact ⟨rfl, rfl⟩
theorem sun_call (x : ByteArray) (w : World) (hs : x.size ≤ maxLen) :
    Calls Tryd.prog 18 #[.string x] w fun e w' => e = .returned (.tuple #[.string (uL x.data.toList), .bool (unsR x.data.toList).isSome]) ∧ w = w' := sUB_any x w hs
theorem ext2 (s : ByteArray) (a b : Nat) (h : b ≤ s.size) : (s.extract a b).data.toList = (s.data.toList.drop a).take (b - a) := by
  simp [ByteArray.data_extract, Array.toList_extract, List.extract]
theorem eq_flag {s : ByteArray} {i : Nat} (hi : i + 8 ≤ s.size) : (s.extract i (i + 8)).data.toList = (s.data.toList.drop i).take 8 := by
  rw [ext2 s i (i + 8) hi, show i + 8 - i = 8 from by omega]
theorem flag_yes {s : ByteArray} {i : Nat} (hi : i + 8 ≤ s.size) (h : Lib.occAt s.data.toList fl8 i = true) : s.extract i (i + 8) = (⟨#[48, 49, 49, 49, 49, 49, 49, 48]⟩ : ByteArray) := by
  have h1 := occ_iff.1 h
  rw [← eq_flag hi] at h1
  generalize s.extract i (i + 8) = t at h1
  obtain ⟨⟨l⟩⟩ := t
  have h2 : l = fl8 := h1
  rw [h2]; rfl
theorem flag_no {s : ByteArray} {i : Nat} (hi : i + 8 ≤ s.size) (h : Lib.occAt s.data.toList fl8 i = false) : s.extract i (i + 8) ≠ (⟨#[48, 49, 49, 49, 49, 49, 49, 48]⟩ : ByteArray) := by
  intro e
  have h1 : Lib.occAt s.data.toList fl8 i = true := occ_iff.2 (by rw [← eq_flag hi, e]; rfl)
  rw [h] at h1; cases h1

/-- What is known when the model's search stands at a place. -/
def Sf (s : ByteArray) (f : Int) (i : Nat) (out : List ByteArray) : Prop :=
  (f = -1 ∧ out = [] ∧ ∀ j, j < i → Lib.occAt s.data.toList fl8 j = false) ∨
  (∃ a : Nat, f = a ∧ a ≤ i ∧ (∀ j, a ≤ j → j < i → Lib.occAt s.data.toList fl8 j = false) ∧ out ++ (gs (s.data.toList.drop a)).map uL = (fnd s.data.toList).map uL)
theorem Sf.start (s : ByteArray) : Sf s (-1) 0 [] := .inl ⟨rfl, rfl, fun j hj => by omega⟩
theorem Sf.next {s : ByteArray} {f : Int} {i : Nat} {out : List ByteArray} (h : Sf s f i out) (hno : Lib.occAt s.data.toList fl8 i = false) : Sf s f (i + 1) out := by
  rcases h with ⟨h1, h2, h3⟩ | ⟨a, h1, h2, h3, h4⟩
  · exact .inl ⟨h1, h2, fun j hj => by
      rcases (show j < i ∨ j = i from by omega) with h | h
      · exact h3 j h
      · rw [h]; exact hno⟩
  · exact .inr ⟨a, h1, by omega, fun j hj hj2 => by
      rcases (show j < i ∨ j = i from by omega) with h | h
      · exact h3 j hj h
      · rw [h]; exact hno, h4⟩
theorem Sf.hit {s : ByteArray} {f : Int} {i : Nat} {out : List ByteArray} (h : Sf s f i out) (hi : i + 8 ≤ s.size) (ho : Lib.occAt s.data.toList fl8 i = true) :
    (∀ a : Nat, f = a → a < i → Sf s ((i + 8 : Nat) : Int) (i + 8) (out ++ [uL (s.extract a i).data.toList])) ∧ ((f = -1 ∨ f = i) → Sf s ((i + 8 : Nat) : Int) (i + 8) out) ∧ (f = -1 ∨ ∃ a : Nat, f = a ∧ a ≤ i) := by
  have hl : s.data.toList.length = s.size := Array.length_toList
  rcases h with ⟨h1, h2, h3⟩ | ⟨a, h1, h2, h3, h4⟩
  · refine ⟨fun a ha _ => by omega, fun _ => .inr ⟨i + 8, rfl, Nat.le_refl _, fun j hj hj2 => by omega, ?_⟩, .inl h1⟩
    have hx := idx_at (l := s.data.toList) (f := 0) (Nat.zero_le i) (by omega) ho (fun j _ hj => h3 j hj)
    rw [List.drop_zero, Nat.sub_zero] at hx
    rw [h2, List.nil_append]
    unfold fnd
    rw [if_neg (by omega), hx]
    rfl
  · have hx := idx_at (l := s.data.toList) h2 (by omega) ho h3
    have hg := gs_some hx
    rw [List.drop_drop, show a + (i - a + 8) = i + 8 from by omega] at hg
    refine ⟨fun b hb hlt => ?_, fun hf => ?_, .inr ⟨a, h1, h2⟩⟩
    · obtain rfl : a = b := by omega
      refine .inr ⟨i + 8, rfl, Nat.le_refl _, fun j hj hj2 => by omega, ?_⟩
      rw [if_neg (by omega)] at hg
      rw [hg, List.map_append] at h4
      rw [ext2 s a i (by omega), ← h4, List.append_assoc]; rfl
    · have hai : a = i := by omega
      refine .inr ⟨i + 8, rfl, Nat.le_refl _, fun j hj hj2 => by omega, ?_⟩
      rw [if_pos (by omega), List.nil_append] at hg
      rw [hg] at h4
      exact h4
theorem Sf.done {s : ByteArray} {f : Int} {i : Nat} {out : List ByteArray} (h : Sf s f i out) (hi : s.size < i + 8) : out = (fnd s.data.toList).map uL := by
  have hl : s.data.toList.length = s.size := Array.length_toList
  rcases h with ⟨h1, h2, h3⟩ | ⟨a, h1, h2, h3, h4⟩
  · have hx := idx_no (l := s.data.toList) (f := 0) (i := i) (by omega) (fun j _ hj => h3 j hj)
    rw [List.drop_zero] at hx
    rw [h2]
    unfold fnd
    rw [if_pos hx]; rfl
  · have hx := idx_no (l := s.data.toList) (f := a) (i := i) (by omega) h3
    rw [gs_none hx, List.map_nil, List.append_nil] at h4
    exact h4
end Go.Proofs.YtogoedjcacnfcaaDoor
