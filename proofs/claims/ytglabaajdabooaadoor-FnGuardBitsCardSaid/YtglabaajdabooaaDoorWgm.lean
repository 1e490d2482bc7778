/-
  The plain mathematics of bits that are guarded and mended: no program is walked here. No condition.
-/
import Derived.Test.YtglabaajdabooaaDoorLawI2
import Derived.Test.YtglabaajdabooaaDoorWtm
namespace Go.Proofs.YtglabaajdabooaaDoor
open Go.RowKit
set_option linter.unusedVariables false

/-- Whether what is mended, guarded again, is what was given but for the bit told. -/
def mendOk (l : List UInt8) : Bool := match findP (fun j => l.getD j 0) 8 0 with
  | some p => bitsB 40 (four (tp (fun j => l.getD j 0) p)) && decide (p ≤ 7) && decide (gd7 (fun k => (four (tp (fun j => l.getD j 0) p)).getD k 0) = if p = 0 then l else turnU l (p - 1))
  | none => false
theorem mend_fin : ∀ b0 b1 b2 b3 b4 b5 b6 : Bool, mendOk [bl7 b0, bl7 b1, bl7 b2, bl7 b3, bl7 b4, bl7 b5, bl7 b6] = true := by decide +kernel
theorem seven_bits {l : List UInt8} (h : bitsB 40 l = true) (h7 : l.length = 7) : ∃ b0 b1 b2 b3 b4 b5 b6, l = [bl7 b0, bl7 b1, bl7 b2, bl7 b3, bl7 b4, bl7 b5, bl7 b6] := by
  obtain ⟨c0, c1, c2, c3, c4, c5, c6, rfl⟩ := list7 h7
  have ha : [c0, c1, c2, c3, c4, c5, c6].length ≤ 40 ∧ [c0, c1, c2, c3, c4, c5, c6].all isBit = true := by simpa [bitsB] using h
  have hb : ∀ c ∈ [c0, c1, c2, c3, c4, c5, c6], c = 48 ∨ c = 49 := fun c hc => isBit_cases (List.all_eq_true.1 ha.2 c hc)
  obtain ⟨b0, rfl⟩ := bl7_of (hb c0 (by simp))
  obtain ⟨b1, rfl⟩ := bl7_of (hb c1 (by simp))
  obtain ⟨b2, rfl⟩ := bl7_of (hb c2 (by simp))
  obtain ⟨b3, rfl⟩ := bl7_of (hb c3 (by simp))
  obtain ⟨b4, rfl⟩ := bl7_of (hb c4 (by simp))
  obtain ⟨b5, rfl⟩ := bl7_of (hb c5 (by simp))
  obtain ⟨b6, rfl⟩ := bl7_of (hb c6 (by simp))
  exact ⟨b0, b1, b2, b3, b4, b5, b6, rfl⟩
theorem mend_guard {l : List UInt8} (h : bitsB 40 l = true) (h7 : l.length = 7) : ∃ (g : List UInt8) (p : Nat), mbR l = (⟨g.toArray⟩, (p : Int)) ∧ g.length = 4 ∧ p ≤ 7 ∧ gdR g = ⟨(if p = 0 then l else turnU l (p - 1)).toArray⟩ := by
  obtain ⟨b0, b1, b2, b3, b4, b5, b6, rfl⟩ := seven_bits h h7
  have hm := mend_fin b0 b1 b2 b3 b4 b5 b6
  generalize [bl7 b0, bl7 b1, bl7 b2, bl7 b3, bl7 b4, bl7 b5, bl7 b6] = l at *
  unfold mendOk at hm
  unfold mbR mendR
  rw [if_pos ⟨h, h7⟩]
  cases hf : findP (fun j => l.getD j 0) 8 0 with
  | none => rw [hf] at hm; cases hm
  | some p =>
    rw [hf] at hm
    simp only [Bool.and_eq_true, decide_eq_true_eq] at hm
    obtain ⟨⟨h1, h2⟩, h3⟩ := hm
    refine ⟨four (tp (fun j => l.getD j 0) p), p, rfl, rfl, h2, ?_⟩
    unfold gdR
    rw [if_pos ⟨h1, rfl⟩, h3]
theorem mend_none {l : List UInt8} (h : ¬ (bitsB 40 l = true ∧ l.length = 7)) : mbR l = (ByteArray.empty, -1) := by
  unfold mbR; rw [if_neg h]

/-- Whether what is guarded is mended to what was given, with one bit turned or none. -/
def guardOk (l : List UInt8) : Bool :=
  let g := gd7 fun k => l.getD k 0
  decide (mbR g = (⟨l.toArray⟩, 0)) && (List.range 7).all fun i => decide (mbR (turnU g i) = (⟨l.toArray⟩, ((i + 1 : Nat) : Int)))
theorem guard_fin : ∀ b0 b1 b2 b3 : Bool, guardOk [bl7 b0, bl7 b1, bl7 b2, bl7 b3] = true := by decide +kernel
theorem list4 {l : List UInt8} (h : l.length = 4) : ∃ c0 c1 c2 c3, l = [c0, c1, c2, c3] := by
  match l, h with
  | [c0, c1, c2, c3], _ => exact ⟨c0, c1, c2, c3, rfl⟩
theorem guard_mend {l : List UInt8} (h : bitsB 40 l = true) (h4 : l.length = 4) : ∃ g : List UInt8, gdR l = ⟨g.toArray⟩ ∧ g.length = 7 ∧ mbR g = (⟨l.toArray⟩, 0) ∧ ∀ i, i < 7 → mbR (turnU g i) = (⟨l.toArray⟩, (i : Int) + 1) := by
  obtain ⟨c0, c1, c2, c3, rfl⟩ := list4 h4
  have ha : [c0, c1, c2, c3].length ≤ 40 ∧ [c0, c1, c2, c3].all isBit = true := by simpa [bitsB] using h
  have hb : ∀ c ∈ [c0, c1, c2, c3], c = 48 ∨ c = 49 := fun c hc => isBit_cases (List.all_eq_true.1 ha.2 c hc)
  obtain ⟨b0, rfl⟩ := bl7_of (hb c0 (by simp))
  obtain ⟨b1, rfl⟩ := bl7_of (hb c1 (by simp))
  obtain ⟨b2, rfl⟩ := bl7_of (hb c2 (by simp))
  obtain ⟨b3, rfl⟩ := bl7_of (hb c3 (by simp))
  have hm := guard_fin b0 b1 b2 b3
  generalize [bl7 b0, bl7 b1, bl7 b2, bl7 b3] = l at *
  unfold guardOk at hm
  simp only [Bool.and_eq_true, decide_eq_true_eq, List.all_eq_true, List.mem_range] at hm
  refine ⟨gd7 fun k => l.getD k 0, by unfold gdR; rw [if_pos ⟨h, h4⟩], rfl, hm.1, fun i hi => ?_⟩
  rw [hm.2 i hi]
  simp
theorem guard_none {l : List UInt8} (h : ¬ (bitsB 40 l = true ∧ l.length = 4)) : gdR l = ByteArray.empty := by
  unfold gdR; rw [if_neg h]
end Go.Proofs.YtglabaajdabooaaDoor
