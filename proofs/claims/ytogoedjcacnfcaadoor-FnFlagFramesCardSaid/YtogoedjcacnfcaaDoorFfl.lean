/-
  Plain facts of what is found on a wire. No condition.
-/
import Derived.Test.YtogoedjcacnfcaaDoorWff
namespace Go.Proofs.YtogoedjcacnfcaaDoor
open Go.RowKit Go.Lib
set_option linter.unusedVariables false

theorem uL_bits (t : List UInt8) : bitsB 40 (uL t).data.toList = true := by
  have e : (uL t).data.toList = (unsR t).getD [] := rfl
  rw [e]
  cases h : unsR t with
  | none => rfl
  | some o =>
    show bitsB 40 o = true
    unfold unsR at h
    by_cases h1 : bitsB 48 t = true
    · rw [if_pos h1] at h
      cases hu : uns t with
      | none => rw [hu] at h; cases h
      | some o' =>
        rw [hu] at h
        simp only [] at h
        by_cases h2 : bitsB 40 o' = true
        · rw [if_pos h2] at h
          cases h
          exact h2
        · rw [if_neg h2] at h; cases h
    · rw [if_neg h1] at h; cases h
theorem FF_bits {s : ByteArray} {k : Nat} (h : k < (FF s).length) : bitsB 40 ((FF s).getD k ByteArray.empty).data.toList = true := by
  have hm : (FF s).getD k ByteArray.empty ∈ FF s := by rw [List.getD_eq_getElem?_getD, List.getElem?_eq_getElem h]; exact List.getElem_mem h
  generalize (FF s).getD k ByteArray.empty = x at *
  unfold FF at hm
  by_cases hb : bitsB 300 s.data.toList = true
  · rw [if_pos hb] at hm
    obtain ⟨t, _, rfl⟩ := List.mem_map.1 hm
    exact uL_bits t
  · rw [if_neg hb] at hm; cases hm
theorem index_flag (l : List UInt8) : index (fl8 ++ l) fl8 = ((0 : Nat) : Int) := by
  show index (48 :: ([49, 49, 49, 49, 49, 49, 48] ++ l)) fl8 = 0
  unfold index
  rw [if_pos]
  simp [fl8, List.isPrefixOf]
theorem fnd_flag (l : List UInt8) : fnd (fl8 ++ l) = gs l := by
  unfold fnd
  have h := index_flag l
  rw [if_neg (by rw [h]; decide), h]
  rfl
theorem fnd_gs (l : List UInt8) : (fnd l).length ≤ (gs l).length := by
  unfold fnd
  by_cases hi : index l fl8 = -1
  · rw [if_pos hi]; simp
  · rw [if_neg hi, gs_some (idx_bd hi).2, List.length_append]
    omega
theorem FF_more {s : ByteArray} (h : (FF s).length ≠ 0) (hz : s.size + 8 ≤ 300) : (FF s).length ≤ (FF (flB ++ s)).length := by
  have hb : bitsB 300 s.data.toList = true := by
    cases hb : bitsB 300 s.data.toList
    · exfalso; apply h; unfold FF; rw [hb]; rfl
    · rfl
  have hd : (flB ++ s).data.toList = fl8 ++ s.data.toList := by simp [flB, fl8]
  have hall : s.data.toList.all isBit = true := by
    simp only [bitsB, Bool.and_eq_true] at hb; exact hb.2
  have hb2 : bitsB 300 (flB ++ s).data.toList = true := by
    rw [hd]
    simp only [bitsB, Bool.and_eq_true, decide_eq_true_eq]
    refine ⟨?_, ?_⟩
    · have e : s.data.toList.length = s.size := Array.length_toList
      rw [List.length_append, e]
      have : fl8.length = 8 := rfl
      omega
    · rw [List.all_append, hall]; rfl
  have e1 : FF s = (fnd s.data.toList).map uL := by unfold FF; rw [if_pos hb]
  have e2 : FF (flB ++ s) = (gs s.data.toList).map uL := by unfold FF; rw [if_pos hb2, hd, fnd_flag]
  rw [e1, e2, List.length_map, List.length_map]
  exact fnd_gs _
end Go.Proofs.YtogoedjcacnfcaaDoor
