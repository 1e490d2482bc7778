/-
  The plain mathematics of frames that are found between flags: no program is named here. No condition.
-/
import Derived.Test.YtogoedjcacnfcaaDoorWbits
import Derived.Lib.Split
import Derived.Lib.CountLaws
import Derived.Lib.Index
namespace Go.Proofs.YtogoedjcacnfcaaDoor
open Go Go.Lib
set_option linter.unusedVariables false

/-- What stands between frames. -/
def fl8 : List UInt8 := [48, 49, 49, 49, 49, 49, 49, 48]
def flB : ByteArray := ⟨#[48, 49, 49, 49, 49, 49, 49, 48]⟩
/-- What stands between the flags of some bits, behind one. -/
def gF : Nat → List UInt8 → List (List UInt8)
  | 0, _ => []
  | k + 1, l => if index l fl8 = -1 then [] else (if (index l fl8).toNat = 0 then [] else [l.take (index l fl8).toNat]) ++ gF k (l.drop ((index l fl8).toNat + 8))
/-- All parts. -/
def pF : Nat → List UInt8 → List (List UInt8)
  | 0, l => [l]
  | k + 1, l => if index l fl8 = -1 then [l] else l.take (index l fl8).toNat :: pF k (l.drop ((index l fl8).toNat + 8))
theorem idx_bd {l : List UInt8} (h : index l fl8 ≠ -1) : (index l fl8).toNat + 8 ≤ l.length ∧ index l fl8 = ((index l fl8).toNat : Int) := by
  have h1 := index_ge l fl8
  refine ⟨?_, by omega⟩
  have : ∀ m : List UInt8, index m fl8 ≠ -1 → (index m fl8).toNat + 8 ≤ m.length := by
    intro m
    induction m with
    | nil => intro hm; exact absurd (by decide) hm
    | cons b t ih =>
      intro hm
      unfold index at hm ⊢
      by_cases hp : fl8.isPrefixOf (b :: t) = true
      · rw [if_pos hp]
        have := (List.isPrefixOf_iff_prefix.1 hp).length_le
        have e : fl8.length = 8 := rfl
        rw [e] at this
        simpa using this
      · rw [if_neg hp] at hm ⊢
        by_cases hq : (index t fl8 == -1) = true
        · rw [if_pos hq] at hm; exact absurd rfl hm
        · rw [if_neg hq]
          have hq' : index t fl8 ≠ -1 := by simpa using hq
          have := ih hq'
          have := index_ge t fl8
          simp only [List.length_cons]
          omega
  exact this l h
theorem gF_fuel : ∀ (k k' : Nat) (l : List UInt8), l.length < k → l.length < k' → gF k l = gF k' l
  | 0, _, l, h, _ => by omega
  | _, 0, l, _, h => by omega
  | k + 1, k' + 1, l, h, h' => by
    unfold gF
    by_cases hi : index l fl8 = -1
    · rw [if_pos hi, if_pos hi]
    · rw [if_neg hi, if_neg hi]
      have hb := (idx_bd hi).1
      rw [gF_fuel k k' (l.drop ((index l fl8).toNat + 8)) (by rw [List.length_drop]; omega) (by rw [List.length_drop]; omega)]
theorem pF_fuel : ∀ (k k' : Nat) (l : List UInt8), l.length < k → l.length < k' → pF k l = pF k' l
  | 0, _, l, h, _ => by omega
  | _, 0, l, _, h => by omega
  | k + 1, k' + 1, l, h, h' => by
    unfold pF
    by_cases hi : index l fl8 = -1
    · rw [if_pos hi, if_pos hi]
    · rw [if_neg hi, if_neg hi]
      have hb := (idx_bd hi).1
      rw [pF_fuel k k' (l.drop ((index l fl8).toNat + 8)) (by rw [List.length_drop]; omega) (by rw [List.length_drop]; omega)]
def gs (l : List UInt8) : List (List UInt8) := gF (l.length + 1) l
def ps (l : List UInt8) : List (List UInt8) := pF (l.length + 1) l
theorem gs_none {l : List UInt8} (h : index l fl8 = -1) : gs l = [] := by
  unfold gs gF
  rw [if_pos h]
theorem gs_some {l : List UInt8} {i : Nat} (h : index l fl8 = i) : gs l = (if i = 0 then [] else [l.take i]) ++ gs (l.drop (i + 8)) := by
  have hne : index l fl8 ≠ -1 := by omega
  have hb := (idx_bd hne).1
  have e : (index l fl8).toNat = i := by omega
  show gF (l.length + 1) l = _
  unfold gF
  rw [if_neg hne, e]
  congr 1
  exact gF_fuel _ _ _ (by rw [List.length_drop]; omega) (by omega)
theorem ps_none {l : List UInt8} (h : index l fl8 = -1) : ps l = [l] := by
  unfold ps pF
  rw [if_pos h]
theorem ps_some {l : List UInt8} {i : Nat} (h : index l fl8 = i) : ps l = l.take i :: ps (l.drop (i + 8)) := by
  have hne : index l fl8 ≠ -1 := by omega
  have hb := (idx_bd hne).1
  have e : (index l fl8).toNat = i := by omega
  show pF (l.length + 1) l = _
  unfold pF
  rw [if_neg hne, e]
  congr 1
  exact pF_fuel _ _ _ (by rw [List.length_drop]; omega) (by omega)
theorem ps_ne (l : List UInt8) : ps l ≠ [] := by
  by_cases h : index l fl8 = -1
  · rw [ps_none h]; simp
  · rw [ps_some (idx_bd h).2]; simp
/-- The parts but the last one, but those of nothing. -/
theorem ps_gs : ∀ (n : Nat) (l : List UInt8), l.length < n → (ps l).dropLast.filter (fun x => !x.isEmpty) = gs l
  | 0, l, h => by omega
  | n + 1, l, h => by
    by_cases hi : index l fl8 = -1
    · rw [ps_none hi, gs_none hi]; rfl
    · obtain ⟨hb, he⟩ := idx_bd hi
      rw [ps_some he, gs_some he, List.dropLast_cons_of_ne_nil (ps_ne _), List.filter_cons, ps_gs n _ (by rw [List.length_drop]; omega)]
      generalize (index l fl8).toNat = i at hb
      by_cases h0 : i = 0
      · subst h0
        rw [if_pos rfl]
        simp
      · rw [if_neg h0]
        have : (!(l.take i).isEmpty) = true := by
          cases l with
          | nil => simp at hb
          | cons b t => cases i with
            | zero => exact absurd rfl h0
            | succ j => rfl
        rw [if_pos this]; rfl
/-- What is found on a wire. -/
def fnd (l : List UInt8) : List (List UInt8) := if index l fl8 = -1 then [] else gs (l.drop ((index l fl8).toNat + 8))
theorem fnd_ps (l : List UInt8) : ((ps l).dropLast.drop 1).filter (fun x => !x.isEmpty) = fnd l := by
  unfold fnd
  by_cases hi : index l fl8 = -1
  · rw [if_pos hi, ps_none hi]; rfl
  · rw [if_neg hi, ps_some (idx_bd hi).2, List.dropLast_cons_of_ne_nil (ps_ne _)]
    exact ps_gs _ _ (Nat.lt_succ_self _)

/-- The first place of a flag. -/
theorem idx_at {l : List UInt8} {f i : Nat} (hfi : f ≤ i) (hi : i + 8 ≤ l.length) (ho : occAt l fl8 i = true) (hno : ∀ j, f ≤ j → j < i → occAt l fl8 j = false) : index (l.drop f) fl8 = ((i - f : Nat) : Int) := by
  refine index_first (by rw [List.length_drop]; omega) ?_ (fun j hj => ?_)
  · unfold occAt at ho ⊢
    rw [List.drop_drop, show f + (i - f) = i from by omega]; exact ho
  · have := hno (f + j) (by omega) (by omega)
    unfold occAt at this ⊢
    rw [List.drop_drop]; exact this
theorem occ_far {l : List UInt8} {j : Nat} (h : l.length < j + 8) : occAt l fl8 j = false := by
  cases ho : occAt l fl8 j
  · rfl
  · unfold occAt at ho
    have := (List.isPrefixOf_iff_prefix.1 ho).length_le
    have e : fl8.length = 8 := rfl
    rw [e, List.length_drop] at this
    omega
theorem idx_no {l : List UInt8} {f i : Nat} (hi : l.length < i + 8) (hno : ∀ j, f ≤ j → j < i → occAt l fl8 j = false) : index (l.drop f) fl8 = -1 := by
  refine index_none (fun j hj => ?_)
  have : occAt l fl8 (f + j) = false := by
    rcases Nat.lt_or_ge (f + j) i with h | h
    · exact hno _ (by omega) h
    · exact occ_far (by omega)
  unfold occAt at this ⊢
  rw [List.drop_drop]; exact this
theorem occ_iff {l : List UInt8} {i : Nat} : occAt l fl8 i = true ↔ (l.drop i).take 8 = fl8 := by
  unfold occAt
  rw [List.isPrefixOf_iff_prefix, List.prefix_iff_eq_take]
  exact ⟨fun h => h.symm, fun h => h.symm⟩

/-- Parts as texts. -/
theorem ext0 (s : ByteArray) (i : Nat) : (s.extract 0 i).data.toList = s.data.toList.take i := by
  simp [ByteArray.data_extract, Array.toList_extract, List.extract]
theorem ext1 (s : ByteArray) (i : Nat) : (s.extract i s.size).data.toList = s.data.toList.drop i := by
  simp [ByteArray.data_extract, Array.toList_extract, List.extract]
  rw [List.take_of_length_le]
  rw [List.length_drop]
  exact Nat.le_refl _
theorem split_ps : ∀ (n : Nat) (s : ByteArray), s.size < n → (splitB flB 0 (countB s flB) s).map (fun x => x.data.toList) = ps s.data.toList
  | 0, s, h => by omega
  | n + 1, s, h => by
    have hz : flB.size = 8 := rfl
    by_cases hi : index s.data.toList fl8 = -1
    · have hi' : indexB s flB = -1 := hi
      rw [countB_miss s flB hi', splitB_zero, ps_none hi]; rfl
    · obtain ⟨hb, he⟩ := idx_bd hi
      have he' : indexB s flB = ((index s.data.toList fl8).toNat : Int) := he
      generalize (index s.data.toList fl8).toNat = i at hb he he'
      have h1 := countB_hit s flB i (by rw [hz]; omega) he'
      rw [hz] at h1
      have h2 := splitB_hit flB 0 (countB (s.extract (i + 8) s.size) flB) s i he'
      rw [hz] at h2
      rw [Nat.add_comm] at h1
      rw [h1, h2, List.map_cons, Nat.add_zero, ext0, ps_some he]
      refine congrArg (fun t => s.data.toList.take i :: t) ?_
      have hs : s.data.toList.length = s.size := Array.length_toList
      have hn : (s.extract (i + 8) s.size).size < n := by rw [ByteArray.size_extract]; omega
      rw [split_ps n (s.extract (i + 8) s.size) hn, ext1]
end Go.Proofs.YtogoedjcacnfcaaDoor
