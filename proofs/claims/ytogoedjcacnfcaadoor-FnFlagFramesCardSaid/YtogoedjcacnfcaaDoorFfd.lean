/-
  Plain facts of frames between flags that are found again. No condition.
-/
import Derived.Test.YtogoedjcacnfcaaDoorFfl
import Derived.Test.YtogoedjcacnfcaaDoorWflag
namespace Go.Proofs.YtogoedjcacnfcaaDoor
open Go.RowKit Go.Lib
set_option linter.unusedVariables false

/-- Six ones stand nowhere. -/
def no6 (a : List UInt8) : Prop := ∀ j : Nat, ¬ (a[j]? = some 49 ∧ a[j + 1]? = some 49 ∧ a[j + 2]? = some 49 ∧ a[j + 3]? = some 49 ∧ a[j + 4]? = some 49 ∧ a[j + 5]? = some 49)
theorem take_one {a : List UInt8} {k : Nat} {c : UInt8} (h : a[k]? = some c) : a.take (k + 1) = a.take k ++ [c] := by
  rw [List.take_add_one, h]; rfl
theorem no6_stf {l : List UInt8} (hb : l.all isBit = true) : no6 (stf l).1 := by
  rintro j ⟨h0, h1, h2, h3, h4, h5⟩
  have hlt : j + 5 < (stf l).1.length := (List.getElem?_eq_some_iff.1 h5).1
  have hr := stf_row l hb (j + 6) (by omega)
  generalize (stf l).1 = a at *
  have ne : (49 : UInt8) ≠ 48 := by decide
  rw [take_one h5, rowOf_snoc, if_neg ne, take_one h4, rowOf_snoc, if_neg ne, take_one h3, rowOf_snoc, if_neg ne, take_one h2, rowOf_snoc, if_neg ne, take_one h1, rowOf_snoc, if_neg ne, take_one h0, rowOf_snoc, if_neg ne] at hr
  omega
theorem occ_at {l : List UInt8} {j t : Nat} (h : occAt l fl8 j = true) (ht : t < 8) : l[j + t]? = fl8[t]? := by
  have h1 := occ_iff.1 h
  rw [← h1, List.getElem?_take, if_pos ht, List.getElem?_drop]
theorem no_occ {a rest : List UInt8} {j : Nat} (h : no6 a) (hj : j < a.length) : occAt (a ++ (fl8 ++ rest)) fl8 j = false := by
  cases ho : occAt (a ++ (fl8 ++ rest)) fl8 j
  · rfl
  · exfalso
    have h1 : (a ++ (fl8 ++ rest))[j + 1]? = some 49 := occ_at ho (t := 1) (by omega)
    have h2 : (a ++ (fl8 ++ rest))[j + 2]? = some 49 := occ_at ho (t := 2) (by omega)
    have h3 : (a ++ (fl8 ++ rest))[j + 3]? = some 49 := occ_at ho (t := 3) (by omega)
    have h4 : (a ++ (fl8 ++ rest))[j + 4]? = some 49 := occ_at ho (t := 4) (by omega)
    have h5 : (a ++ (fl8 ++ rest))[j + 5]? = some 49 := occ_at ho (t := 5) (by omega)
    have h6 : (a ++ (fl8 ++ rest))[j + 6]? = some 49 := occ_at ho (t := 6) (by omega)
    have hm : (a ++ (fl8 ++ rest))[a.length]? = some 48 := by rw [List.getElem?_append_right (Nat.le_refl _), Nat.sub_self]; rfl
    have ne : (some (48 : UInt8)) ≠ some 49 := by decide
    by_cases hl : j + 6 < a.length
    · rw [List.getElem?_append_left (by omega)] at h1 h2 h3 h4 h5 h6
      exact h (j + 1) ⟨h1, h2, h3, h4, h5, h6⟩
    · have hd : a.length = j + 1 ∨ a.length = j + 2 ∨ a.length = j + 3 ∨ a.length = j + 4 ∨ a.length = j + 5 ∨ a.length = j + 6 := by omega
      rcases hd with e | e | e | e | e | e
      · rw [e] at hm; exact ne (hm.symm.trans h1)
      · rw [e] at hm; exact ne (hm.symm.trans h2)
      · rw [e] at hm; exact ne (hm.symm.trans h3)
      · rw [e] at hm; exact ne (hm.symm.trans h4)
      · rw [e] at hm; exact ne (hm.symm.trans h5)
      · rw [e] at hm; exact ne (hm.symm.trans h6)
theorem idx_after {a : List UInt8} (rest : List UInt8) (h : no6 a) : index (a ++ (fl8 ++ rest)) fl8 = (a.length : Int) := by
  refine index_first (by simp) ?_ (fun j hj => no_occ h hj)
  rw [occ_iff, List.drop_left]
  exact List.take_left' rfl
theorem gs_after {a : List UInt8} (rest : List UInt8) (h : no6 a) (h0 : a.length ≠ 0) : gs (a ++ (fl8 ++ rest)) = a :: gs rest := by
  rw [gs_some (idx_after rest h), if_neg h0, List.take_left]
  have e : (a ++ (fl8 ++ rest)).drop (a.length + 8) = rest := by
    rw [← List.append_assoc]
    exact List.drop_left' (by simp [fl8])
  rw [e]; rfl
/-- Some parts, each with a flag behind it. -/
def wrs : List (List UInt8) → List UInt8
  | [] => []
  | a :: bs => a ++ (fl8 ++ wrs bs)
theorem wrs_snoc (a : List UInt8) : ∀ bs : List (List UInt8), wrs (bs ++ [a]) = wrs bs ++ a ++ fl8
  | [] => by simp [wrs]
  | b :: bs => by simp [wrs, wrs_snoc a bs]
theorem gs_wrs (r : List UInt8) : ∀ bs : List (List UInt8), (∀ a ∈ bs, no6 a ∧ a.length ≠ 0) → gs (wrs bs ++ r) = bs ++ gs r
  | [], _ => rfl
  | a :: bs, h => by
    have ha := h a (by simp)
    show gs ((a ++ (fl8 ++ wrs bs)) ++ r) = _
    rw [List.append_assoc, List.append_assoc, gs_after _ ha.1 ha.2, gs_wrs r bs (fun b hb => h b (by simp [hb]))]
    rfl
theorem gs_nil : gs [] = [] := by
  refine gs_none ?_
  decide
theorem gs_fl (l : List UInt8) : gs (fl8 ++ l) = gs l := by
  rw [gs_some (index_flag l), if_pos rfl]
  rfl
/-- The stuffed bits of a frame. -/
def stx (x : ByteArray) : List UInt8 := (stf x.data.toList).1
theorem flgs_wrs (xs : List ByteArray) : ∀ k, k ≤ xs.length → flgs xs k = fl8 ++ wrs ((xs.take k).map stx)
  | 0, _ => by simp [flgs, wrs, flg, fl8]
  | k + 1, hk => by
    have ht : xs.take (k + 1) = xs.take k ++ [xs.getD k ByteArray.empty] := by
      rw [List.take_add_one, List.getElem?_eq_getElem (by omega : k < xs.length)]
      simp [List.getD_eq_getElem?_getD, List.getElem?_eq_getElem (by omega : k < xs.length)]
    unfold flgs
    rw [flgs_wrs xs k (by omega), ht, List.map_append, List.map_singleton, wrs_snoc]
    show fl8 ++ wrs (List.map stx (List.take k xs)) ++ stx _ ++ fl8 = _
    simp only [List.append_assoc]
theorem unsR_stf2 {l : List UInt8} (h : bitsB 40 l = true) : unsR (stf l).1 = some l := by
  have h2 : l.length ≤ 40 ∧ l.all isBit = true := by simpa [bitsB] using h
  have hl := stf_len l
  refine unsR_some ?_ (uns_stf l) h
  have := stf_bits l h2.2
  simp only [bitsB, this, Bool.and_true, decide_eq_true_eq]
  omega
theorem uL_stx {x : ByteArray} (h : frB x = true) : uL (stx x) = x := by
  unfold uL stx
  rw [unsR_stf2 (frB_yes h).1]; rfl
theorem stx_ok {x : ByteArray} (h : frB x = true) : no6 (stx x) ∧ (stx x).length ≠ 0 := by
  obtain ⟨h1, h2⟩ := frB_yes h
  have hb : x.data.toList.all isBit = true := by simp only [bitsB, Bool.and_eq_true] at h1; exact h1.2
  refine ⟨no6_stf hb, fun e => ?_⟩
  have e0 : stx x = [] := List.eq_nil_of_length_eq_zero e
  have hu := unsR_stf2 h1
  unfold stx at e0
  rw [e0] at hu
  have : x.data.toList = [] := (Option.some.inj (hu.symm.trans (show unsR [] = some [] from rfl)))
  rw [ByteArray.toList_eq, this] at h2
  cases h2
theorem map_uL {xs : List ByteArray} (h : ∀ x ∈ xs, frB x = true) : (xs.map stx).map uL = xs := by
  rw [List.map_map]
  conv => rhs; rw [← List.map_id xs]
  exact List.map_congr_left (fun x hx => uL_stx (h x hx))
theorem wrs_len : ∀ xs : List ByteArray, (∀ x ∈ xs, (stx x).length ≤ 15) → (wrs (xs.map stx)).length ≤ 23 * xs.length
  | [], _ => by simp [wrs]
  | x :: xs, h => by
    have h1 := h x (by simp)
    have h2 := wrs_len xs (fun y hy => h y (by simp [hy]))
    show (stx x ++ (fl8 ++ wrs (xs.map stx))).length ≤ _
    rw [List.length_append, List.length_append, List.length_cons]
    have : fl8.length = 8 := rfl
    omega
theorem wrs_bits : ∀ xs : List ByteArray, (∀ x ∈ xs, frB x = true) → (wrs (xs.map stx)).all isBit = true
  | [], _ => rfl
  | x :: xs, h => by
    have h1 := (frB_yes (h x (by simp))).1
    have hb : x.data.toList.all isBit = true := by simp only [bitsB, Bool.and_eq_true] at h1; exact h1.2
    show (stx x ++ (fl8 ++ wrs (xs.map stx))).all isBit = true
    rw [List.all_append, List.all_append, wrs_bits xs (fun y hy => h y (by simp [hy])), show (stx x).all isBit = true from stf_bits _ hb]
    rfl
/-- A frame as it is drawn: short bits, or no bits. -/
def Fr (x : ByteArray) : Prop := x.size ≤ 60 ∧ (x.size ≤ 12 ∨ bitsB 40 x.data.toList = false)
theorem flag_found {xs : List ByteArray} (h : ∀ x ∈ xs, Fr x) (hne : flagR xs ≠ []) :
    FF ⟨(flagR xs).toArray⟩ = xs ∧ (FF (ByteArray.mk (flagR xs).toArray ++ ByteArray.mk (flagR xs).toArray)).length = 2 * xs.length := by
  have hc : (decide (xs.length ≤ 4) && xs.all frB) = true := by
    cases hc : (decide (xs.length ≤ 4) && xs.all frB)
    · exfalso; apply hne; unfold flagR; rw [hc]; rfl
    · rfl
  have hR : flagR xs = fl8 ++ wrs (xs.map stx) := by
    unfold flagR; rw [if_pos hc, flgs_wrs xs xs.length (Nat.le_refl _), List.take_length]
  rw [Bool.and_eq_true] at hc
  have h4 : xs.length ≤ 4 := by simpa using hc.1
  have hfr : ∀ x ∈ xs, frB x = true := fun x hx => List.all_eq_true.1 hc.2 x hx
  have hs : ∀ x ∈ xs, (stx x).length ≤ 15 := by
    intro x hx
    have h1 := stf_len x.data.toList
    have e : x.data.toList.length = x.size := Array.length_toList
    have h12 : x.size ≤ 12 := by
      rcases (h x hx).2 with h | h
      · exact h
      · rw [(frB_yes (hfr x hx)).1] at h; cases h
    unfold stx
    omega
  have hok : ∀ a ∈ xs.map stx, no6 a ∧ a.length ≠ 0 := by
    intro a ha
    obtain ⟨x, hx, rfl⟩ := List.mem_map.1 ha
    exact stx_ok (hfr x hx)
  have hl := wrs_len xs hs
  have hb := wrs_bits xs hfr
  have hm := map_uL hfr
  rw [hR]
  generalize hW : wrs (xs.map stx) = W at *
  have hg : ∀ r, gs (W ++ r) = xs.map stx ++ gs r := fun r => by rw [← hW]; exact gs_wrs r _ hok
  have h8 : fl8.length = 8 := rfl
  have hf8 : fl8.all isBit = true := rfl
  have f1 : bitsB 300 (fl8 ++ W) = true := by
    simp only [bitsB, Bool.and_eq_true, decide_eq_true_eq, List.all_append, List.length_append]
    exact ⟨by omega, hf8, hb⟩
  have f2 : bitsB 300 (fl8 ++ W ++ (fl8 ++ W)) = true := by
    simp only [bitsB, Bool.and_eq_true, decide_eq_true_eq, List.all_append, List.length_append]
    exact ⟨by omega, ⟨hf8, hb⟩, hf8, hb⟩
  refine ⟨?_, ?_⟩
  · unfold FF
    show (if bitsB 300 (fl8 ++ W) = true then (fnd (fl8 ++ W)).map uL else []) = xs
    have hg0 := hg []
    rw [List.append_nil, gs_nil, List.append_nil] at hg0
    rw [if_pos f1, fnd_flag, hg0, hm]
  · unfold FF
    have e : (ByteArray.mk (fl8 ++ W).toArray ++ ByteArray.mk (fl8 ++ W).toArray).data.toList = fl8 ++ W ++ (fl8 ++ W) := by simp
    rw [e, if_pos f2, List.append_assoc, fnd_flag, hg, gs_fl]
    have hg0 := hg []
    rw [List.append_nil, gs_nil, List.append_nil] at hg0
    rw [hg0, List.map_append, hm, List.length_append]
    omega
end Go.Proofs.YtogoedjcacnfcaaDoor
