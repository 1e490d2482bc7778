/-
  The walks of the program's functions that answer. Conditions: what the desk wants of the library's variables, and the lengths that are typed.
-/
import Derived.Test.YtndpbhmokobbpaaGreatDoorDm16
import Derived.Test.YtndpbhmokobbpaaGreatDoorDm18
import Derived.Test.YtndpbhmokobbpaaGreatDoorDm24
namespace Go.Proofs.YtndpbhmokobbpaaGreatDoor
open Go.RowKit
set_option linter.unusedVariables false

/-- What the desk says, and its words. -/
def tWrong : ByteArray := mkT [119, 114, 111, 110, 103]
def tWhat : ByteArray := mkT [119, 104, 97, 116]
def tYes : ByteArray := mkT [121, 101, 115]
def tNo : ByteArray := mkT [110, 111]
def wStuff : ByteArray := mkT [115, 116, 117, 102, 102]
def wMend : ByteArray := mkT [109, 101, 110, 100]
def wPoint : ByteArray := mkT [112, 111, 105, 110, 116]
def wGroups : ByteArray := mkT [103, 114, 111, 117, 112, 115]
def wSeal : ByteArray := mkT [115, 101, 97, 108]
def wCheck : ByteArray := mkT [99, 104, 101, 99, 107]

theorem aif_any (b : Bool) (t : ByteArray) (w : World) :
    Calls Tryz.prog 46 #[.bool b, .string t] w fun e w' => e = .returned (.string (if b = true then t else tWrong)) ∧ w = w' := by
  cases b
  · go_enter Tryz.func46, Tryz.ntmps46
    go_wp2
    go_ret
    exact ⟨rfl, rfl⟩
  · go_enter Tryz.func46, Tryz.ntmps46
    go_wp2
    go_ret
    exact ⟨rfl, rfl⟩
theorem aif_eq (b : Bool) (t T : ByteArray) (w : World) (h : (if b = true then t else tWrong) = T) :
    Calls Tryz.prog 46 #[.bool b, .string t] w fun e w' => e = .returned (.string T) ∧ w = w' := by
  rw [← h]
  exact aif_any b t w
theorem yon_any (b : Bool) (w : World) :
    Calls Tryz.prog 57 #[.bool b] w fun e w' => e = .returned (.string (if b = true then tYes else tNo)) ∧ w = w' := by
  cases b
  · go_enter Tryz.func57, Tryz.ntmps57
    go_wp2
    go_ret
    exact ⟨rfl, rfl⟩
  · go_enter Tryz.func57, Tryz.ntmps57
    go_wp2
    go_ret
    exact ⟨rfl, rfl⟩
theorem w_yes {wd : ByteArray} {l : List UInt8} (h : wd = mkT l) : (wd.toList == l) = true := by
  subst h
  rw [Lib.toList_data, mkT_list]
  simp
theorem w_no {wd : ByteArray} {l : List UInt8} (h : ¬ wd = mkT l) : (wd.toList == l) = false := by
  rw [Lib.toList_data, beq_eq_false_iff_ne]
  intro e
  exact h (by rw [← e, mkT_data])
theorem pntR_leD : ∀ (l g : List Int), (∀ x ∈ g, x ≤ 255) → (∀ x ∈ l, x ≤ 255) → g.length + l.length ≤ 16 → ∀ x ∈ pntR g l, x ≤ 255
  | [], g, hg, _, hl, x, h => by
    rw [pntR] at h
    rcases List.mem_cons.1 h with h | h
    · simp at hl; omega
    · exact hg x h
  | b :: l, g, hg, hb, hl, x, h => by
    have hb' : ∀ x ∈ l, x ≤ 255 := fun x hx => hb x (by simp [hx])
    simp only [List.length_cons] at hl
    rw [pntR] at h
    by_cases h0 : b = 0
    · rw [if_pos h0, List.cons_append] at h
      rcases List.mem_cons.1 h with h | h
      · omega
      · rcases List.mem_append.1 h with h | h
        · exact hg x h
        · exact pntR_leD l [] (by simp) hb' (by simp; omega) x h
    · rw [if_neg h0] at h
      exact pntR_leD l (g ++ [b]) (by intro y hy; rcases List.mem_append.1 hy with hy | hy; exact hg y hy; simp at hy; rw [hy]; exact hb b (by simp)) hb' (by simp; omega) x h
theorem bytes_bd {l : List Int} (h : bytesB 16 l = true) : l.length ≤ 16 ∧ ∀ x ∈ l, 0 ≤ x ∧ x ≤ 255 := by
  have h2 : l.length ≤ 16 ∧ l.all isByte = true := by simpa [bytesB] using h
  exact ⟨h2.1, fun x hx => by have := List.all_eq_true.1 h2.2 x hx; simpa [isByte] using this⟩
theorem pnt_bd {l : List Int} (h : bytesB 16 l = true) : (pnt l).length ≤ 17 ∧ 0 < (pnt l).length ∧ ∀ x ∈ pnt l, 0 ≤ x ∧ x ≤ 1000 := by
  obtain ⟨hl, hb⟩ := bytes_bd h
  have hn := pnt_len l
  refine ⟨by omega, by omega, fun x hx => ?_⟩
  have h1 := pnt_pos l (fun x hx => (hb x hx).1) x hx
  rw [pnt_eq] at hx
  have h2 := pntR_leD l [] (by simp) (fun x hx => (hb x hx).2) (by simp; omega) x hx
  omega
theorem pntR'_bd (l : List Int) : (pntR' l).length ≤ 17 ∧ ∀ x ∈ pntR' l, 0 ≤ x ∧ x ≤ 1000 := by
  unfold pntR'
  by_cases h : bytesB 16 l = true
  · rw [if_pos h]; exact ⟨(pnt_bd h).1, (pnt_bd h).2.2⟩
  · rw [if_neg h]; simp
theorem gr_bd {n : Nat} (hn : n < 2097152) : (gr n).length ≤ 3 ∧ 0 < (gr n).length ∧ ∀ x ∈ gr n, 0 ≤ x ∧ x ≤ 1000 := by
  refine ⟨gr_len3 hn, gr_pos n, fun x hx => ?_⟩
  have := List.all_eq_true.1 (gr_bytes n) x hx
  simp [by8] at this
  omega
theorem goR_bd (x : Int) : (goR x).length ≤ 3 ∧ ∀ y ∈ goR x, 0 ≤ y ∧ y ≤ 1000 := by
  unfold goR
  by_cases h : btw x 0 1000000 = true
  · rw [if_pos h]
    have := btw_yes h
    have := gr_bd (n := x.toNat) (by omega)
    exact ⟨this.1, this.2.2⟩
  · rw [if_neg h]; simp
/-- Where one reads bytes, so does the other. -/
theorem byte_fd {l : List UInt8} : isByte (fdI l) = isByte (rdN l) ∧ (isByte (rdN l) = true → fdI l = rdN l) := by
  have h := fd_rd (l := l) (M := 255) (by omega)
  have h2 : (isByte (fdI l) = true ↔ isByte (rdN l) = true) := by simpa [isByte] using h.1
  refine ⟨by cases h3 : isByte (fdI l) <;> cases h4 : isByte (rdN l) <;> simp_all, fun h3 => h.2 (by simpa [isByte] using h3)⟩
theorem all_fd : ∀ (P : List ByteArray), ((P.map fun x => fdI x.data.toList).all isByte = (P.map fun x => rdN x.data.toList).all isByte) ∧ ((P.map fun x => rdN x.data.toList).all isByte = true → (P.map fun x => fdI x.data.toList) = P.map fun x => rdN x.data.toList)
  | [] => ⟨rfl, fun _ => rfl⟩
  | x :: P => by
    have ih := all_fd P
    have hb := byte_fd (l := x.data.toList)
    simp only [List.map_cons, List.all_cons]
    refine ⟨by rw [hb.1, ih.1], fun h => ?_⟩
    rw [Bool.and_eq_true] at h
    rw [hb.2 h.1, ih.2 h.2]
theorem pnt_fd (s : ByteArray) : pntR' (fdL s) = if bytesB 16 (rdL s) = true then pnt (rdL s) else [] := by
  have h := all_fd (ptT 44 s)
  unfold pntR'
  have e : bytesB 16 (fdL s) = bytesB 16 (rdL s) := by
    unfold bytesB fdL rdL
    rw [h.1, List.length_map, List.length_map]
  rw [e]
  by_cases hb : bytesB 16 (rdL s) = true
  · rw [if_pos hb, if_pos hb]
    have hb2 : (rdL s).length ≤ 16 ∧ (rdL s).all isByte = true := by simpa [bytesB] using hb
    rw [show fdL s = rdL s from h.2 hb2.2]
  · rw [if_neg hb, if_neg hb]
theorem go_fd (l : List UInt8) : goR (fdI l) = if btw (rdN l) 0 1000000 = true then gr (rdN l).toNat else [] := by
  have h := fd_rd (l := l) (M := 1000000) (by omega)
  unfold goR
  by_cases hb : btw (rdN l) 0 1000000 = true
  · have h2 := h.2 (btw_yes hb)
    rw [h2]
  · rw [if_neg hb, if_neg]
    intro h3
    apply hb
    have := h.1.1 (btw_yes h3)
    simp [btw]; omega

/-- The answer to a word and a text. -/
def ansT (wd tx : ByteArray) : ByteArray :=
  if wd = wStuff then (if bitsB 40 tx.data.toList = true then mkT (stf tx.data.toList).1 else tWrong)
  else if wd = wMend then (if 0 ≤ (mbR tx.data.toList).2 then (mbR tx.data.toList).1 else tWrong)
  else if wd = wPoint then (if bytesB 16 (rdL tx) = true then mkT (ltx (pnt (rdL tx))) else tWrong)
  else if wd = wGroups then (if btw (rdN tx.data.toList) 0 1000000 = true then mkT (ltx (gr (rdN tx.data.toList).toNat)) else tWrong)
  else tWhat
/-- The answer to a word, a divisor and bits. -/
def ansB (wd p s : ByteArray) : ByteArray :=
  if wd = wSeal then (if ¬ s.data.toList = [] ∧ ¬ sealR p.data.toList s.data.toList = [] then mkT (sealR p.data.toList s.data.toList) else tWrong)
  else if wd = wCheck then (if ¬ restR p.data.toList s.data.toList = [] then (if sealedB p.data.toList s.data.toList = true then tYes else tNo) else tWrong)
  else tWhat
/-- The answer to the parts of a line. -/
def ansP : List ByteArray → ByteArray
  | [wd, tx] => ansT wd tx
  | [wd, p, s] => ansB wd p s
  | _ => tWhat
/-- The answer to a line. -/
def ans (s : ByteArray) : ByteArray := ansP (ptT 32 s)

set_option maxHeartbeats 3200000 in
theorem ant_any (wd tx : ByteArray) (w : World) (hs : tx.size ≤ 1048575) (hD : Dk w) :
    Calls Tryz.prog 39 #[.string wd, .string tx] w fun e w' => e = .returned (.string (ansT wd tx)) ∧ Below w.heap.size w w' := by
  have HD := Lib.hid hD
  have HA := Lib.hid aif_eq
  clear hD
  unfold ansT
  by_cases h1 : wd = wStuff
  · rw [if_pos h1]
    have e1 : (wd.toList == [115, 116, 117, 102, 102]) = true := w_yes h1
    have HV := Lib.hid (fun W => iVB_any tx W (by unfold maxLen; omega))
    have HT := Lib.hid (fun W => iSB_any tx W (by omega))
    have HR : Hid ((if bitsB 40 tx.data.toList = true then mkT (stf tx.data.toList).1 else tWrong) = (if bitsB 40 tx.data.toList = true then ⟨(stuffS tx.data.toList).toArray⟩ else tWrong)) := Lib.hid (by
      unfold stuffS
      by_cases hb : bitsB 40 tx.data.toList = true
      · rw [if_pos hb, if_pos hb, if_pos hb]; rfl
      · rw [if_neg hb, if_neg hb])
    rw [HR.out]
    generalize hRR : (if bitsB 40 tx.data.toList = true then (⟨(stuffS tx.data.toList).toArray⟩ : ByteArray) else tWrong) = R
    have HRR := Lib.hid hRR
    clear hRR HR
    generalize bitsB 40 tx.data.toList = b at *
    generalize (⟨(stuffS tx.data.toList).toArray⟩ : ByteArray) = T at *
    clear h1
    go_enter Tryz.func39, Tryz.ntmps39
    go_wp2_with fail
    refine (HV.out _).mono ?_
    rintro e w1 ⟨rfl, hb1⟩
    have HB1 := Lib.hid hb1
    clear hb1
    go_wp2_with fail
    refine (HT.out _).mono ?_
    rintro e w2 ⟨rfl, hb2⟩
    have HB2 := Lib.hid (HB1.out.trans (hb2.mono HB1.out.size))
    clear hb2
    go_wp2_with fail
    refine (HA.out _ _ R _ (by simpa using HRR.out)).mono ?_
    rintro e w3 ⟨rfl, rfl⟩
    go_wp2_with fail
    go_ret
    exact ⟨rfl, HB2.out⟩
  · rw [if_neg h1]
    have e1 : (wd.toList == [115, 116, 117, 102, 102]) = false := w_no h1
    by_cases h2 : wd = wMend
    · rw [if_pos h2]
      have e2 : (wd.toList == [109, 101, 110, 100]) = true := w_yes h2
      have HT := Lib.hid (fun W hW => iMB_any tx W (by unfold maxLen; omega) hW)
      have HTb := Lib.hid HD.out.tabs
      generalize mbR tx.data.toList = r at *
      obtain ⟨T, n⟩ := r
      simp only at HT ⊢
      generalize hRR : (if 0 ≤ n then T else tWrong) = R
      have HRR := Lib.hid hRR
      clear h1 h2 hRR
      go_enter Tryz.func39, Tryz.ntmps39
      go_wp2_with fail
      refine (HT.out _ HTb.out).mono ?_
      rintro e w1 ⟨rfl, hb1⟩
      have HB1 := Lib.hid hb1
      clear hb1
      go_wp2_with fail
      refine (HA.out _ _ R _ (by simpa using HRR.out)).mono ?_
      rintro e w3 ⟨rfl, rfl⟩
      go_wp2_with fail
      go_ret
      exact ⟨rfl, HB1.out⟩
    · rw [if_neg h2]
      have e2 : (wd.toList == [109, 101, 110, 100]) = false := w_no h2
      by_cases h3 : wd = wPoint
      · rw [if_pos h3]
        have e3 : (wd.toList == [112, 111, 105, 110, 116]) = true := w_yes h3
        have HT := Lib.hid (fun W hW => ifl_any tx W (by omega) hW)
        have hfl : (fdL tx).length ≤ 1048576 := by unfold fdL; rw [List.length_map]; have := ptT_len 44 tx; omega
        have hp := pntR'_bd (fdL tx)
        have hpf := pnt_fd tx
        have hR : (if bytesB 16 (rdL tx) = true then mkT (ltx (pnt (rdL tx))) else tWrong) = if decide (0 < (pntR' (fdL tx)).length) = true then mkT (ltx (pntR' (fdL tx))) else tWrong := by
          rw [hpf]
          by_cases hb : bytesB 16 (rdL tx) = true
          · rw [if_pos hb, if_pos hb, if_pos (by simpa using (pnt_bd hb).2.1)]
          · rw [if_neg hb, if_neg hb, if_neg (by simp)]
        rw [hR]
        obtain ⟨hp1, hp2⟩ := hp
        have HP := Lib.hid (fun W v B (h : OwnL W B v (fdL tx)) => iPB_any W v (fdL tx) (OwnL.rds h) (by omega))
        have HX := Lib.hid (fun W v B (h : OwnL W B v (pntR' (fdL tx))) hW => itd_any W B v _ h (by omega) hp2 hW)
        generalize pntR' (fdL tx) = Z at *
        generalize fdL tx = L at *
        generalize hRR : (if decide (0 < Z.length) = true then mkT (ltx Z) else tWrong) = R
        have HRR := Lib.hid hRR
        generalize mkT (ltx Z) = T at *
        clear h1 h2 h3 hR hpf hp2 hRR
        go_enter Tryz.func39, Tryz.ntmps39
        go_wp2_with fail
        refine (HT.out _ HD.out).mono ?_
        rintro e w1 ⟨u, rfl, ho1, hb1⟩
        have HD1 := Lib.hid (HD.out.below hb1)
        have HB1 := Lib.hid hb1
        have HO1 := Lib.hid ho1
        obtain ⟨A1, c1, huf⟩ := ho1.form
        subst huf
        clear hb1 ho1
        go_wp2_with fail
        refine (HP.out _ _ _ HO1.out).mono ?_
        rintro e w2 ⟨u, rfl, ho2, hb2⟩
        have HD2 := Lib.hid (HD1.out.below hb2)
        have HB2 := Lib.hid (HB1.out.trans (hb2.mono HB1.out.size))
        have HO2 := Lib.hid (show OwnL w2 w1.heap.size u Z from ho2)
        obtain ⟨A2, c2, huf⟩ := HO2.out.form
        subst huf
        clear hb2 ho2
        go_wp2_with fail
        refine (HX.out _ _ _ HO2.out HD2.out).mono ?_
        rintro e w3 ⟨rfl, hb3⟩
        have HB3 := Lib.hid (HB2.out.trans (hb3.mono HB2.out.size))
        clear hb3
        go_wp2_with fail
        refine (HA.out _ _ R _ (by simpa using HRR.out)).mono ?_
        rintro e w4 ⟨rfl, rfl⟩
        go_wp2_with fail
        go_ret
        exact ⟨rfl, HB3.out⟩
      · rw [if_neg h3]
        have e3 : (wd.toList == [112, 111, 105, 110, 116]) = false := w_no h3
        by_cases h4 : wd = wGroups
        · rw [if_pos h4]
          have e4 : (wd.toList == [103, 114, 111, 117, 112, 115]) = true := w_yes h4
          have HT := Lib.hid (fun W hW => ifd_any tx W (by omega) hW)
          have hp := goR_bd (fdI tx.data.toList)
          have hpf := go_fd tx.data.toList
          have hR : (if btw (rdN tx.data.toList) 0 1000000 = true then mkT (ltx (gr (rdN tx.data.toList).toNat)) else tWrong) = if decide (0 < (goR (fdI tx.data.toList)).length) = true then mkT (ltx (goR (fdI tx.data.toList))) else tWrong := by
            rw [hpf]
            by_cases hb : btw (rdN tx.data.toList) 0 1000000 = true
            · rw [if_pos hb, if_pos hb, if_pos (by simpa using gr_pos _)]
            · rw [if_neg hb, if_neg hb, if_neg (by simp)]
          rw [hR]
          obtain ⟨hp1, hp2⟩ := hp
          have HP := Lib.hid (fun W => iGO_any (fdI tx.data.toList) W)
          have HX := Lib.hid (fun W v B (h : OwnL W B v (goR (fdI tx.data.toList))) hW => itd_any W B v _ h (by omega) hp2 hW)
          generalize goR (fdI tx.data.toList) = Z at *
          generalize fdI tx.data.toList = x at *
          generalize hRR : (if decide (0 < Z.length) = true then mkT (ltx Z) else tWrong) = R
          have HRR := Lib.hid hRR
          generalize mkT (ltx Z) = T at *
          clear h1 h2 h3 h4 hR hpf hp2 hRR
          go_enter Tryz.func39, Tryz.ntmps39
          go_wp2_with fail
          refine (HT.out _ HD.out).mono ?_
          rintro e w1 ⟨rfl, hb1⟩
          have HD1 := Lib.hid (HD.out.below hb1)
          have HB1 := Lib.hid hb1
          clear hb1
          go_wp2_with fail
          refine (HP.out _).mono ?_
          rintro e w2 ⟨u, rfl, ho2, hb2⟩
          have HD2 := Lib.hid (HD1.out.below hb2)
          have HB2 := Lib.hid (HB1.out.trans (hb2.mono HB1.out.size))
          have HO2 := Lib.hid ho2
          obtain ⟨A2, c2, huf⟩ := HO2.out.form
          subst huf
          clear hb2 ho2
          go_wp2_with fail
          refine (HX.out _ _ _ HO2.out HD2.out).mono ?_
          rintro e w3 ⟨rfl, hb3⟩
          have HB3 := Lib.hid (HB2.out.trans (hb3.mono HB2.out.size))
          clear hb3
          go_wp2_with fail
          refine (HA.out _ _ R _ (by simpa using HRR.out)).mono ?_
          rintro e w4 ⟨rfl, rfl⟩
          go_wp2_with fail
          go_ret
          exact ⟨rfl, HB3.out⟩
        · rw [if_neg h4]
          have e4 : (wd.toList == [103, 114, 111, 117, 112, 115]) = false := w_no h4
          clear h1 h2 h3 h4
          go_enter Tryz.func39, Tryz.ntmps39
          go_wp2_with fail
          go_ret
          exact ⟨rfl, Below.refl _ _⟩
end Go.Proofs.YtndpbhmokobbpaaGreatDoor
