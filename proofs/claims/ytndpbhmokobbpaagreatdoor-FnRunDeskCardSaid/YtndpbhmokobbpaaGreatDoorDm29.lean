/-
  The walk of the model's function that answers a line: a word and a text, and all lines. Condition: the length that is typed.
-/
import Derived.Test.YtndpbhmokobbpaaGreatDoorDm28
namespace Go.Proofs.YtndpbhmokobbpaaGreatDoor
open Go.RowKit
set_option linter.unusedVariables false

set_option maxHeartbeats 6400000 in
theorem saT_any (wd tx : ByteArray) (l : ByteArray) (w : World) (HS : Hid (∀ W, Calls Tryz.prog 26 #[.string l, .int .u8 32] W (SptPost [wd, tx] W))) (hs : tx.size ≤ 1048575) :
    Calls Tryz.prog 12 #[.string l] w fun e w' => e = .returned (.string (ansT wd tx)) ∧ Below w.heap.size w w' := by
  unfold ansT
  by_cases h1 : wd = wStuff
  · rw [if_pos h1]
    have e1 : (wd.toList == [115, 116, 117, 102, 102]) = true := w_yes h1
    clear h1
    have hb := fun W => svb_any tx W (by unfold maxLen; omega)
    by_cases hbi : bitsB 40 tx.data.toList = true
    · rw [hbi] at hb
      have HB := Lib.hid hb
      have HT := Lib.hid (fun W => sst_any tx W (by omega))
      rw [if_pos hbi]
      rw [show (⟨(stf tx.data.toList).1.toArray⟩ : ByteArray) = mkT (stf tx.data.toList).1 from rfl] at HT
      generalize mkT (stf tx.data.toList).1 = R at *
      clear hb hbi
      go_enter Tryz.func12, Tryz.ntmps12
      go_wp2_with fail
      refine (HS.out _).mono ?_
      rintro e w1 ⟨u, rfl, ho1, hb1⟩
      obtain ⟨g, c, huf, hcs⟩ := ho1.tab (by simp)
      have HH := Lib.hid (show He w w.heap.size u [wd, tx] w1 from ⟨ho1, hb1⟩)
      subst huf
      rw [show [wd, tx].length = 2 from rfl] at *
      have c0 : w1.cell? ⟨g, 0, none⟩ = some (.string wd) := hcs _ ho1 0 (by omega)
      have c1 : w1.cell? ⟨g, 1, none⟩ = some (.string tx) := hcs _ ho1 1 (by omega)
      have HCS := Lib.hid hcs
      clear ho1 hb1 hcs
      go_wp2_with (first | (go_at_call 28; refine (HB.out _).mono ?_; rintro e w' ⟨rfl, rfl⟩) | (go_at_call 30; refine (HT.out _).mono ?_; rintro e w' ⟨rfl, rfl⟩))
      go_ret
      exact ⟨rfl, HH.out.b⟩
    · rw [show bitsB 40 tx.data.toList = false from by simpa using hbi] at hb
      have HB := Lib.hid hb
      rw [if_neg hbi]
      clear hb hbi
      go_enter Tryz.func12, Tryz.ntmps12
      go_wp2_with fail
      refine (HS.out _).mono ?_
      rintro e w1 ⟨u, rfl, ho1, hb1⟩
      obtain ⟨g, c, huf, hcs⟩ := ho1.tab (by simp)
      have HH := Lib.hid (show He w w.heap.size u [wd, tx] w1 from ⟨ho1, hb1⟩)
      subst huf
      rw [show [wd, tx].length = 2 from rfl] at *
      have c0 : w1.cell? ⟨g, 0, none⟩ = some (.string wd) := hcs _ ho1 0 (by omega)
      have c1 : w1.cell? ⟨g, 1, none⟩ = some (.string tx) := hcs _ ho1 1 (by omega)
      have HCS := Lib.hid hcs
      clear ho1 hb1 hcs
      go_wp2_with (go_at_call 28; refine (HB.out _).mono ?_; rintro e w' ⟨rfl, rfl⟩)
      go_ret
      exact ⟨rfl, HH.out.b⟩
  · rw [if_neg h1]
    have e1 : (wd.toList == [115, 116, 117, 102, 102]) = false := w_no h1
    clear h1
    by_cases h2 : wd = wMend
    · rw [if_pos h2]
      have e2 : (wd.toList == [109, 101, 110, 100]) = true := w_yes h2
      have HT := Lib.hid (fun W => sMB_any tx W (by unfold maxLen; omega))
      generalize mbR tx.data.toList = r at *
      obtain ⟨T, n⟩ := r
      simp only at HT ⊢
      clear h2
      by_cases hn : 0 ≤ n
      · rw [if_pos hn]
        have hn2 : ¬ n < 0 := by omega
        go_enter Tryz.func12, Tryz.ntmps12
        go_wp2_with fail
        refine (HS.out _).mono ?_
        rintro e w1 ⟨u, rfl, ho1, hb1⟩
        obtain ⟨g, c, huf, hcs⟩ := ho1.tab (by simp)
        have HH := Lib.hid (show He w w.heap.size u [wd, tx] w1 from ⟨ho1, hb1⟩)
        subst huf
        rw [show [wd, tx].length = 2 from rfl] at *
        have c0 : w1.cell? ⟨g, 0, none⟩ = some (.string wd) := hcs _ ho1 0 (by omega)
        have c1 : w1.cell? ⟨g, 1, none⟩ = some (.string tx) := hcs _ ho1 1 (by omega)
        have HCS := Lib.hid hcs
        clear ho1 hb1 hcs
        go_wp2_with fail
        refine (HT.out _).mono ?_
        rintro e w2 ⟨rfl, hb2⟩
        have HH2 := Lib.hid (HH.out.more hb2)
        clear hb2
        go_wp2_with fail
        go_ret
        exact ⟨rfl, HH2.out.b⟩
      · rw [if_neg hn]
        have hn2 : n < 0 := by omega
        go_enter Tryz.func12, Tryz.ntmps12
        go_wp2_with fail
        refine (HS.out _).mono ?_
        rintro e w1 ⟨u, rfl, ho1, hb1⟩
        obtain ⟨g, c, huf, hcs⟩ := ho1.tab (by simp)
        have HH := Lib.hid (show He w w.heap.size u [wd, tx] w1 from ⟨ho1, hb1⟩)
        subst huf
        rw [show [wd, tx].length = 2 from rfl] at *
        have c0 : w1.cell? ⟨g, 0, none⟩ = some (.string wd) := hcs _ ho1 0 (by omega)
        have c1 : w1.cell? ⟨g, 1, none⟩ = some (.string tx) := hcs _ ho1 1 (by omega)
        have HCS := Lib.hid hcs
        clear ho1 hb1 hcs
        go_wp2_with fail
        refine (HT.out _).mono ?_
        rintro e w2 ⟨rfl, hb2⟩
        have HH2 := Lib.hid (HH.out.more hb2)
        clear hb2
        go_wp2_with fail
        go_ret
        exact ⟨rfl, HH2.out.b⟩
    · rw [if_neg h2]
      have e2 : (wd.toList == [109, 101, 110, 100]) = false := w_no h2
      clear h2
      by_cases h3 : wd = wPoint
      · rw [if_pos h3]
        have e3 : (wd.toList == [112, 111, 105, 110, 116]) = true := w_yes h3
        have HT := Lib.hid (fun W => srl_any tx W (by omega))
        have hfl : (rdL tx).length ≤ 1048576 := by unfold rdL; rw [List.length_map]; have := ptT_len 44 tx; omega
        have hV := fun W v (h : Rds W v (rdL tx)) => svy_any W v (rdL tx) 16 h (by omega) (by omega)
        clear h3
        by_cases hb : bytesB 16 (rdL tx) = true
        · rw [if_pos hb]
          rw [hb] at hV
          have HV := Lib.hid hV
          have hp := pnt_bd hb
          have hpr : pntR' (rdL tx) = pnt (rdL tx) := by unfold pntR'; rw [if_pos hb]
          have hP := fun W v (h : Rds W v (rdL tx)) => sPB_any W v (rdL tx) h (by omega)
          rw [hpr] at hP
          have HP := Lib.hid hP
          obtain ⟨hp1, hp2, hp3⟩ := hp
          have HX := Lib.hid (fun W v (h : Rds W v (pnt (rdL tx))) => slt_any W v _ h (by omega) hp3)
          generalize mkT (ltx (pnt (rdL tx))) = R at *
          generalize pnt (rdL tx) = Z at *
          generalize rdL tx = L at *
          clear hb hV hP hpr hp3
          go_enter Tryz.func12, Tryz.ntmps12
          go_wp2_with fail
          refine (HS.out _).mono ?_
          rintro e w1 ⟨u, rfl, ho1, hb1⟩
          obtain ⟨g, c, huf, hcs⟩ := ho1.tab (by simp)
          have HH := Lib.hid (show He w w.heap.size u [wd, tx] w1 from ⟨ho1, hb1⟩)
          subst huf
          rw [show [wd, tx].length = 2 from rfl] at *
          have c0 : w1.cell? ⟨g, 0, none⟩ = some (.string wd) := hcs _ ho1 0 (by omega)
          have c1 : w1.cell? ⟨g, 1, none⟩ = some (.string tx) := hcs _ ho1 1 (by omega)
          have HCS := Lib.hid hcs
          clear ho1 hb1 hcs
          go_wp2_with fail
          refine (HT.out _).mono ?_
          rintro e w2 ⟨u, rfl, ho2, hb2⟩
          have HH2 := Lib.hid (HH.out.more hb2)
          have HO2 := Lib.hid ho2
          obtain ⟨A2, c2, huf⟩ := ho2.form
          subst huf
          clear hb2 ho2
          go_wp2_with (go_at_call 33; refine (HV.out _ _ (OwnL.rds HO2.out)).mono ?_; rintro e w' ⟨rfl, rfl⟩)
          refine (HP.out _ _ (OwnL.rds HO2.out)).mono ?_
          rintro e w3 ⟨u, rfl, ho3, hb3⟩
          have HH3 := Lib.hid (HH2.out.more hb3)
          have HO3 := Lib.hid (show OwnL w3 w2.heap.size u Z from ho3)
          obtain ⟨A3, c3, huf⟩ := HO3.out.form
          subst huf
          clear hb3 ho3
          go_wp2_with (go_at_call 21; refine (HX.out _ _ (OwnL.rds HO3.out)).mono ?_; rintro e w' ⟨rfl, rfl⟩)
          go_ret
          exact ⟨rfl, HH3.out.b⟩
        · rw [if_neg hb]
          rw [show bytesB 16 (rdL tx) = false from by simpa using hb] at hV
          have HV := Lib.hid hV
          generalize rdL tx = L at *
          clear hb hV
          go_enter Tryz.func12, Tryz.ntmps12
          go_wp2_with fail
          refine (HS.out _).mono ?_
          rintro e w1 ⟨u, rfl, ho1, hb1⟩
          obtain ⟨g, c, huf, hcs⟩ := ho1.tab (by simp)
          have HH := Lib.hid (show He w w.heap.size u [wd, tx] w1 from ⟨ho1, hb1⟩)
          subst huf
          rw [show [wd, tx].length = 2 from rfl] at *
          have c0 : w1.cell? ⟨g, 0, none⟩ = some (.string wd) := hcs _ ho1 0 (by omega)
          have c1 : w1.cell? ⟨g, 1, none⟩ = some (.string tx) := hcs _ ho1 1 (by omega)
          have HCS := Lib.hid hcs
          clear ho1 hb1 hcs
          go_wp2_with fail
          refine (HT.out _).mono ?_
          rintro e w2 ⟨u, rfl, ho2, hb2⟩
          have HH2 := Lib.hid (HH.out.more hb2)
          have HO2 := Lib.hid ho2
          obtain ⟨A2, c2, huf⟩ := ho2.form
          subst huf
          clear hb2 ho2
          go_wp2_with (go_at_call 33; refine (HV.out _ _ (OwnL.rds HO2.out)).mono ?_; rintro e w' ⟨rfl, rfl⟩)
          go_ret
          exact ⟨rfl, HH2.out.b⟩
      · rw [if_neg h3]
        have e3 : (wd.toList == [112, 111, 105, 110, 116]) = false := w_no h3
        clear h3
        by_cases h4 : wd = wGroups
        · rw [if_pos h4]
          have e4 : (wd.toList == [103, 114, 111, 117, 112, 115]) = true := w_yes h4
          have HT := Lib.hid (fun W => srN_any tx W (by omega))
          have hI := fun W => inr_any W (rdN tx.data.toList) 0 1000000
          clear h4
          by_cases hb : btw (rdN tx.data.toList) 0 1000000 = true
          · rw [if_pos hb]
            have hb2 := btw_yes hb
            obtain ⟨n, hn⟩ : ∃ n : Nat, rdN tx.data.toList = (n : Int) := ⟨(rdN tx.data.toList).toNat, by omega⟩
            rw [show (decide (0 ≤ rdN tx.data.toList) && decide (rdN tx.data.toList ≤ 1000000)) = true from hb, hn] at hI
            rw [hn] at HT ⊢
            have hI2 := fun W => sgr_any n W (by omega)
            have HI := Lib.hid hI
            have HG := Lib.hid hI2
            have hg := gr_bd (n := n) (by omega)
            rw [Int.toNat_natCast]
            obtain ⟨hg1, hg2, hg3⟩ := hg
            have HX := Lib.hid (fun W v (h : Rds W v (gr n)) => slt_any W v _ h (by omega) hg3)
            generalize mkT (ltx (gr n)) = R at *
            generalize gr n = Z at *
            clear hb hI hI2 hg3
            go_enter Tryz.func12, Tryz.ntmps12
            go_wp2_with fail
            refine (HS.out _).mono ?_
            rintro e w1 ⟨u, rfl, ho1, hb1⟩
            obtain ⟨g, c, huf, hcs⟩ := ho1.tab (by simp)
            have HH := Lib.hid (show He w w.heap.size u [wd, tx] w1 from ⟨ho1, hb1⟩)
            subst huf
            rw [show [wd, tx].length = 2 from rfl] at *
            have c0 : w1.cell? ⟨g, 0, none⟩ = some (.string wd) := hcs _ ho1 0 (by omega)
            have c1 : w1.cell? ⟨g, 1, none⟩ = some (.string tx) := hcs _ ho1 1 (by omega)
            have HCS := Lib.hid hcs
            clear ho1 hb1 hcs
            go_wp2_with (first | (go_at_call 35; refine (HT.out _).mono ?_; rintro e w' ⟨rfl, rfl⟩) | (go_at_call 36; refine (HI.out _).mono ?_; rintro e w' ⟨rfl, rfl⟩))
            refine (HG.out _).mono ?_
            rintro e w3 ⟨u, rfl, ho3, hb3⟩
            have HH3 := Lib.hid (HH.out.more hb3)
            have HO3 := Lib.hid ho3
            obtain ⟨A3, c3, huf⟩ := ho3.form
            subst huf
            clear hb3 ho3
            go_wp2_with (go_at_call 21; refine (HX.out _ _ (OwnL.rds HO3.out)).mono ?_; rintro e w' ⟨rfl, rfl⟩)
            go_ret
            exact ⟨rfl, HH3.out.b⟩
          · rw [if_neg hb]
            rw [show (decide (0 ≤ rdN tx.data.toList) && decide (rdN tx.data.toList ≤ 1000000)) = false from by simpa [btw] using hb] at hI
            have HI := Lib.hid hI
            generalize rdN tx.data.toList = x at *
            clear hb hI
            go_enter Tryz.func12, Tryz.ntmps12
            go_wp2_with fail
            refine (HS.out _).mono ?_
            rintro e w1 ⟨u, rfl, ho1, hb1⟩
            obtain ⟨g, c, huf, hcs⟩ := ho1.tab (by simp)
            have HH := Lib.hid (show He w w.heap.size u [wd, tx] w1 from ⟨ho1, hb1⟩)
            subst huf
            rw [show [wd, tx].length = 2 from rfl] at *
            have c0 : w1.cell? ⟨g, 0, none⟩ = some (.string wd) := hcs _ ho1 0 (by omega)
            have c1 : w1.cell? ⟨g, 1, none⟩ = some (.string tx) := hcs _ ho1 1 (by omega)
            have HCS := Lib.hid hcs
            clear ho1 hb1 hcs
            go_wp2_with (first | (go_at_call 35; refine (HT.out _).mono ?_; rintro e w' ⟨rfl, rfl⟩) | (go_at_call 36; refine (HI.out _).mono ?_; rintro e w' ⟨rfl, rfl⟩))
            go_ret
            exact ⟨rfl, HH.out.b⟩
        · rw [if_neg h4]
          have e4 : (wd.toList == [103, 114, 111, 117, 112, 115]) = false := w_no h4
          clear h4
          go_enter Tryz.func12, Tryz.ntmps12
          go_wp2_with fail
          refine (HS.out _).mono ?_
          rintro e w1 ⟨u, rfl, ho1, hb1⟩
          obtain ⟨g, c, huf, hcs⟩ := ho1.tab (by simp)
          have HH := Lib.hid (show He w w.heap.size u [wd, tx] w1 from ⟨ho1, hb1⟩)
          subst huf
          rw [show [wd, tx].length = 2 from rfl] at *
          have c0 : w1.cell? ⟨g, 0, none⟩ = some (.string wd) := hcs _ ho1 0 (by omega)
          have c1 : w1.cell? ⟨g, 1, none⟩ = some (.string tx) := hcs _ ho1 1 (by omega)
          have HCS := Lib.hid hcs
          clear ho1 hb1 hcs
          go_wp2_with fail
          go_ret
          exact ⟨rfl, HH.out.b⟩

set_option maxHeartbeats 1600000 in
theorem san_any (s : ByteArray) (w : World) (hs : s.size ≤ 1048575) :
    Calls Tryz.prog 12 #[.string s] w fun e w' => e = .returned (.string (ans s)) ∧ Below w.heap.size w w' := by
  have HS := Lib.hid (fun W => spa_any 32 s W (by omega))
  have HPS := Lib.hid (fun x (hx : x ∈ ptT 32 s) => ptT_size hx)
  have hPl := ptT_len 32 s
  unfold ans
  generalize ptT 32 s = P at *
  by_cases h2 : P.length = 2
  · obtain ⟨wd, tx, rfl⟩ := two_list h2
    have hz := HPS.out tx (by simp)
    exact saT_any wd tx s w HS (by omega)
  · by_cases h3 : P.length = 3
    · obtain ⟨wd, p, t, rfl⟩ := three_list h3
      have hz := HPS.out p (by simp)
      have hz2 := HPS.out t (by simp)
      exact saB_any wd p t s w HS (by omega) (by omega)
    · rw [ansP_else h2 h3]
      have i2 : ((P.length : Int) == 2) = false := by rw [beq_eq_false_iff_ne]; omega
      have i3 : ((P.length : Int) == 3) = false := by rw [beq_eq_false_iff_ne]; omega
      have j2 : ((P.length : Int) != 2) = true := by rw [bne, i2]; rfl
      clear h2 h3
      go_enter Tryz.func12, Tryz.ntmps12
      go_wp2_with fail
      refine (HS.out _).mono ?_
      rintro e w1 ⟨u, rfl, ho1, hb1⟩
      have HB1 := Lib.hid hb1
      obtain ⟨A, c, huf⟩ := ho1.form
      subst huf
      clear ho1 hb1
      go_wp2_with fail
      go_ret
      exact ⟨rfl, HB1.out⟩
end Go.Proofs.YtndpbhmokobbpaaGreatDoor
