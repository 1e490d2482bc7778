/-
  The walks of the program's functions that answer bits and a line. Conditions: what the desk wants of the library's variables, and the lengths that are typed.
  The walk of the program's function that answers a line. Conditions: what the desk wants of the library's variables, and the length that is typed.
-/
import Derived.Test.YtndpbhmokobbpaaGreatDoorDm25
import Derived.Test.YtndpbhmokobbpaaGreatDoorDm13
namespace Go.Proofs.YtndpbhmokobbpaaGreatDoor
open Go.RowKit
set_option linter.unusedVariables false

set_option maxHeartbeats 3200000 in
theorem anb_any (wd p s : ByteArray) (w : World) (hp : p.size ≤ 1048575) (hs : s.size ≤ 1048575) :
    Calls Tryz.prog 40 #[.string wd, .string p, .string s] w fun e w' => e = .returned (.string (ansB wd p s)) ∧ Below w.heap.size w w' := by
  have HA := Lib.hid aif_eq
  unfold ansB
  by_cases h1 : wd = wSeal
  · rw [if_pos h1]
    have e1 : (wd.toList == [115, 101, 97, 108]) = true := w_yes h1
    have HT := Lib.hid (fun W => iSE_any p s W (by omega) (by omega))
    have hR : (if ¬ s.data.toList = [] ∧ ¬ sealR p.data.toList s.data.toList = [] then mkT (sealR p.data.toList s.data.toList) else tWrong) = (if ¬ s.toList = [] ∧ ¬ (mkT (sealR p.data.toList s.data.toList)).toList = [] then mkT (sealR p.data.toList s.data.toList) else tWrong) := by
      rw [Lib.toList_data, Lib.toList_data, mkT_list]
    rw [hR]
    generalize hRR : (if ¬ s.toList = [] ∧ ¬ (mkT (sealR p.data.toList s.data.toList)).toList = [] then mkT (sealR p.data.toList s.data.toList) else tWrong) = R
    have HRR := Lib.hid hRR
    rw [show (⟨(sealR p.data.toList s.data.toList).toArray⟩ : ByteArray) = mkT (sealR p.data.toList s.data.toList) from rfl] at HT
    generalize mkT (sealR p.data.toList s.data.toList) = T at *
    clear h1 hR hRR
    by_cases hse : s.toList = []
    · have hR2 := HRR.out
      rw [if_neg (fun h => h.1 hse)] at hR2
      have HR2 := Lib.hid hR2
      clear hR2
      have hse2 : s.toList.isEmpty = true := by rw [hse]; rfl
      go_enter Tryz.func40, Tryz.ntmps40
      go_wp2_with fail
      refine (HT.out _).mono ?_
      rintro e w1 ⟨rfl, hb1⟩
      have HB1 := Lib.hid hb1
      clear hb1
      go_wp2_with fail
      refine (HA.out _ _ R _ (by simpa using HR2.out)).mono ?_
      rintro e w3 ⟨rfl, rfl⟩
      go_wp2_with fail
      go_ret
      exact ⟨rfl, HB1.out⟩
    · have hR2 : (if ¬ T.toList = [] then T else tWrong) = R := by
        rw [← HRR.out]
        by_cases ht : ¬ T.toList = []
        · rw [if_pos ht, if_pos ⟨hse, ht⟩]
        · rw [if_neg ht, if_neg (fun h => ht h.2)]
      have HR2 := Lib.hid hR2
      clear hR2
      have hse2 : s.toList.isEmpty = false := by cases h : s.toList with | nil => exact absurd h hse | cons a b => rfl
      go_enter Tryz.func40, Tryz.ntmps40
      go_wp2_with fail
      refine (HT.out _).mono ?_
      rintro e w1 ⟨rfl, hb1⟩
      have HB1 := Lib.hid hb1
      clear hb1
      go_wp2_with fail
      refine (HA.out _ _ R _ (by simpa using HR2.out)).mono ?_
      rintro e w3 ⟨rfl, rfl⟩
      go_wp2_with fail
      go_ret
      exact ⟨rfl, HB1.out⟩
  · rw [if_neg h1]
    have e1 : (wd.toList == [115, 101, 97, 108]) = false := w_no h1
    by_cases h2 : wd = wCheck
    · rw [if_pos h2]
      have e2 : (wd.toList == [99, 104, 101, 99, 107]) = true := w_yes h2
      have HT := Lib.hid (fun W => iRO_any p s W (by omega) (by omega))
      have HS := Lib.hid (fun W => iIS_any p s W (by omega) (by omega))
      have HY := Lib.hid (fun b W => yon_any b W)
      have hR : (if ¬ restR p.data.toList s.data.toList = [] then (if sealedB p.data.toList s.data.toList = true then tYes else tNo) else tWrong) = (if ¬ (mkT (restR p.data.toList s.data.toList)).toList = [] then (if sealedB p.data.toList s.data.toList = true then tYes else tNo) else tWrong) := by
        rw [Lib.toList_data, mkT_list]
      rw [hR]
      rw [show (⟨(restR p.data.toList s.data.toList).toArray⟩ : ByteArray) = mkT (restR p.data.toList s.data.toList) from rfl] at HT
      generalize mkT (restR p.data.toList s.data.toList) = T at *
      generalize sealedB p.data.toList s.data.toList = b at *
      generalize hY : (if b = true then tYes else tNo) = Y
      have HYY := Lib.hid hY
      generalize hRR : (if ¬ T.toList = [] then Y else tWrong) = R
      have HRR := Lib.hid hRR
      clear h1 h2 hR hRR hY
      go_enter Tryz.func40, Tryz.ntmps40
      go_wp2_with fail
      refine (HT.out _).mono ?_
      rintro e w1 ⟨rfl, hb1⟩
      have HB1 := Lib.hid hb1
      clear hb1
      go_wp2_with fail
      refine (HS.out _).mono ?_
      rintro e w2 ⟨rfl, hb2⟩
      have HB2 := Lib.hid (HB1.out.trans (hb2.mono HB1.out.size))
      clear hb2
      go_wp2_with fail
      refine (HY.out _ _).mono ?_
      rintro e w3 ⟨rfl, rfl⟩
      rw [HYY.out]
      go_wp2_with fail
      refine (HA.out _ _ R _ (by simpa using HRR.out)).mono ?_
      rintro e w4 ⟨rfl, rfl⟩
      go_wp2_with fail
      go_ret
      exact ⟨rfl, HB2.out⟩
    · rw [if_neg h2]
      have e2 : (wd.toList == [99, 104, 101, 99, 107]) = false := w_no h2
      clear h1 h2
      go_enter Tryz.func40, Tryz.ntmps40
      go_wp2_with fail
      go_ret
      exact ⟨rfl, Below.refl _ _⟩
end Go.Proofs.YtndpbhmokobbpaaGreatDoor

namespace Go.Proofs.YtndpbhmokobbpaaGreatDoor
open Go.RowKit
set_option linter.unusedVariables false

/-- A row of texts of a call's own, and what the desk wants: behind w. -/
structure Hd (w : World) (B : Nat) (v : Value) (P : List ByteArray) (w' : World) : Prop where
  o : OwnT w' B v P
  d : Dk w'
  b : Below w.heap.size w w'
theorem Hd.more {w w1 w2 : World} {B : Nat} {v : Value} {P : List ByteArray} (h : Hd w B v P w1) (hb : Below w1.heap.size w1 w2) : Hd w B v P w2 :=
  ⟨OwnT.below h.o hb, h.d.below hb, h.b.trans (hb.mono h.b.size)⟩
theorem Hd.drew {w w1 : World} {B : Nat} {v : Value} {P : List ByteArray} (h : Hd w B v P w1) : Hd w B v P w1.drew := h.more (below_drewN (Below.refl _ _) 1)
theorem OwnT.tab {w : World} {B : Nat} {v : Value} {P : List ByteArray} (h : OwnT w B v P) (hn : 0 < P.length) : ∃ g c, v = .slice (some ⟨g, 0, none⟩) P.length c ∧ ∀ w', OwnT w' B v P → ∀ k, k < P.length → w'.cell? ⟨g, k, none⟩ = some (.string (P.getD k ByteArray.empty)) := by
  rcases h.2 with ⟨hv, h0⟩ | ⟨g, cap, cur, hv, _⟩
  · omega
  · refine ⟨g, cap, hv, fun w' h' k hk => ?_⟩
    rcases h'.2 with ⟨hv', h0⟩ | ⟨g', cap', cur', hv', hB', hg', hnc', hm', hcs'⟩
    · omega
    · have e := hv.symm.trans hv'
      injection e with e1 _ _
      injection e1 with e1
      injection e1 with e1 _ _
      subst e1
      subst hv
      have hat := OwnS.at_ h'
      have := hat.2 k hk
      rwa [Nat.zero_add] at this
theorem two_list {P : List ByteArray} (h : P.length = 2) : ∃ a b, P = [a, b] := by
  match P, h with
  | [a, b], _ => exact ⟨a, b, rfl⟩
theorem three_list {P : List ByteArray} (h : P.length = 3) : ∃ a b c, P = [a, b, c] := by
  match P, h with
  | [a, b, c], _ => exact ⟨a, b, c, rfl⟩
theorem ansP_else {P : List ByteArray} (h2 : ¬ P.length = 2) (h3 : ¬ P.length = 3) : ansP P = tWhat := by
  match P, h2, h3 with
  | [], _, _ => rfl
  | [a], _, _ => rfl
  | [a, b], h, _ => exact absurd rfl h
  | [a, b, c], _, h => exact absurd rfl h
  | a :: b :: c :: d :: t, _, _ => rfl

set_option maxHeartbeats 3200000 in
theorem anl_any (s : ByteArray) (w : World) (hs : s.size ≤ 1048575) (hD : Dk w) :
    Calls Tryz.prog 13 #[.string s] w fun e w' => e = .returned (.string (ans s)) ∧ Below w.heap.size w w' := by
  have HD := Lib.hid hD
  have HS := Lib.hid (fun W hW => spl_any 32 s W (by omega) hW)
  have HPS := Lib.hid (fun x (hx : x ∈ ptT 32 s) => ptT_size hx)
  have hPl := ptT_len 32 s
  clear hD
  unfold ans
  generalize ptT 32 s = P at *
  by_cases h2 : P.length = 2
  · obtain ⟨wd, tx, rfl⟩ := two_list h2
    have hz := HPS.out tx (by simp)
    have HT := Lib.hid (fun W hW => ant_any wd tx W (by omega) hW)
    rw [show ansP [wd, tx] = ansT wd tx from rfl]
    generalize ansT wd tx = R at *
    go_enter Tryz.func13, Tryz.ntmps13
    go_wp2_with fail
    refine (HS.out _ HD.out).mono ?_
    rintro e w1 ⟨u, rfl, ho1, hb1⟩
    obtain ⟨g, c, huf, hcs⟩ := ho1.tab (by simp)
    have hH : Hd w w.heap.size u [wd, tx] w1 := ⟨ho1, HD.out.below hb1, hb1⟩
    subst huf
    rw [show [wd, tx].length = 2 from rfl] at *
    have HH := Lib.hid hH
    clear ho1 hb1
    go_wp2_with fail
    have ne := Wld.ne (S := Hd w w.heap.size (.slice (some ⟨g, 0, none⟩) 2 c) [wd, tx]) hH
    have m0 : ∀ x : Wld (Hd w w.heap.size (.slice (some ⟨g, 0, none⟩) 2 c) [wd, tx]), x.v.cell? ⟨g, 0, none⟩ = some (.string wd) := fun x => hcs _ x.h.o 0 (by omega)
    have m1 : ∀ x : Wld (Hd w w.heap.size (.slice (some ⟨g, 0, none⟩) 2 c) [wd, tx]), x.v.cell? ⟨g, 1, none⟩ = some (.string tx) := fun x => hcs _ x.h.o 1 (by omega)
    have hgd : ∀ x : Wld (Hd w w.heap.size (.slice (some ⟨g, 0, none⟩) 2 c) [wd, tx]), Dk x.v := fun x => x.h.d
    clear hcs hH
    refine wp_region_heldq (Hd w w.heap.size (.slice (some ⟨g, 0, none⟩) 2 c) [wd, tx]) (by kernel_rfl) (by kernel_rfl) HH.out.drew ?_
    repeat (go_big_quiet_step (with_reducible exact held_below (fun _ _ h hb => Hd.more h hb) (HT.out _ (hgd _))))
    refine wpQuiet_nil ?_
    rintro _ ⟨x, rfl⟩
    have HX := Lib.hid x.h
    clear ne hgd m0 m1
    generalize x.v = wx at *
    go_wp2
    go_ret
    exact ⟨rfl, HX.out.b⟩
  · by_cases h3 : P.length = 3
    · obtain ⟨wd, p, t, rfl⟩ := three_list h3
      have hz := HPS.out p (by simp)
      have hz2 := HPS.out t (by simp)
      have HT := Lib.hid (fun W => anb_any wd p t W (by omega) (by omega))
      rw [show ansP [wd, p, t] = ansB wd p t from rfl]
      generalize ansB wd p t = R at *
      clear h2
      go_enter Tryz.func13, Tryz.ntmps13
      go_wp2_with fail
      refine (HS.out _ HD.out).mono ?_
      rintro e w1 ⟨u, rfl, ho1, hb1⟩
      obtain ⟨g, c, huf, hcs⟩ := ho1.tab (by simp)
      have hH : Hd w w.heap.size u [wd, p, t] w1 := ⟨ho1, HD.out.below hb1, hb1⟩
      subst huf
      rw [show [wd, p, t].length = 3 from rfl] at *
      have HH := Lib.hid hH
      clear ho1 hb1
      go_wp2_with fail
      have ne := Wld.ne (S := Hd w w.heap.size (.slice (some ⟨g, 0, none⟩) 3 c) [wd, p, t]) hH
      have m0 : ∀ x : Wld (Hd w w.heap.size (.slice (some ⟨g, 0, none⟩) 3 c) [wd, p, t]), x.v.cell? ⟨g, 0, none⟩ = some (.string wd) := fun x => hcs _ x.h.o 0 (by omega)
      have m1 : ∀ x : Wld (Hd w w.heap.size (.slice (some ⟨g, 0, none⟩) 3 c) [wd, p, t]), x.v.cell? ⟨g, 1, none⟩ = some (.string p) := fun x => hcs _ x.h.o 1 (by omega)
      have m2 : ∀ x : Wld (Hd w w.heap.size (.slice (some ⟨g, 0, none⟩) 3 c) [wd, p, t]), x.v.cell? ⟨g, 2, none⟩ = some (.string t) := fun x => hcs _ x.h.o 2 (by omega)
      clear hcs hH
      refine wp_region_heldq (Hd w w.heap.size (.slice (some ⟨g, 0, none⟩) 3 c) [wd, p, t]) (by kernel_rfl) (by kernel_rfl) HH.out.drew ?_
      repeat (go_big_quiet_step (with_reducible exact held_below (fun _ _ h hb => Hd.more h hb) (HT.out _)))
      refine wpQuiet_nil ?_
      rintro _ ⟨x, rfl⟩
      have HX := Lib.hid x.h
      clear ne m0 m1 m2
      generalize x.v = wx at *
      go_wp2
      go_ret
      exact ⟨rfl, HX.out.b⟩
    · rw [ansP_else h2 h3]
      have i2 : ((P.length : Int) == 2) = false := by rw [beq_eq_false_iff_ne]; omega
      have i3 : ((P.length : Int) == 3) = false := by rw [beq_eq_false_iff_ne]; omega
      clear h2 h3
      go_enter Tryz.func13, Tryz.ntmps13
      go_wp2_with fail
      refine (HS.out _ HD.out).mono ?_
      rintro e w1 ⟨u, rfl, ho1, hb1⟩
      have HB1 := Lib.hid hb1
      obtain ⟨A, c, huf⟩ := ho1.form
      subst huf
      clear ho1 hb1
      go_wp2_with fail
      go_ret
      exact ⟨rfl, HB1.out⟩
end Go.Proofs.YtndpbhmokobbpaaGreatDoor
