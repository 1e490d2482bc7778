/-
  The walk of the model's function that answers a line. Condition: the length that is typed.
-/
import Derived.Test.YtndpbhmokobbpaaGreatDoorDm26
import Derived.Test.YtndpbhmokobbpaaGreatDoorDm27
import Derived.Test.YtndpbhmokobbpaaGreatDoorDm23
namespace Go.Proofs.YtndpbhmokobbpaaGreatDoor
open Go.RowKit
set_option linter.unusedVariables false

/-- A row of texts of a call's own: behind w. -/
structure He (w : World) (B : Nat) (v : Value) (P : List ByteArray) (w' : World) : Prop where
  o : OwnT w' B v P
  b : Below w.heap.size w w'
theorem He.more {w w1 w2 : World} {B : Nat} {v : Value} {P : List ByteArray} (h : He w B v P w1) (hb : Below w1.heap.size w1 w2) : He w B v P w2 :=
  ⟨OwnT.below h.o hb, h.b.trans (hb.mono h.b.size)⟩
theorem He.drew {w w1 : World} {B : Nat} {v : Value} {P : List ByteArray} (h : He w B v P w1) : He w B v P w1.drew := h.more (below_drewN (Below.refl _ _) 1)
theorem to_below {P : Program} {f : FuncId} {args : Array Value} {w : World} {v : Value} (h : Calls P f args w fun e w' => e = .returned v ∧ ∃ m, w' = w.drewN m) : Calls P f args w fun e w' => e = .returned v ∧ Below w.heap.size w w' :=
  h.mono fun e w' ⟨he, m, hw⟩ => ⟨he, hw ▸ below_drewN (Below.refl _ _) m⟩
theorem empty_no {s : ByteArray} (h : ¬ s.toList = []) : s.toList.isEmpty = false := by
  cases h2 : s.toList with
  | nil => exact absurd h2 h
  | cons a b => rfl
theorem empty_yes {s : ByteArray} (h : s.toList = []) : s.toList.isEmpty = true := by rw [h]; rfl
theorem remU_ne {p s : List UInt8} (hp : 2 ≤ p.length) (h2 : p.length - 1 ≤ s.length) : ¬ remU p s = [] := by
  have := remU_len p s (by omega)
  intro e
  rw [e] at this
  simp at this
  omega
theorem polyB_bd {l : List UInt8} (h : polyB l = true) : 2 ≤ l.length ∧ l.length ≤ 9 := by
  simp only [polyB, Bool.and_eq_true, decide_eq_true_eq, bitsB] at h
  omega

set_option maxHeartbeats 6400000 in
theorem saB_any (wd p s : ByteArray) (l : ByteArray) (w : World) (HS : Hid (∀ W, Calls Tryz.prog 26 #[.string l, .int .u8 32] W (SptPost [wd, p, s] W))) (hp : p.size ≤ 1048575) (hs : s.size ≤ 1048575) :
    Calls Tryz.prog 12 #[.string l] w fun e w' => e = .returned (.string (ansB wd p s)) ∧ Below w.heap.size w w' := by
  have hpl : p.data.toList.length = p.size := Array.length_toList
  have hsl : s.data.toList.length = s.size := Array.length_toList
  have hv := fun W => svP_any p W (by unfold maxLen; omega)
  unfold ansB
  by_cases h1 : wd = wSeal
  · rw [if_pos h1]
    have e1 : (wd.toList == [115, 101, 97, 108]) = true := w_yes h1
    clear h1
    by_cases hpo : polyB p.data.toList = true
    · rw [hpo] at hv
      have HV := Lib.hid hv
      clear hv
      by_cases hse : s.toList = []
      · have hse2 := empty_yes hse
        rw [if_neg (fun h => h.1 (by rw [← Lib.toList_data]; exact hse))]
        clear hpo
        go_enter Tryz.func12, Tryz.ntmps12
        go_wp2_with fail
        refine (HS.out _).mono ?_
        rintro e w1 ⟨u, rfl, ho1, hb1⟩
        obtain ⟨g, c, huf, hcs⟩ := ho1.tab (by simp)
        have HH := Lib.hid (show He w w.heap.size u [wd, p, s] w1 from ⟨ho1, hb1⟩)
        subst huf
        rw [show [wd, p, s].length = 3 from rfl] at *
        have c0 : w1.cell? ⟨g, 0, none⟩ = some (.string wd) := hcs _ ho1 0 (by omega)
        have c1 : w1.cell? ⟨g, 1, none⟩ = some (.string p) := hcs _ ho1 1 (by omega)
        have c2 : w1.cell? ⟨g, 2, none⟩ = some (.string s) := hcs _ ho1 2 (by omega)
        have HCS := Lib.hid hcs
        clear ho1 hb1 hcs
        go_wp2_with (go_at_call 27; refine (HV.out _).mono ?_; rintro e w' ⟨rfl, rfl⟩)
        go_ret
        exact ⟨rfl, HH.out.b⟩
      · have hse2 := empty_no hse
        have HT := Lib.hid (fun W => to_below (sSE_any p s W (by omega) (by omega)))
        have hR : (if ¬ s.data.toList = [] ∧ ¬ sealR p.data.toList s.data.toList = [] then mkT (sealR p.data.toList s.data.toList) else tWrong) = (if ¬ (mkT (sealR p.data.toList s.data.toList)).toList = [] then mkT (sealR p.data.toList s.data.toList) else tWrong) := by
          rw [Lib.toList_data, mkT_list]
          by_cases h : ¬ sealR p.data.toList s.data.toList = []
          · rw [if_pos h, if_pos ⟨fun e => hse (by rw [Lib.toList_data]; exact e), h⟩]
          · rw [if_neg h, if_neg (fun e => h e.2)]
        rw [hR]
        rw [show (⟨(sealR p.data.toList s.data.toList).toArray⟩ : ByteArray) = mkT (sealR p.data.toList s.data.toList) from rfl] at HT
        generalize mkT (sealR p.data.toList s.data.toList) = T at *
        clear hR hpo
        by_cases hte : T.toList = []
        · have hte2 := empty_yes hte
          rw [if_neg (fun h => h hte)]
          go_enter Tryz.func12, Tryz.ntmps12
          go_wp2_with fail
          refine (HS.out _).mono ?_
          rintro e w1 ⟨u, rfl, ho1, hb1⟩
          obtain ⟨g, c, huf, hcs⟩ := ho1.tab (by simp)
          have HH := Lib.hid (show He w w.heap.size u [wd, p, s] w1 from ⟨ho1, hb1⟩)
          subst huf
          rw [show [wd, p, s].length = 3 from rfl] at *
          have c0 : w1.cell? ⟨g, 0, none⟩ = some (.string wd) := hcs _ ho1 0 (by omega)
          have c1 : w1.cell? ⟨g, 1, none⟩ = some (.string p) := hcs _ ho1 1 (by omega)
          have c2 : w1.cell? ⟨g, 2, none⟩ = some (.string s) := hcs _ ho1 2 (by omega)
          have HCS := Lib.hid hcs
          clear ho1 hb1 hcs
          go_wp2_with (go_at_call 27; refine (HV.out _).mono ?_; rintro e w' ⟨rfl, rfl⟩)
          have ne := Wld.ne (S := (He w w.heap.size (.slice (some ⟨g, 0, none⟩) 3 c) [wd, p, s])) HH.out
          have m0 : ∀ x : Wld (He w w.heap.size (.slice (some ⟨g, 0, none⟩) 3 c) [wd, p, s]), x.v.cell? ⟨g, 0, none⟩ = some (.string wd) := fun x => HCS.out _ x.h.o 0 (by omega)
          have m1 : ∀ x : Wld (He w w.heap.size (.slice (some ⟨g, 0, none⟩) 3 c) [wd, p, s]), x.v.cell? ⟨g, 1, none⟩ = some (.string p) := fun x => HCS.out _ x.h.o 1 (by omega)
          have m2 : ∀ x : Wld (He w w.heap.size (.slice (some ⟨g, 0, none⟩) 3 c) [wd, p, s]), x.v.cell? ⟨g, 2, none⟩ = some (.string s) := fun x => HCS.out _ x.h.o 2 (by omega)
          refine wp_region_heldq (He w w.heap.size (.slice (some ⟨g, 0, none⟩) 3 c) [wd, p, s]) (by kernel_rfl) (by kernel_rfl) HH.out.drew ?_
          repeat (go_big_quiet_step (with_reducible exact held_below (fun _ _ h hb => He.more h hb) (HT.out _)))
          refine wpQuiet_nil ?_
          rintro _ ⟨x, rfl⟩
          have HX := Lib.hid x.h
          have HCX := Lib.hid x.h.o
          have d0 := m0 x
          have d1 := m1 x
          have d2 := m2 x
          clear ne m0 m1 m2
          generalize x.v = wx at *
          go_wp2
          go_ret
          exact ⟨rfl, HX.out.b⟩
        · have hte2 := empty_no hte
          rw [if_pos hte]
          go_enter Tryz.func12, Tryz.ntmps12
          go_wp2_with fail
          refine (HS.out _).mono ?_
          rintro e w1 ⟨u, rfl, ho1, hb1⟩
          obtain ⟨g, c, huf, hcs⟩ := ho1.tab (by simp)
          have HH := Lib.hid (show He w w.heap.size u [wd, p, s] w1 from ⟨ho1, hb1⟩)
          subst huf
          rw [show [wd, p, s].length = 3 from rfl] at *
          have c0 : w1.cell? ⟨g, 0, none⟩ = some (.string wd) := hcs _ ho1 0 (by omega)
          have c1 : w1.cell? ⟨g, 1, none⟩ = some (.string p) := hcs _ ho1 1 (by omega)
          have c2 : w1.cell? ⟨g, 2, none⟩ = some (.string s) := hcs _ ho1 2 (by omega)
          have HCS := Lib.hid hcs
          clear ho1 hb1 hcs
          go_wp2_with (go_at_call 27; refine (HV.out _).mono ?_; rintro e w' ⟨rfl, rfl⟩)
          have ne := Wld.ne (S := (He w w.heap.size (.slice (some ⟨g, 0, none⟩) 3 c) [wd, p, s])) HH.out
          have m0 : ∀ x : Wld (He w w.heap.size (.slice (some ⟨g, 0, none⟩) 3 c) [wd, p, s]), x.v.cell? ⟨g, 0, none⟩ = some (.string wd) := fun x => HCS.out _ x.h.o 0 (by omega)
          have m1 : ∀ x : Wld (He w w.heap.size (.slice (some ⟨g, 0, none⟩) 3 c) [wd, p, s]), x.v.cell? ⟨g, 1, none⟩ = some (.string p) := fun x => HCS.out _ x.h.o 1 (by omega)
          have m2 : ∀ x : Wld (He w w.heap.size (.slice (some ⟨g, 0, none⟩) 3 c) [wd, p, s]), x.v.cell? ⟨g, 2, none⟩ = some (.string s) := fun x => HCS.out _ x.h.o 2 (by omega)
          refine wp_region_heldq (He w w.heap.size (.slice (some ⟨g, 0, none⟩) 3 c) [wd, p, s]) (by kernel_rfl) (by kernel_rfl) HH.out.drew ?_
          repeat (go_big_quiet_step (with_reducible exact held_below (fun _ _ h hb => He.more h hb) (HT.out _)))
          refine wpQuiet_nil ?_
          rintro _ ⟨x, rfl⟩
          have HX := Lib.hid x.h
          have HCX := Lib.hid x.h.o
          have d0 := m0 x
          have d1 := m1 x
          have d2 := m2 x
          clear ne m0 m1 m2
          generalize x.v = wx at *
          go_wp2
          go_ret
          exact ⟨rfl, HX.out.b⟩
    · have hpo' : polyB p.data.toList = false := by simpa using hpo
      rw [hpo'] at hv
      have HV := Lib.hid hv
      rw [if_neg (fun h => h.2 (by unfold sealR; rw [if_neg (fun h => hpo h.1)]))]
      clear hv hpo hpo'
      go_enter Tryz.func12, Tryz.ntmps12
      go_wp2_with fail
      refine (HS.out _).mono ?_
      rintro e w1 ⟨u, rfl, ho1, hb1⟩
      obtain ⟨g, c, huf, hcs⟩ := ho1.tab (by simp)
      have HH := Lib.hid (show He w w.heap.size u [wd, p, s] w1 from ⟨ho1, hb1⟩)
      subst huf
      rw [show [wd, p, s].length = 3 from rfl] at *
      have c0 : w1.cell? ⟨g, 0, none⟩ = some (.string wd) := hcs _ ho1 0 (by omega)
      have c1 : w1.cell? ⟨g, 1, none⟩ = some (.string p) := hcs _ ho1 1 (by omega)
      have c2 : w1.cell? ⟨g, 2, none⟩ = some (.string s) := hcs _ ho1 2 (by omega)
      have HCS := Lib.hid hcs
      clear ho1 hb1 hcs
      go_wp2_with (go_at_call 27; refine (HV.out _).mono ?_; rintro e w' ⟨rfl, rfl⟩)
      go_ret
      exact ⟨rfl, HH.out.b⟩
  · rw [if_neg h1]
    have e1 : (wd.toList == [115, 101, 97, 108]) = false := w_no h1
    clear h1
    by_cases h2 : wd = wCheck
    · rw [if_pos h2]
      have e2 : (wd.toList == [99, 104, 101, 99, 107]) = true := w_yes h2
      clear h2
      by_cases hpo : polyB p.data.toList = true
      · have hpb := polyB_bd hpo
        rw [hpo] at hv
        have HV := Lib.hid hv
        clear hv
        by_cases hse : s.toList = []
        · have hse2 := empty_yes hse
          rw [if_neg (fun h => h (by
            unfold restR
            rw [if_neg]
            intro hc
            have : s.data.toList = [] := by rw [← Lib.toList_data]; exact hse
            rw [this] at hc
            simp at hc
            omega))]
          clear hpo hpb
          go_enter Tryz.func12, Tryz.ntmps12
          go_wp2_with fail
          refine (HS.out _).mono ?_
          rintro e w1 ⟨u, rfl, ho1, hb1⟩
          obtain ⟨g, c, huf, hcs⟩ := ho1.tab (by simp)
          have HH := Lib.hid (show He w w.heap.size u [wd, p, s] w1 from ⟨ho1, hb1⟩)
          subst huf
          rw [show [wd, p, s].length = 3 from rfl] at *
          have c0 : w1.cell? ⟨g, 0, none⟩ = some (.string wd) := hcs _ ho1 0 (by omega)
          have c1 : w1.cell? ⟨g, 1, none⟩ = some (.string p) := hcs _ ho1 1 (by omega)
          have c2 : w1.cell? ⟨g, 2, none⟩ = some (.string s) := hcs _ ho1 2 (by omega)
          have HCS := Lib.hid hcs
          clear ho1 hb1 hcs
          go_wp2_with (go_at_call 27; refine (HV.out _).mono ?_; rintro e w' ⟨rfl, rfl⟩)
          go_ret
          exact ⟨rfl, HH.out.b⟩
        · have hse2 := empty_no hse
          have hb := fun W => svb_any s W (by unfold maxLen; omega)
          by_cases hbi : bitsB 40 s.data.toList = true
          · have hb40 : s.data.toList.length ≤ 40 := by
              have : s.data.toList.length ≤ 40 ∧ s.data.toList.all isBit = true := by simpa [bitsB] using hbi
              exact this.1
            rw [hbi] at hb
            have HBI := Lib.hid hb
            have q1 : IntKind.i64.wrap ((p.size : Int) - 1) = (p.size : Int) - 1 := IntWalk.i64_in _ (by omega)
            clear hb
            by_cases hsh : p.size - 1 ≤ s.size
            · have q2 : decide ((s.size : Int) < (p.size : Int) - 1) = false := by simp; omega
              have q3 : ¬ ((s.size : Int) < (p.size : Int) - 1) := by omega
              have HW := Lib.hid (fun W => to_below (swh_any p s W (by omega) (by omega) (by omega)))
              rw [if_pos (by unfold restR; rw [if_pos ⟨hpo, hbi, by omega⟩]; exact remU_ne (by omega) (by omega))]
              rw [show sealedB p.data.toList s.data.toList = wholeB p.data.toList s.data.toList from by unfold sealedB; rw [hpo, hbi, decide_eq_true (by omega)]; rfl]
              generalize wholeB p.data.toList s.data.toList = b at *
              clear hpo hpb hbi hb40 hsh
              go_enter Tryz.func12, Tryz.ntmps12
              go_wp2_with fail
              refine (HS.out _).mono ?_
              rintro e w1 ⟨u, rfl, ho1, hb1⟩
              obtain ⟨g, c, huf, hcs⟩ := ho1.tab (by simp)
              have HH := Lib.hid (show He w w.heap.size u [wd, p, s] w1 from ⟨ho1, hb1⟩)
              subst huf
              rw [show [wd, p, s].length = 3 from rfl] at *
              have c0 : w1.cell? ⟨g, 0, none⟩ = some (.string wd) := hcs _ ho1 0 (by omega)
              have c1 : w1.cell? ⟨g, 1, none⟩ = some (.string p) := hcs _ ho1 1 (by omega)
              have c2 : w1.cell? ⟨g, 2, none⟩ = some (.string s) := hcs _ ho1 2 (by omega)
              have HCS := Lib.hid hcs
              clear ho1 hb1 hcs
              go_wp2_with (go_at_call 27; refine (HV.out _).mono ?_; rintro e w' ⟨rfl, rfl⟩)
              have ne := Wld.ne (S := (He w w.heap.size (.slice (some ⟨g, 0, none⟩) 3 c) [wd, p, s])) HH.out
              have m0 : ∀ x : Wld (He w w.heap.size (.slice (some ⟨g, 0, none⟩) 3 c) [wd, p, s]), x.v.cell? ⟨g, 0, none⟩ = some (.string wd) := fun x => HCS.out _ x.h.o 0 (by omega)
              have m1 : ∀ x : Wld (He w w.heap.size (.slice (some ⟨g, 0, none⟩) 3 c) [wd, p, s]), x.v.cell? ⟨g, 1, none⟩ = some (.string p) := fun x => HCS.out _ x.h.o 1 (by omega)
              have m2 : ∀ x : Wld (He w w.heap.size (.slice (some ⟨g, 0, none⟩) 3 c) [wd, p, s]), x.v.cell? ⟨g, 2, none⟩ = some (.string s) := fun x => HCS.out _ x.h.o 2 (by omega)
              refine wp_region_heldq (He w w.heap.size (.slice (some ⟨g, 0, none⟩) 3 c) [wd, p, s]) (by kernel_rfl) (by kernel_rfl) HH.out.drew ?_
              repeat (go_big_quiet_step (with_reducible exact held_same (HBI.out _)))
              refine wpQuiet_nil ?_
              rintro _ ⟨x, rfl⟩
              have HH := Lib.hid x.h
              have HCX := Lib.hid x.h.o
              have d0 := m0 x
              have d1 := m1 x
              have d2 := m2 x
              clear c0 c1 c2 ne m0 m1 m2
              generalize x.v = wx at *
              go_wp2
              have ne := Wld.ne (S := (He w w.heap.size (.slice (some ⟨g, 0, none⟩) 3 c) [wd, p, s])) HH.out
              have m0 : ∀ x : Wld (He w w.heap.size (.slice (some ⟨g, 0, none⟩) 3 c) [wd, p, s]), x.v.cell? ⟨g, 0, none⟩ = some (.string wd) := fun x => HCS.out _ x.h.o 0 (by omega)
              have m1 : ∀ x : Wld (He w w.heap.size (.slice (some ⟨g, 0, none⟩) 3 c) [wd, p, s]), x.v.cell? ⟨g, 1, none⟩ = some (.string p) := fun x => HCS.out _ x.h.o 1 (by omega)
              have m2 : ∀ x : Wld (He w w.heap.size (.slice (some ⟨g, 0, none⟩) 3 c) [wd, p, s]), x.v.cell? ⟨g, 2, none⟩ = some (.string s) := fun x => HCS.out _ x.h.o 2 (by omega)
              refine wp_region_heldq (He w w.heap.size (.slice (some ⟨g, 0, none⟩) 3 c) [wd, p, s]) (by kernel_rfl) (by kernel_rfl) HH.out.drew ?_
              repeat (go_big_quiet_step (with_reducible exact held_below (fun _ _ h hb => He.more h hb) (HW.out _)))
              refine wpQuiet_nil ?_
              rintro _ ⟨x, rfl⟩
              have HX := Lib.hid x.h
              have HCX := Lib.hid x.h.o
              have d0 := m0 x
              have d1 := m1 x
              have d2 := m2 x
              clear ne m0 m1 m2
              generalize x.v = wx at *
              cases b
              · go_wp2
                go_ret
                exact ⟨rfl, HX.out.b⟩
              · go_wp2
                go_ret
                exact ⟨rfl, HX.out.b⟩
            · have q2 : decide ((s.size : Int) < (p.size : Int) - 1) = true := by simp; omega
              have q3 : ((s.size : Int) < (p.size : Int) - 1) := by omega
              rw [if_neg (fun h => h (by unfold restR; rw [if_neg (fun h => hsh (by omega))]))]
              clear hpo hpb hbi hb40 hsh
              go_enter Tryz.func12, Tryz.ntmps12
              go_wp2_with fail
              refine (HS.out _).mono ?_
              rintro e w1 ⟨u, rfl, ho1, hb1⟩
              obtain ⟨g, c, huf, hcs⟩ := ho1.tab (by simp)
              have HH := Lib.hid (show He w w.heap.size u [wd, p, s] w1 from ⟨ho1, hb1⟩)
              subst huf
              rw [show [wd, p, s].length = 3 from rfl] at *
              have c0 : w1.cell? ⟨g, 0, none⟩ = some (.string wd) := hcs _ ho1 0 (by omega)
              have c1 : w1.cell? ⟨g, 1, none⟩ = some (.string p) := hcs _ ho1 1 (by omega)
              have c2 : w1.cell? ⟨g, 2, none⟩ = some (.string s) := hcs _ ho1 2 (by omega)
              have HCS := Lib.hid hcs
              clear ho1 hb1 hcs
              go_wp2_with (go_at_call 27; refine (HV.out _).mono ?_; rintro e w' ⟨rfl, rfl⟩)
              have ne := Wld.ne (S := (He w w.heap.size (.slice (some ⟨g, 0, none⟩) 3 c) [wd, p, s])) HH.out
              have m0 : ∀ x : Wld (He w w.heap.size (.slice (some ⟨g, 0, none⟩) 3 c) [wd, p, s]), x.v.cell? ⟨g, 0, none⟩ = some (.string wd) := fun x => HCS.out _ x.h.o 0 (by omega)
              have m1 : ∀ x : Wld (He w w.heap.size (.slice (some ⟨g, 0, none⟩) 3 c) [wd, p, s]), x.v.cell? ⟨g, 1, none⟩ = some (.string p) := fun x => HCS.out _ x.h.o 1 (by omega)
              have m2 : ∀ x : Wld (He w w.heap.size (.slice (some ⟨g, 0, none⟩) 3 c) [wd, p, s]), x.v.cell? ⟨g, 2, none⟩ = some (.string s) := fun x => HCS.out _ x.h.o 2 (by omega)
              refine wp_region_heldq (He w w.heap.size (.slice (some ⟨g, 0, none⟩) 3 c) [wd, p, s]) (by kernel_rfl) (by kernel_rfl) HH.out.drew ?_
              repeat (go_big_quiet_step (with_reducible exact held_same (HBI.out _)))
              refine wpQuiet_nil ?_
              rintro _ ⟨x, rfl⟩
              have HX := Lib.hid x.h
              have HCX := Lib.hid x.h.o
              have d0 := m0 x
              have d1 := m1 x
              have d2 := m2 x
              clear ne m0 m1 m2
              generalize x.v = wx at *
              go_wp2
              go_ret
              exact ⟨rfl, HX.out.b⟩
          · have hbi' : bitsB 40 s.data.toList = false := by simpa using hbi
            rw [hbi'] at hb
            have HBI := Lib.hid hb
            rw [if_neg (fun h => h (by unfold restR; rw [if_neg (fun h => hbi h.2.1)]))]
            clear hpo hpb hbi hbi' hb
            go_enter Tryz.func12, Tryz.ntmps12
            go_wp2_with fail
            refine (HS.out _).mono ?_
            rintro e w1 ⟨u, rfl, ho1, hb1⟩
            obtain ⟨g, c, huf, hcs⟩ := ho1.tab (by simp)
            have HH := Lib.hid (show He w w.heap.size u [wd, p, s] w1 from ⟨ho1, hb1⟩)
            subst huf
            rw [show [wd, p, s].length = 3 from rfl] at *
            have c0 : w1.cell? ⟨g, 0, none⟩ = some (.string wd) := hcs _ ho1 0 (by omega)
            have c1 : w1.cell? ⟨g, 1, none⟩ = some (.string p) := hcs _ ho1 1 (by omega)
            have c2 : w1.cell? ⟨g, 2, none⟩ = some (.string s) := hcs _ ho1 2 (by omega)
            have HCS := Lib.hid hcs
            clear ho1 hb1 hcs
            go_wp2_with (go_at_call 27; refine (HV.out _).mono ?_; rintro e w' ⟨rfl, rfl⟩)
            have ne := Wld.ne (S := (He w w.heap.size (.slice (some ⟨g, 0, none⟩) 3 c) [wd, p, s])) HH.out
            have m0 : ∀ x : Wld (He w w.heap.size (.slice (some ⟨g, 0, none⟩) 3 c) [wd, p, s]), x.v.cell? ⟨g, 0, none⟩ = some (.string wd) := fun x => HCS.out _ x.h.o 0 (by omega)
            have m1 : ∀ x : Wld (He w w.heap.size (.slice (some ⟨g, 0, none⟩) 3 c) [wd, p, s]), x.v.cell? ⟨g, 1, none⟩ = some (.string p) := fun x => HCS.out _ x.h.o 1 (by omega)
            have m2 : ∀ x : Wld (He w w.heap.size (.slice (some ⟨g, 0, none⟩) 3 c) [wd, p, s]), x.v.cell? ⟨g, 2, none⟩ = some (.string s) := fun x => HCS.out _ x.h.o 2 (by omega)
            refine wp_region_heldq (He w w.heap.size (.slice (some ⟨g, 0, none⟩) 3 c) [wd, p, s]) (by kernel_rfl) (by kernel_rfl) HH.out.drew ?_
            repeat (go_big_quiet_step (with_reducible exact held_same (HBI.out _)))
            refine wpQuiet_nil ?_
            rintro _ ⟨x, rfl⟩
            have HX := Lib.hid x.h
            have HCX := Lib.hid x.h.o
            have d0 := m0 x
            have d1 := m1 x
            have d2 := m2 x
            clear ne m0 m1 m2
            generalize x.v = wx at *
            go_wp2
            go_ret
            exact ⟨rfl, HX.out.b⟩
      · have hpo' : polyB p.data.toList = false := by simpa using hpo
        rw [hpo'] at hv
        have HV := Lib.hid hv
        rw [if_neg (fun h => h (by unfold restR; rw [if_neg (fun h => hpo h.1)]))]
        clear hv hpo hpo'
        go_enter Tryz.func12, Tryz.ntmps12
        go_wp2_with fail
        refine (HS.out _).mono ?_
        rintro e w1 ⟨u, rfl, ho1, hb1⟩
        obtain ⟨g, c, huf, hcs⟩ := ho1.tab (by simp)
        have HH := Lib.hid (show He w w.heap.size u [wd, p, s] w1 from ⟨ho1, hb1⟩)
        subst huf
        rw [show [wd, p, s].length = 3 from rfl] at *
        have c0 : w1.cell? ⟨g, 0, none⟩ = some (.string wd) := hcs _ ho1 0 (by omega)
        have c1 : w1.cell? ⟨g, 1, none⟩ = some (.string p) := hcs _ ho1 1 (by omega)
        have c2 : w1.cell? ⟨g, 2, none⟩ = some (.string s) := hcs _ ho1 2 (by omega)
        have HCS := Lib.hid hcs
        clear ho1 hb1 hcs
        go_wp2_with (go_at_call 27; refine (HV.out _).mono ?_; rintro e w' ⟨rfl, rfl⟩)
        go_ret
        exact ⟨rfl, HH.out.b⟩
    · rw [if_neg h2]
      have e2 : (wd.toList == [99, 104, 101, 99, 107]) = false := w_no h2
      clear h2
      go_enter Tryz.func12, Tryz.ntmps12
      go_wp2_with fail
      refine (HS.out _).mono ?_
      rintro e w1 ⟨u, rfl, ho1, hb1⟩
      obtain ⟨g, c, huf, hcs⟩ := ho1.tab (by simp)
      have HH := Lib.hid (show He w w.heap.size u [wd, p, s] w1 from ⟨ho1, hb1⟩)
      subst huf
      rw [show [wd, p, s].length = 3 from rfl] at *
      have c0 : w1.cell? ⟨g, 0, none⟩ = some (.string wd) := hcs _ ho1 0 (by omega)
      have c1 : w1.cell? ⟨g, 1, none⟩ = some (.string p) := hcs _ ho1 1 (by omega)
      have c2 : w1.cell? ⟨g, 2, none⟩ = some (.string s) := hcs _ ho1 2 (by omega)
      have HCS := Lib.hid hcs
      clear ho1 hb1 hcs
      go_wp2_with fail
      go_ret
      exact ⟨rfl, HH.out.b⟩
end Go.Proofs.YtndpbhmokobbpaaGreatDoor
