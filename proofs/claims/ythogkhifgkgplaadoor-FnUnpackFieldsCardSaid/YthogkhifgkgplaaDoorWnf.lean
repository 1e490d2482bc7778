/-
  The walk of the function that reads the number at a place of bytes. Conditions: where the list lies, the length that is typed, and what the error variable holds.
-/
import Derived.Test.YthogkhifgkgplaaDoorWerr
import Derived.Test.YthogkhifgkgplaaDoorWjg
import Derived.Test.YthogkhifgkgplaaDoorWgr
import Derived.Test.YthogkhifgkgplaaDoorWsq
namespace Go.Proofs.YthogkhifgkgplaaDoor
open Go.RowKit
set_option linter.unusedVariables false

/-- The error of bytes that hold no number: they end too early, or are no form. -/
def nfErr (a : Addr) (n : Nat) (l : List Int) : Value := if tk l < l.length then .iface 104 (.pointer (some a)) else .iface 43 (.agg #[.int .i64 n])
/-- What the reader of a number leaves. -/
def NfPost (a : Addr) (fr : Nat) (xs : List Int) (w : World) (e : Ending) (w' : World) : Prop :=
  e = .returned (match nf (xs.drop fr) with
    | some (x, n) => .tuple #[.int .i64 (x : Int), .int .i64 ((fr + n : Nat) : Int), .nilIface]
    | none => .tuple #[.int .i64 0, .int .i64 0, nfErr a xs.length (xs.drop fr)]) ∧ Below w.heap.size w w'

theorem nf_of {l : List Int} {k : Nat} (hk : tk l = k) (hlt : k < l.length) (h4 : k < 4) :
    nf l = if l.take (k + 1) = goR (jg (l.take (k + 1))) then some ((jg (l.take (k + 1))).toNat, k + 1) else none := by
  unfold nf goR
  rw [hk]
  have hpos : 0 < (l.take (k + 1)).length := by rw [List.length_take]; omega
  generalize jg (l.take (k + 1)) = x at *
  by_cases hb : btw x 0 1000000 = true
  · rw [if_pos hb]
    have := btw_yes hb
    by_cases he : l.take (k + 1) = gr x.toNat
    · rw [if_pos ⟨hlt, h4, this.1, this.2, he⟩, if_pos he]
    · rw [if_neg (fun h => he h.2.2.2.2), if_neg he]
  · rw [if_neg hb, if_neg (fun h => hb (btw_mk ⟨h.2.2.1, h.2.2.2.1⟩)), if_neg (fun h => by rw [h] at hpos; simp at hpos)]
theorem nf_big {l : List Int} (h4 : ¬ tk l < 4) : nf l = none := by unfold nf; rw [if_neg (fun h => h4 h.2.1)]
theorem nf_end {l : List Int} (h : ¬ tk l < l.length) : nf l = none := by unfold nf; rw [if_neg (fun h' => h h'.1)]
theorem drop_getD (xs : List Int) (fr k : Nat) : (xs.drop fr).getD k 0 = xs.getD (fr + k) 0 := by
  rw [List.getD_eq_getElem?_getD, List.getD_eq_getElem?_getD, List.getElem?_drop]
theorem ne_nilI (t : TypeId) (v : Value) : True := trivial

set_option maxHeartbeats 3200000 in
theorem nfr_any (a : Addr) (w : World) (v : Value) (xs : List Int) (fr : Nat) (h : Rdc w v xs) (hfr : fr ≤ xs.length) (hn : xs.length ≤ 1048576) (he : ErrA w a) :
    Calls Tryd.prog 50 #[v, .int .i64 fr] w (NfPost a fr xs w) := by
  have HV := Lib.hid h
  have HE := Lib.hid he
  have hdl : (xs.drop fr).length = xs.length - fr := List.length_drop
  have HDL := Lib.hid hdl
  obtain ⟨A, c, rfl, hc, hA⟩ := h
  have HA := Lib.hid hA
  have HTL := Lib.hid (tk_le (xs.drop fr))
  clear hA hdl he
  go_enter Tryd.func50, Tryd.ntmps50
  go_wp2
  go_loop [7] (fun iv => ∃ k : Nat, fr + k ≤ xs.length ∧ iv = .int .i64 ((fr : Int) + (k : Int) + 1) ∧ Hid (∀ j, j < k → 128 ≤ (xs.drop fr).getD j 0)) (fun iv => (xs.length + 1 - (intOf iv).toNat))
  case atStart => exact ⟨0, by omega, by simp, Lib.hid (fun j hj => absurd hj (by omega))⟩
  case round =>
    obtain ⟨k, hk, rfl, hall⟩ := hrel
    by_cases hlt : fr + k < xs.length
    · obtain ⟨b, off, rfl, hat⟩ := HA.out (by omega)
      have hc1 := hat.2 (fr + k) hlt
      have hx0 := drop_getD xs fr k
      have HX0 := Lib.hid hx0
      have hd : decide ((fr : Int) + (k : Int) + 1 ≤ (xs.length : Int)) = true := decide_eq_true (by omega)
      by_cases hbig : 128 ≤ xs.getD (fr + k) 0
      · have HN : Hid (∀ j, j < k + 1 → 128 ≤ (xs.drop fr).getD j 0) := Lib.hid (fun j hj => by
          rcases (show j < k ∨ j = k from by omega) with h | h
          · exact hall.out j h
          · rw [h, hx0]; exact hbig)
        clear hall hat hx0
        generalize xs.getD (fr + k) 0 = x at *
        have hd2 : decide ((128 : Int) ≤ x) = true := decide_eq_true hbig
        go_wp2
        go_round
        case rel => exact ⟨k + 1, by omega, by go_num, HN⟩
        case measure => simp [intOf]; omega
      · have htk : tk (xs.drop fr) = k := tk_eq (by have := HDL.out; omega) hall.out (fun _ => by rw [hx0]; omega)
        have hd2 : decide ((128 : Int) ≤ xs.getD (fr + k) 0) = false := decide_eq_false hbig
        have HTK := Lib.hid htk
        have HLT : Hid (tk (xs.drop fr) < (xs.drop fr).length) := Lib.hid (by rw [htk, HDL.out]; omega)
        have hcut := cut_any w _ xs fr (fr + k + 1) HV.out (by omega) (by omega) hn
        have hsub : fr + k + 1 - fr = k + 1 := by omega
        rw [hsub] at hcut
        have hgl : ((xs.drop fr).take (k + 1)).length = k + 1 := by rw [List.length_take, HDL.out]; omega
        have HCUT := Lib.hid hcut
        have hcast : ((fr + k + 1 : Nat) : Int) = (fr : Int) + (k : Int) + 1 := by omega
        rw [hcast] at HCUT
        have hnfk := fun h4 => nf_of htk (by rw [HDL.out]; omega) h4
        have hnfb := fun h4 : ¬ k < 4 => nf_big (l := xs.drop fr) (by rw [htk]; exact h4)
        have HNF := fun h4 => Lib.hid (hnfk h4)
        have HNB := fun h4 => Lib.hid (hnfb h4)
        clear hall hat hx0 htk hcut hnfk hnfb hcast hsub
        generalize xs.getD (fr + k) 0 = x at *
        generalize (xs.drop fr).take (k + 1) = G at *
        have HGL := Lib.hid hgl
        have hgp : 0 < G.length := by omega
        clear hgl
        go_wp2_with fail
        refine HCUT.out.mono ?_
        rintro e w1 ⟨⟨u, rfl, hu, _⟩, rfl⟩
        have HU := Lib.hid hu
        obtain ⟨Au, cu, rfl, hcu, _⟩ := hu
        clear HCUT
        by_cases h4 : k < 4
        · have HNF := HNF h4
          have hd4 : decide ((4 : Int) < (G.length : Int)) = false := decide_eq_false (by have := HGL.out; omega)
          have hg4 : G.length ≤ 4 := by have := HGL.out; omega
          have HJ := Lib.hid (jgr_any w _ G HU.out.rds hg4)
          have HGR := Lib.hid (iGO_any (jg G) w)
          have hgl2 := goR_len (jg G)
          obtain ⟨y, hy⟩ : ∃ y, y = jg G := ⟨_, rfl⟩
          rw [← hy] at HJ HGR HNF hgl2
          have HY := Lib.hid hy
          obtain ⟨R, hR⟩ : ∃ R, R = goR y := ⟨_, rfl⟩
          rw [← hR] at HGR HNF hgl2
          have HRR := Lib.hid hR
          clear hy hR HNB
          go_wp2_with fail
          refine HJ.out.mono ?_
          rintro e w2 ⟨rfl, rfl⟩
          go_wp2_with fail
          refine HGR.out.mono ?_
          rintro e w3 ⟨g, rfl, hg, hb3⟩
          have HG := Lib.hid hg
          have HB3 := Lib.hid hb3
          have HE3 := Lib.hid (HE.out.below hb3)
          have HU3 := Lib.hid (HU.out.below hb3 HU.out.lies)
          clear hg hb3 HJ HGR HU HE HV
          go_wp2_with fail
          refine (sq_any w3 _ _ G R HU3.out.rds (OwnL.rds HG.out) (by omega) (by omega)).mono ?_
          rintro e w4 ⟨rfl, m, rfl⟩
          by_cases heq : G = R
          · have hde : decide (G = R) = true := decide_eq_true heq
            have hr : NfPost a fr xs w (.returned (.tuple #[.int .i64 y, .int .i64 ((fr : Int) + (k : Int) + 1), .nilIface])) (w3.drewN m) := by
              have h1 := HNF.out
              rw [if_pos heq] at h1
              unfold NfPost
              rw [h1]
              have hy0 : 0 ≤ y := by
                by_cases hb : btw y 0 1000000 = true
                · exact (btw_yes hb).1
                · have : R = [] := by rw [HRR.out]; unfold goR; rw [if_neg hb]
                  rw [heq, this] at hgp
                  simp at hgp
              refine ⟨?_, below_drewN HB3.out m⟩
              show Ending.returned _ = Ending.returned (.tuple #[.int .i64 ((y.toNat : Nat) : Int), .int .i64 ((fr + (k + 1) : Nat) : Int), .nilIface])
              rw [show ((y.toNat : Nat) : Int) = y from by omega, show ((fr + (k + 1) : Nat) : Int) = (fr : Int) + (k : Int) + 1 from by omega]
            have HR := Lib.hid hr
            rw [hde]
            clear hr HNF hde
            go_wp2
            go_ret3
            exact HR.out
          · have hde : decide (G = R) = false := decide_eq_false heq
            have hr : ∀ q, NfPost a fr xs w (.returned (.tuple #[.int .i64 0, .int .i64 0, .iface 104 (.pointer (some a))])) ((w3.drewN m).drewN q) := by
              intro q
              have h1 := HNF.out
              rw [if_neg heq] at h1
              unfold NfPost
              rw [h1]
              refine ⟨?_, below_drewN (below_drewN HB3.out m) q⟩
              show _ = Ending.returned (.tuple #[.int .i64 0, .int .i64 0, nfErr a xs.length (xs.drop fr)])
              unfold nfErr
              rw [if_pos HLT.out]
            have HR := Lib.hid hr
            have hec : (w3.drewN m).cell? ⟨1, 0, none⟩ = some (.iface 104 (.pointer (some a))) := HE3.out.1
            rw [hde]
            clear hr HNF hde
            generalize w3.drewN m = w5 at *
            go_wp2
            go_quiet (fail)
            go_wp2
            go_ret3
            exact HR.out nq
        · have HNB := HNB h4
          have hd4 : decide ((4 : Int) < (G.length : Int)) = true := decide_eq_true (by have := HGL.out; omega)
          have hec : w.cell? ⟨1, 0, none⟩ = some (.iface 104 (.pointer (some a))) := HE.out.1
          clear HNF
          go_wp2
          go_quiet (fail)
          go_wp2
          go_ret3
          unfold NfPost
          rw [HNB.out]
          refine ⟨?_, below_drewN (Below.refl _ _) nq⟩
          show _ = Ending.returned (.tuple #[.int .i64 0, .int .i64 0, nfErr a xs.length (xs.drop fr)])
          unfold nfErr
          rw [if_pos HLT.out]
          rfl
    · have hkl : fr + k = xs.length := by omega
      have htk : tk (xs.drop fr) = k := tk_eq (by have := HDL.out; omega) hall.out (fun h => by have := HDL.out; omega)
      have hnl : ¬ tk (xs.drop fr) < (xs.drop fr).length := by rw [htk, HDL.out]; omega
      have HNL := Lib.hid hnl
      have HNE := Lib.hid (nf_end hnl)
      have hd : decide ((fr : Int) + (k : Int) + 1 ≤ (xs.length : Int)) = false := decide_eq_false (by omega)
      have hcut := cut_short w A xs.length c fr (fr + k + 1) (by omega)
      have hcast : ((fr + k + 1 : Nat) : Int) = (fr : Int) + (k : Int) + 1 := by omega
      rw [hcast] at hcut
      have HCUT := Lib.hid hcut
      clear hcut hcast htk hnl hkl hall
      go_wp2_with fail
      refine HCUT.out.mono ?_
      rintro e w1 ⟨rfl, rfl⟩
      go_wp2
      go_ret3
      unfold NfPost
      rw [HNE.out]
      refine ⟨?_, Below.refl _ _⟩
      show _ = Ending.returned (.tuple #[.int .i64 0, .int .i64 0, nfErr a xs.length (xs.drop fr)])
      unfold nfErr
      rw [if_neg HNL.out]
      rfl
end Go.Proofs.YthogkhifgkgplaaDoor
