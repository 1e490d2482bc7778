/-
  The walk of the law FnValidPieces: it returns true at every code. No condition but that the code is a list that can be.
-/
import Derived.Test.YtcebbnmpjlilbaaWdp
namespace Go.Proofs.Ytcebbnmpjlilbaa
open Go.RowKit
set_option linter.unusedVariables false

theorem PRds.head {w : World} {A : Option Addr} {n c : Nat} {ps : List Pc} (h : PRds w (.slice A n c) ps) (k : Nat) (hk : k ≤ ps.length) (c' : Nat) : PRds w (.slice A k c') (ps.take k) := by
  obtain ⟨A', c2, hv, h1⟩ := h
  simp only [Value.slice.injEq] at hv
  obtain ⟨rfl, rfl, rfl⟩ := hv
  have hl : (ps.take k).length = k := by rw [List.length_take]; omega
  refine ⟨A, c', by rw [hl], fun h0 => ?_⟩
  obtain ⟨b, off, rfl, ha⟩ := h1 (by omega)
  refine ⟨b, off, rfl, ha.1, fun j hj => ?_⟩
  have e : (ps.take k).getD j d0 = ps.getD j d0 := by
    rw [List.getD_eq_getElem?_getD, List.getD_eq_getElem?_getD, List.getElem?_take, if_pos (by omega)]
  rw [e]
  exact ha.2 j (by omega)
theorem vpB_take {ps : List Pc} (h : vpB ps = true) (k : Nat) (hk : k ≤ ps.length) : vpB (ps.take k) = true := by
  simp only [vpB, lpB, Bool.and_eq_true, decide_eq_true_eq] at h ⊢
  refine ⟨?_, by rw [List.length_take]; omega⟩
  rw [List.all_eq_true] at h ⊢
  intro p hp
  exact h.1 p (List.mem_of_mem_take hp)

set_option maxHeartbeats 3200000 in
theorem fnValidPieces_walk (a : Option Addr) (len cap : Nat) (zs : List Int) (w : World) (h : IsRow .u8 w a len cap zs) :
    Calls Try.prog 7 #[.slice a len cap] w fun e w' => e = .returned (.bool true) ∧ Below w.heap.size w w' := by
  by_cases hg : (1048576 : Int) < (len : Int)
  · go_enter Try.func7, Try.ntmps7
    go_wp2_with fail
    go_ret
    exact ⟨rfl, Below.refl _ _⟩
  · have H := Lib.hid (dVP_any w a len cap zs h)
    clear h
    go_enter Try.func7, Try.ntmps7
    go_wp2_with fail
    refine H.out.mono ?_
    rintro e w1 ⟨u, l, B, rfl, ho, hl, hb1⟩
    have HU := Lib.hid (PRds.of_own ho)
    have HB1 := Lib.hid hb1
    have hcap : ∀ A n c, u = .slice A n c → n ≤ c := fun A n c hv => by
      subst hv
      rcases ho.2 with ⟨h', _⟩ | ⟨g, c', cur, h', _, _, h3, _⟩
      · simp only [Value.slice.injEq] at h'; omega
      · simp only [Value.slice.injEq] at h'; omega
    obtain ⟨A, c, rfl⟩ := own_form3 ho
    have hlc := hcap _ _ _ rfl
    clear H ho hb1 hcap
    have hI := fun W h => iVP_any W (.slice A l.length c) l h (by omega)
    have hS := fun W h => sVP_any W (.slice A l.length c) l h (by omega)
    cases hv : vpB l
    · rw [hv] at hI hS
      have HI := Lib.hid hI
      have HS := Lib.hid hS
      clear hI hS hv
      go_wp2_with fail
      refine (HI.out _ HU.out).mono ?_
      rintro e w2 ⟨rfl, hb2⟩
      have HU2 := Lib.hid (HU.out.more hb2)
      have HB2 := Lib.hid (HB1.out.trans (hb2.mono HB1.out.size))
      clear hb2
      go_wp2_with fail
      refine (HS.out _ HU2.out).mono ?_
      rintro e w3 ⟨rfl, m3, rfl⟩
      go_wp2_with fail
      refine (HS.out _ (HU2.out.drewN m3)).mono ?_
      rintro e w4 ⟨rfl, m4, rfl⟩
      go_wp2
      go_ret
      exact ⟨rfl, below_drewN HB2.out (m3 + m4)⟩
    · have hT := fun W h => iVP_any W (.slice A (l.length - 1) c) (l.take (l.length - 1)) h (by rw [List.length_take]; omega)
      rw [vpB_take hv _ (by omega)] at hT
      rw [hv] at hI hS
      have HI := Lib.hid hI
      have HS := Lib.hid hS
      have HT := Lib.hid hT
      clear hI hS hv hT
      go_wp2_with fail
      refine (HI.out _ HU.out).mono ?_
      rintro e w2 ⟨rfl, hb2⟩
      have HU2 := Lib.hid (HU.out.more hb2)
      have HB2 := Lib.hid (HB1.out.trans (hb2.mono HB1.out.size))
      clear hb2
      go_wp2_with fail
      refine (HS.out _ HU2.out).mono ?_
      rintro e w3 ⟨rfl, m3, rfl⟩
      by_cases hn : l.length = 0
      · have q0 : ((l.length : Int) == 0) = true := beq_iff_eq.2 (by omega)
        go_wp2
        go_ret
        exact ⟨rfl, below_drewN HB2.out m3⟩
      · have q0 : ((l.length : Int) == 0) = false := beq_eq_false_iff_ne.2 (by omega)
        have q1 : (0 : Int) ≤ (l.length : Int) - 1 := by omega
        have q2 : (l.length : Int) - 1 ≤ (c : Int) := by omega
        have q3 : ((l.length : Int) - 1).toNat = l.length - 1 := by omega
        obtain ⟨A', c', hv', h1'⟩ := HU2.out
        obtain ⟨b, off, hA, _⟩ := h1' (by omega)
        simp only [Value.slice.injEq] at hv'
        obtain ⟨rfl, _, rfl⟩ := hv'
        subst hA
        clear h1'
        go_wp2_with fail
        refine (HT.out _ ((HU2.out.drewN m3).head (l.length - 1) (by omega) _)).mono ?_
        rintro e w4 ⟨rfl, hb4⟩
        go_wp2
        go_ret
        exact ⟨rfl, (below_drewN HB2.out m3).trans (hb4.mono HB2.out.size)⟩
end Go.Proofs.Ytcebbnmpjlilbaa
