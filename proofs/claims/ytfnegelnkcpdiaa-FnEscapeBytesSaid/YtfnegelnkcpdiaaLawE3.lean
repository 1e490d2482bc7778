/-
  The walk of the law FnEscapeBytes: it returns true at every code. No condition but that the code is a list that can be.
-/
import Derived.Test.YtfnegelnkcpdiaaWsomy
import Derived.Test.YtfnegelnkcpdiaaWeql
import Derived.Test.YtfnegelnkcpdiaaWuneI
namespace Go.Proofs.Ytfnegelnkcpdiaa
open Go.RowKit
set_option linter.unusedVariables false

set_option maxHeartbeats 400000 in
theorem deb_any (w : World) (a : Option Addr) (len cap : Nat) (zs : List Int) (h : IsRow .u8 w a len cap zs) :
    Calls Try.prog 15 #[.slice a len cap] w fun e w' => ∃ u l B, e = .returned u ∧ w'.ownsRow B 3 1 u l.length (ints l) ∧ l.length ≤ 40 ∧ Below w.heap.size w w' := by
  have H := Lib.hid (nr_any w a len cap zs h)
  clear h
  go_enter Try.func15, Try.ntmps15
  go_wp2_with (first | (go_at_call 22; refine H.out.mono ?_; rintro e w1 ⟨rfl, hr, hb, hz⟩; have HR := Lib.hid hr; clear hr hz) | (go_at_call 21; refine (sy_any HR.out (by omega)).mono ?_; rintro e w2 ⟨u, l, p', rfl, ho, hl, hr2, hp2, hb2⟩; have HO := Lib.hid ho; clear ho hr2))
  go_ret
  exact ⟨u, l, _, rfl, HO.out, hl, hb.trans hb2⟩

theorem bytes16 {l : List Int} (h : bytesB 16 l = true) : l.length ≤ 16 ∧ l.all isByte = true := by simpa [bytesB] using h
theorem uneR_esc {l : List Int} (h : bytesB 16 l = true) : uneR (escs l ++ [192]) = some l := by
  have h1 := (escs_len l).2
  have h2 := bytes16 h
  refine uneR_ok (by simp; omega) (by simp) ?_ h
  rw [List.dropLast_concat]
  exact une_escs l
theorem esc_end {l : List Int} {k : Nat} (h : k < (escs l ++ [192]).length) : ((((escs l ++ [192]).getD k 0) == 192) : Bool) = decide (k = (escs l).length) := by
  by_cases h1 : k < (escs l).length
  · have hm : (escs l ++ [192]).getD k 0 ∈ escs l := by
      rw [List.getD_eq_getElem?_getD, List.getElem?_append_left h1, List.getElem?_eq_getElem h1]
      exact List.getElem_mem h1
    have hne := escs_no l _ hm
    rw [beq_eq_false_iff_ne.2 hne]; simp; omega
  · have : k = (escs l).length := by simp at h; omega
    subst this
    simp [List.getD_eq_getElem?_getD]

set_option maxHeartbeats 3200000 in
theorem fnEscapeBytes_walk (a : Option Addr) (len cap : Nat) (zs : List Int) (w : World) (h : IsRow .u8 w a len cap zs) :
    Calls Try.prog 5 #[.slice a len cap] w fun e w' => e = .returned (.bool true) ∧ Below w.heap.size w w' := by
  by_cases hg : (1048576 : Int) < (len : Int)
  · go_enter Try.func5, Try.ntmps5
    go_wp2_with fail
    go_ret
    exact ⟨rfl, Below.refl _ _⟩
  · have H := Lib.hid (deb_any w a len cap zs h)
    clear h
    go_enter Try.func5, Try.ntmps5
    go_wp2_with fail
    refine H.out.mono ?_
    rintro e w1 ⟨u, l, B1, rfl, hu, hl, hb1⟩
    have HU := Lib.hid (Rds.of_own hu)
    have HLU := Lib.hid (own_lies (xs := l) hu)
    obtain ⟨Au, cu, rfl⟩ := own_form hu
    clear H hu
    cases hv : bytesB 16 l
    · have e0 : escR l = [] := by simp [escR, hv]
      have hI : ∀ W v, Rds W v l → Calls Try.prog 9 #[v] W fun e w' => ∃ u, e = .returned u ∧ w'.ownsRow W.heap.size 3 1 u 0 (ints []) ∧ Below W.heap.size W w' := fun W v h => by
        have := iEB_any W v l h (by omega)
        rw [e0] at this; exact this
      have hS : ∀ W v, Rds W v l → Calls Try.prog 7 #[v] W fun e w' => ∃ u, e = .returned u ∧ w'.ownsRow W.heap.size 3 1 u 0 (ints []) ∧ Below W.heap.size W w' := fun W v h => by
        have := sEB_any W v l h (by omega)
        rw [e0] at this; exact this
      clear e0 hv
      go_wp2_with fail
      refine (hI _ _ HU.out).mono ?_
      rintro e w2 ⟨o, rfl, ho, hb2⟩
      have HO := Lib.hid ho
      have HLO := Lib.hid (own_lies (xs := []) ho)
      have hfo := own_fits' ho
      have HU2 := Lib.hid (HU.out.below hb2 HLU.out)
      have hz2 := hb2.size
      have hbb2 := hb1.trans (hb2.mono hb1.size)
      obtain ⟨Ao, co, rfl⟩ := own_form ho
      have hco : 0 ≤ co := hfo _ _ _ rfl
      clear ho HU hb1 hb2 hfo
      go_wp2_with fail
      refine (hS _ _ HU2.out).mono ?_
      rintro e w3 ⟨s, rfl, hs, hb3⟩
      have HS3 : Hid (Rds w3 s []) := Rds.of_own hs
      have HU3 := Lib.hid (HU2.out.below hb3 (HLU.out.mono hz2))
      have HO3 : Hid (Rds w3 (.slice Ao 0 co) []) := (Rds.of_own (xs := []) HO.out).below hb3 HLO.out
      have hbb3 := hbb2.trans (hb3.mono hbb2.size)
      have hz3 := hb3.size
      clear hs HU2 HO hbb2 hb3
      go_wp2_with fail
      refine (eqL_same _ _ _ [] HO3.out HS3.out (by simp)).mono ?_
      rintro e w4 ⟨rfl, m4, rfl⟩
      go_wp2_with fail
      refine (hS _ _ (HU3.out.drewN m4)).mono ?_
      rintro e w5 ⟨s5, rfl, hs5, hb5⟩
      have hb5' : Below w3.heap.size w3 w5 := (below_drewN (Below.refl w3.heap.size w3) m4).trans hb5
      have HS5 : Hid (Rds w5 s5 []) := Rds.of_own hs5
      have HO5 := Lib.hid (HO3.out.below hb5' (HLO.out.mono hz3))
      have hbb5 := hbb3.trans (hb5'.mono hbb3.size)
      clear hs5 hb5 hb5' hbb3
      go_wp2_with fail
      refine (eqL_same _ _ _ [] HO5.out HS5.out (by simp)).mono ?_
      rintro e w6 ⟨rfl, m6, rfl⟩
      go_wp2
      go_ret
      exact ⟨rfl, below_drewN hbb5 m6⟩
    · have e0 : escR l = escs l ++ [192] := by simp [escR, hv]
      have hu := uneR_esc hv
      have hend : ∀ k, k < (escs l ++ [192]).length → _ := fun k hk => esc_end (l := l) hk
      have h16 := (bytes16 hv).1
      have hel := (escs_len l).2
      have hRlen : (escs l ++ [192]).length = (escs l).length + 1 := by simp
      generalize (escs l).length = q at *
      generalize escs l ++ [192] = R at *
      have hI : ∀ W v, Rds W v l → Calls Try.prog 9 #[v] W fun e w' => ∃ u, e = .returned u ∧ w'.ownsRow W.heap.size 3 1 u R.length (ints R) ∧ Below W.heap.size W w' := fun W v h => by
        have := iEB_any W v l h (by omega)
        rw [e0] at this; exact this
      have hS : ∀ W v, Rds W v l → Calls Try.prog 7 #[v] W fun e w' => ∃ u, e = .returned u ∧ w'.ownsRow W.heap.size 3 1 u R.length (ints R) ∧ Below W.heap.size W w' := fun W v h => by
        have := sEB_any W v l h (by omega)
        rw [e0] at this; exact this
      clear e0 hv
      have HEND := Lib.hid hend
      have HUN := Lib.hid hu
      clear hend hu
      have hR1 : 1 ≤ R.length := by omega
      have hR2 : R.length ≤ 2 * l.length + 1 := by omega
      have HRL := Lib.hid hRlen
      clear hRlen hel
      go_wp2_with fail
      refine (hI _ _ HU.out).mono ?_
      rintro e w2 ⟨o, rfl, ho, hb2⟩
      have HO := Lib.hid ho
      have HLO := Lib.hid (own_lies (xs := R) ho)
      have hfo := own_fits' ho
      have HU2 := Lib.hid (HU.out.below hb2 HLU.out)
      have hz2 := hb2.size
      have hbb2 := hb1.trans (hb2.mono hb1.size)
      obtain ⟨Ao, co, rfl⟩ := own_form ho
      have hco : R.length ≤ co := hfo _ _ _ rfl
      clear ho HU hb1 hb2 hfo
      go_wp2_with fail
      refine (hS _ _ HU2.out).mono ?_
      rintro e w3 ⟨s, rfl, hs, hb3⟩
      have HS3 : Hid (Rds w3 s R) := Rds.of_own hs
      have HU3 := Lib.hid (HU2.out.below hb3 (HLU.out.mono hz2))
      have HO3 : Hid (Rds w3 (.slice Ao R.length co) R) := (Rds.of_own (xs := R) HO.out).below hb3 HLO.out
      have hbb3 := hbb2.trans (hb3.mono hbb2.size)
      have hz3 := hb3.size
      clear hs HU2 HO hbb2 hb3
      go_wp2_with fail
      refine (eqL_same _ _ _ R HO3.out HS3.out (by omega)).mono ?_
      rintro e w4 ⟨rfl, m4, rfl⟩
      have hq0 : ((R.length : Int) == 0) = false := beq_eq_false_iff_ne.2 (by omega)
      obtain ⟨bo, offo, hA, haO⟩ : ∃ b off, Ao = some ⟨b, off, none⟩ ∧ At w3 b off R := by
        obtain ⟨A', c', hv', h1'⟩ := HO3.out
        cases hv'
        exact h1' (by omega)
      subst hA
      have HAO := Lib.hid haO.2
      clear haO
      go_wp2
      go_loop [5] (fun i => ∃ k : Nat, k ≤ R.length ∧ i = .int .i64 k) (fun i => R.length - (intOf i).toNat)
      case atStart => exact ⟨0, Nat.zero_le _, rfl⟩
      case round =>
        obtain ⟨k, hk, rfl⟩ := hrel
        by_cases hlt : k < R.length
        · have hc1 : (w3.drewN m4).cell? ⟨bo, offo + k, none⟩ = some (.int .i64 (R.getD k 0)) := HAO.out k hlt
          have he := HEND.out k hlt
          have hq : (((R.length : Int) - 1) == ((R.length : Int) - 1)) = true := by simp
          have hkl : ((k : Int) == (R.length : Int) - 1) = decide (k = q) := by
            have := HRL.out
            by_cases h : k = q
            · rw [decide_eq_true h]; simp; omega
            · rw [decide_eq_false h]; simp; omega
          generalize R.getD k 0 = x at *
          clear hq
          cases hd : decide (k = q)
          · rw [hd] at he hkl
            clear hd
            go_wp2
            go_round
            case rel => exact ⟨k + 1, by omega, by go_num⟩
            case measure => simp [intOf]; omega
          · rw [hd] at he hkl
            clear hd
            go_wp2
            go_round
            case rel => exact ⟨k + 1, by omega, by go_num⟩
            case measure => simp [intOf]; omega
        · obtain rfl : k = R.length := by omega
          have hun := iUE_any (w3.drewN m4) (.slice (some ⟨bo, offo, none⟩) R.length co) R (HO3.out.drewN m4) (by omega) (fun A n c hv => by cases hv; exact hco)
          rw [HUN.out] at hun
          have HUV := Lib.hid hun
          clear hun
          go_wp2_with fail
          refine HUV.out.mono ?_
          rintro e w5 ⟨bk, rfl, hbk, hb5⟩
          have hb5' : Below w3.heap.size w3 w5 := (below_drewN (Below.refl w3.heap.size w3) m4).trans hb5
          have HBK : Hid (Rds w5 bk l) := Rds.of_own hbk
          have HU5 := Lib.hid (HU3.out.below hb5' (HLU.out.mono (Nat.le_trans hz2 hz3)))
          have hbb5 := hbb3.trans (hb5'.mono hbb3.size)
          clear hbk hb5 hb5' hbb3
          go_wp2_with fail
          refine (eqL_same _ _ _ l HBK.out HU5.out (by omega)).mono ?_
          rintro e w6 ⟨rfl, m6, rfl⟩
          go_wp2
          go_ret
          exact ⟨ret_bool (decide_eq_true (by omega)), below_drewN hbb5 m6⟩
end Go.Proofs.Ytfnegelnkcpdiaa
