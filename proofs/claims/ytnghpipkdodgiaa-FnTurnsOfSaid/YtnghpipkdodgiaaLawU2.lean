/-
  The walk of the law FnTurnsOf: it returns true at every argument that can be. No condition.
-/
import Derived.Test.YtnghpipkdodgiaaWdtu
import Derived.Test.YtnghpipkdodgiaaWeql
import Derived.Test.YtnghpipkdodgiaaWstu
import Derived.Test.YtnghpipkdodgiaaWitu
namespace Go.Proofs.Ytnghpipkdodgiaa
open Go.RowKit
set_option linter.unusedVariables false

theorem occ_part (q : Int) (L : List (List Int)) (r f : Nat) : ∀ k, (part q L r k).count (f : Int) = if f < k then cnt q (L.getD f []) r else 0
  | 0 => by simp [part]
  | k + 1 => by
    show (part q L r k ++ List.replicate (cnt q (L.getD k []) r) (k : Int)).count (f : Int) = _
    rw [List.count_append, occ_part q L r f k, List.count_replicate]
    rcases (show f < k ∨ f = k ∨ k < f from by omega) with h | rfl | h
    · have h1 : ((k : Int) == (f : Int)) = false := beq_eq_false_iff_ne.2 (by omega)
      rw [h1, if_pos h, if_neg (by simp), if_pos (show f < k + 1 by omega), Nat.add_zero]
    · rw [beq_self_eq_true, if_neg (Nat.lt_irrefl _), if_pos rfl, if_pos (Nat.lt_succ_self _), Nat.zero_add]
    · have h1 : ((k : Int) == (f : Int)) = false := beq_eq_false_iff_ne.2 (by omega)
      rw [h1, if_neg (by omega), if_neg (by simp), if_neg (show ¬ f < k + 1 by omega)]
theorem occ_turns {q : Int} {L : List (List Int)} (hq : 1 ≤ q ∧ q ≤ 30) (h : okF L = true) (f : Nat) (hf : f < L.length) : ∀ r, (turns q L r).count (f : Int) = (stt q (L.getD f []) r).1
  | 0 => by simp [turns, stt]
  | r + 1 => by
    show (turns q L r ++ part q L r L.length).count (f : Int) = _
    rw [List.count_append, occ_turns hq h f hf r, occ_part, if_pos hf, cnt_add hq (okP_parts (okF_at h f)).1 r]
theorem endAt_or (q : Int) (L : List (List Int)) : ∀ f k, left q L (endAt q L f k) = 0 ∨ ∀ i, k ≤ i → i < k + f → left q L i ≠ 0
  | 0, k => .inr (fun i h1 h2 => absurd h2 (by omega))
  | f + 1, k => by
    unfold endAt
    by_cases h : left q L k = 0
    · rw [if_pos h]; exact .inl h
    · rw [if_neg h]
      rcases endAt_or q L f (k + 1) with h1 | h1
      · exact .inl h1
      · refine .inr (fun i hi1 hi2 => ?_)
        rcases (show i = k ∨ k + 1 ≤ i from by omega) with rfl | h2
        · exact h
        · exact h1 i h2 (by omega)
theorem turT_left {q : Int} {L : List (List Int)} (hq : 1 ≤ q ∧ q ≤ 30) (h : okF L = true) : left q L (turT q L) = 0 := by
  rcases endAt_or q L 800 0 with h1 | h1
  · exact h1
  · have := turns_bd hq h 800 (fun i hi => h1 i (by omega) (by omega))
    omega
/-- What an answer that is not empty holds: of each flow as many as it has packets, and no more. -/
theorem turR_full {q : Int} {L : List (List Int)} (h0 : turR q L ≠ []) : okF L = true ∧ (turR q L).length = allP L ∧ ∀ f, f < L.length → (turR q L).count (f : Int) = (L.getD f []).length := by
  cases hb : turB q L
  · exact absurd (turR_bad hb) h0
  · obtain ⟨hq, hF⟩ := turB_parts hb
    have hl := turT_left hq hF
    refine ⟨hF, ?_, fun f hf => ?_⟩
    · rw [turR_ok hb, turns_len hq hF]
      have := gone_left hq hF (turT q L)
      omega
    · rw [turR_ok hb, occ_turns hq hF f hf]
      have h1 := left_some hF _ hl f hf
      have h2 := (stt_bd hq (okP_parts (okF_at hF f)).1 (turT q L)).1
      omega
theorem count_take (R : List Int) (f : Int) (i : Nat) (h : i < R.length) : (R.take (i + 1)).count f = (R.take i).count f + if R.getD i 0 = f then 1 else 0 := by
  rw [List.take_add_one, List.getElem?_eq_getElem h, List.count_append]
  simp [List.count_singleton, List.getD_eq_getElem?_getD, List.getElem?_eq_getElem h]

set_option maxHeartbeats 3200000 in
theorem fnTurnsOf_walk (a : Option Addr) (len cap : Nat) (zs : List Int) (w : World) (h : IsRow .u8 w a len cap zs) :
    Calls Try.prog 4 #[.slice a len cap] w fun e w' => e = .returned (.bool true) ∧ Below w.heap.size w w' := by
  by_cases hg : (1048576 : Int) < (len : Int)
  · go_enter Try.func4, Try.ntmps4
    go_wp2_with fail
    go_ret
    exact ⟨rfl, Below.refl _ _⟩
  · have H := Lib.hid (dtu_any w a len cap zs h)
    clear h
    go_enter Try.func4, Try.ntmps4
    go_wp2_with fail
    refine H.out.mono ?_
    rintro e w1 ⟨q, v, L, rfl, hv, hcap, hL, hn, hb1⟩
    have hn2 : ∀ k, (L.getD k []).length ≤ 1048576 := fun k => by have := hn k; omega
    have HB1 := Lib.hid hb1
    have HVM : Hid (∀ W, Below w1.heap.size w1 W → RdsL W v L) := Lib.hid (fun W hb => hv.more hb)
    have HI := Lib.hid (iTu_any q w1 v L hv hcap (by omega) hn2)
    have HS := Lib.hid (fun W h => sTu_any q W v L h (by omega) hn2)
    have hRl := turR_len q L
    have HFU := Lib.hid (turR_full (q := q) (L := L))
    have z1 := hb1.size
    obtain ⟨Av, cv, hvf⟩ := hv.form
    subst hvf
    clear hb1 hv hcap H hn hn2
    generalize turR q L = R at *
    go_wp2_with fail
    refine HI.out.mono ?_
    rintro e w2 ⟨u, rfl, hu, hb2⟩
    have HU2 := Lib.hid hu
    have HB2 := Lib.hid (HB1.out.trans (hb2.mono z1))
    have HBV2 := Lib.hid hb2
    obtain ⟨Au, cu, rfl⟩ := hu.form
    clear hu hb2 HB1 HI
    go_wp2_with fail
    refine (HS.out _ (HVM.out _ HBV2.out)).mono ?_
    rintro e w3 ⟨p, rfl, hp, hb3⟩
    have HQ3 := Lib.hid hp
    have HU3 : Hid (OwnL w3 _ _ R) := Lib.hid (OwnL.below HU2.out hb3 (Nat.le_refl _))
    have HB3 := Lib.hid (HB2.out.trans (hb3.mono HB2.out.size))
    have HBV3 := Lib.hid (HBV2.out.trans (hb3.mono HBV2.out.size))
    clear hp hb3 HB2 HU2 HBV2
    go_wp2_with fail
    refine (eqL_same _ _ _ _ (OwnL.rds HU3.out) (OwnL.rds HQ3.out) (by omega)).mono ?_
    rintro e w4 ⟨rfl, m4, rfl⟩
    clear HQ3
    by_cases hn0 : R.length = 0
    · obtain rfl : R = [] := List.eq_nil_of_length_eq_zero hn0
      clear hn0 hRl HFU
      rw [List.length_nil] at HU3
      rw [List.length_nil]
      go_wp2_with fail
      refine (HS.out _ (HVM.out _ (below_drewN HBV3.out m4))).mono ?_
      rintro e w5 ⟨v5, rfl, hv5, hb5⟩
      have HU5 : Hid (OwnL w5 _ _ []) := Lib.hid (OwnL.below (HU3.out.drewN m4) hb5 (Nat.le_refl _))
      have HV5 := Lib.hid hv5
      have HB5 := Lib.hid ((below_drewN HB3.out m4).trans (hb5.mono HB3.out.size))
      clear hv5 hb5 HU3 HB3
      go_wp2_with fail
      refine (eqL_same _ _ _ [] (OwnL.rds HU5.out) (OwnL.rds HV5.out) (by simp)).mono ?_
      rintro e w6 ⟨rfl, m6, rfl⟩
      go_wp2
      go_ret
      exact ⟨rfl, below_drewN HB5.out m6⟩
    · obtain ⟨hF, hRA, hCO⟩ := HFU.out (fun e => hn0 (by rw [e]; rfl))
      have HCO := Lib.hid hCO
      have hl0 : ((R.length : Int) == 0) = false := beq_eq_false_iff_ne.2 (by omega)
      have hl1 : ¬ R.length = 0 := hn0
      have HBF := Lib.hid (below_drewN HB3.out m4)
      have HVR := Lib.hid ((HVM.out _ HBV3.out).drewN m4)
      have HUR := Lib.hid ((OwnL.rds HU3.out).drewN m4)
      generalize w3.drewN m4 = W at *
      obtain ⟨b2, off2, hbb2, hat2⟩ : ∃ b off, Au = some ⟨b, off, none⟩ ∧ At W b off R := by
        obtain ⟨A', c', hv', h1'⟩ := HUR.out
        injection hv' with e1 e2 e3
        subst e1
        exact h1' (by omega)
      subst hbb2
      have HC2 := Lib.hid hat2.2
      clear HFU hCO HU3 HB3 HBV3 HS HVM hat2 HUR
      go_wp2
      go_loop [6, 7] (fun sv iv => ∃ k : Nat, k ≤ L.length ∧ iv = .int .i64 k ∧ sv = .int .i64 (allP (L.take k) : Nat)) (fun _ iv => L.length - (intOf iv).toNat)
      case atStart => exact ⟨0, Nat.zero_le _, rfl, rfl⟩
      case round =>
        obtain ⟨k, hk, rfl, rfl⟩ := hrel
        by_cases hlt : k < L.length
        · obtain ⟨b, off, Al, cl, hb, hbl, hcu, _⟩ := HVR.out.flow k hlt
          subst hb
          have HS := Lib.hid (allP_snoc6 L k hlt)
          have hle := allP_take_le L k hlt
          have hco := HCO.out k hlt
          generalize (L.getD k []).length = m at *
          generalize allP (L.take k) = t at *
          go_wp2
          go_loop [8, 9] (fun nv iv => ∃ i : Nat, i ≤ R.length ∧ iv = .int .i64 i ∧ nv = .int .i64 ((R.take i).count (k : Int) : Nat)) (fun _ iv => R.length - (intOf iv).toNat)
          case atStart => exact ⟨0, Nat.zero_le _, rfl, rfl⟩
          case round =>
            obtain ⟨i, hi, rfl, rfl⟩ := hrel
            have hcle := List.count_le_length (a := (k : Int)) (l := R.take i)
            have htl := List.length_take_le i R
            have hc24 : (R.take i).count (k : Int) ≤ 24 := by omega
            clear hcle htl
            by_cases hil : i < R.length
            · have hci := HC2.out i hil
              have HCT := Lib.hid (count_take R (k : Int) i hil)
              generalize R.getD i 0 = x at *
              generalize (R.take i).count (k : Int) = n at *
              by_cases hx : x = (k : Int)
              · have HE := Lib.hid (HCT.out.trans (by rw [if_pos hx]))
                have hq1 : (x == (k : Int)) = true := by simp [hx]
                subst hx
                clear HCT
                go_wp2
                go_round
                case rel => exact ⟨i + 1, by omega, by go_num, by rw [HE.out]; go_num⟩
                case measure => simp [intOf]; omega
              · have HE := Lib.hid (HCT.out.trans (by rw [if_neg hx]))
                have hq1 : (x == (k : Int)) = false := beq_eq_false_iff_ne.2 hx
                clear HCT
                go_wp2
                go_round
                case rel => exact ⟨i + 1, by omega, by go_num, by rw [HE.out]; go_num⟩
                case measure => simp [intOf]; omega
            · obtain rfl : i = R.length := by omega
              rw [List.take_length, hco]
              clear hc24 hco
              have hq2 : ((m : Int) == (m : Int)) = true := by simp
              go_wp2
              exact ⟨⟨_, .int .i64 ((t : Int) + (m : Int)), .int .i64 ((k : Int) + 1), ⟨k + 1, by omega, by go_num, by rw [HS.out]; go_num⟩, rfl, rfl, rfl⟩, by simp [intOf]; omega⟩
        · obtain rfl : k = L.length := by omega
          rw [List.take_length, ← hRA]
          go_wp2
          go_ret
          exact ⟨by simp, HBF.out⟩
end Go.Proofs.Ytnghpipkdodgiaa
