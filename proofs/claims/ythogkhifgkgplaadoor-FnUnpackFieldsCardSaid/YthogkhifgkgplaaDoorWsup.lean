/-
  The walk of the model's reader of fields. Conditions: where the list lies, its length, and that its numbers are bytes.
-/
import Derived.Test.YthogkhifgkgplaaDoorWsu
set_option linter.unusedSimpArgs false
namespace Go.Proofs.YthogkhifgkgplaaDoor
open Go.RowKit
set_option linter.unusedVariables false

theorem all_drop8 {l : List Int} (h : l.all by8 = true) (n : Nat) : (l.drop n).all by8 = true := List.all_eq_true.2 (fun x hx => List.all_eq_true.1 h x (List.mem_of_mem_drop hx))
theorem all_take8 {l : List Int} (h : l.all by8 = true) (n : Nat) : (l.take n).all by8 = true := List.all_eq_true.2 (fun x hx => List.all_eq_true.1 h x (List.mem_of_mem_take hx))
theorem oneF_no1 {l : List Int} (h : nf l = none) : oneF l = none := by unfold oneF; rw [h]
theorem oneF_tag {l : List Int} {t n : Nat} (h : nf l = some (t, n)) (ht : 300 < t) : oneF l = none := by
  unfold oneF
  rw [h]
  simp only
  cases nf (l.drop n) with
  | none => rfl
  | some q =>
    obtain ⟨s, m⟩ := q
    simp only
    rw [if_neg]
    intro h
    have := (vf_parts h.2).1.2
    simp only at this
    omega
theorem oneF_no2 {l : List Int} {t n : Nat} (h : nf l = some (t, n)) (h2 : nf (l.drop n) = none) : oneF l = none := by unfold oneF; rw [h]; simp only; rw [h2]
theorem oneF_long {l : List Int} {t n s m : Nat} (h : nf l = some (t, n)) (h2 : nf (l.drop n) = some (s, m)) (hs : l.length < n + m + s ∨ 16 < s) : oneF l = none := by
  unfold oneF
  rw [h]
  simp only
  rw [h2]
  simp only
  rw [if_neg]
  intro hc
  rcases hs with hs | hs
  · omega
  · have := (vf_parts hc.2).2.1
    simp only [List.length_take, List.length_drop] at this
    omega
theorem oneF_ok {l : List Int} {t n s m : Nat} (h : nf l = some (t, n)) (h2 : nf (l.drop n) = some (s, m)) (ht : t ≤ 300) (hs : s ≤ 16) (hl : n + m + s ≤ l.length) (hb : l.all by8 = true) : oneF l = some (⟨t, (l.drop (n + m)).take s⟩, n + m + s) := by
  unfold oneF
  rw [h]
  simp only
  rw [h2]
  simp only
  rw [if_pos]
  refine ⟨hl, ?_⟩
  simp only [vfB, tagB, bysB, Bool.and_eq_true, decide_eq_true_eq]
  refine ⟨⟨by omega, by omega⟩, ?_, all_take8 (all_drop8 hb _) _⟩
  rw [List.length_take]; omega

theorem rds_mid {w : World} {b off c s p : Nat} {ys : List Int} (h : Rdc w (.slice (some ⟨b, off, none⟩) ys.length c) ys) (hp : p + s ≤ ys.length) (c' : Nat) : Rds w (.slice (some ⟨b, off + p, none⟩) s c') ((ys.drop p).take s) ∧ Proper (.slice (some ⟨b, off + p, none⟩) s c') := by
  obtain ⟨A, c2, hv, hc, h1⟩ := h
  injection hv with q1 q2 q3
  have hl : ((ys.drop p).take s).length = s := by rw [List.length_take, List.length_drop]; omega
  refine ⟨⟨_, _, by rw [hl], fun h0 => ?_⟩, fun n c e => by injection e with a; cases a⟩
  obtain ⟨b2, off2, q4, ha⟩ := h1 (by omega)
  rw [q4] at q1
  injection q1 with q1
  injection q1 with q5 q6
  subst q5; subst q6
  exact ⟨b, off + p, rfl, at_mid ha p s⟩

set_option maxRecDepth 50000 in
set_option maxHeartbeats 6400000 in
theorem sup_any (w : World) (v : Value) (xs : List Int) (h : Rdc w v xs) (hn : xs.length ≤ 120) (hb8 : xs.all by8 = true) :
    Calls Tryd.prog 21 #[v] w (SuPost xs w) := by
  have HRW := Lib.hid h
  have HB8 := Lib.hid hb8
  have HI0 : Hid (unA xs = (unA (xs.drop 0)).map ((([] : List (Fd × Value)).map (·.1)) ++ ·)) := Lib.hid (by rw [List.drop_zero]; cases unA xs <;> simp)
  obtain ⟨i0, hi, hz0, hz1, hz2⟩ := info_parts infoF
  have HI := Lib.hid hi
  have HZ0 := Lib.hid hz0
  have HZ1 := Lib.hid hz1
  have HZ2 := Lib.hid hz2
  have HM := Lib.hid (World.ownsRow_made (base := w.heap.size) (e := 48) (size := 2) w #[] 0 (Nat.le_refl _) (by unfold maxLen; omega) rfl)
  have HB0 := Lib.hid ((Below.refl w.heap.size w).alloc (Nat.le_refl _) (.cells #[] 48))
  clear hi hz0 hz1 hz2 hb8
  obtain ⟨A, c, rfl, hcl, hA⟩ := h
  have HA := Lib.hid hA
  clear hA
  go_enter Tryd.func21, Tryd.ntmps21
  go_wp2
  go_loopw [4, 5] (fun fv iv wr => ∃ (Q : List (Fd × Value)) (k : Nat), iv = .int .i64 k ∧ Hid (FOwn wr w.heap.size fv Q) ∧ Hid (unA xs = (unA (xs.drop k)).map (Q.map (·.1) ++ ·)) ∧ Q.length ≤ k ∧ k ≤ xs.length ∧ Hid (Below w.heap.size w wr)) (fun _ iv _ => xs.length - (intOf iv).toNat)
  case atStart => exact ⟨[], 0, rfl, Lib.hid (FOwn.nil _ _ _ HM.out), Lib.hid HI0.out, Nat.le_refl _, Nat.zero_le _, Lib.hid HB0.out⟩
  case round =>
    obtain ⟨Q, k, rfl, HO, HU, hQk, hk, HB⟩ := hrel
    obtain ⟨Ao, co, hof⟩ := HO.out.form
    subst hof
    by_cases hlt : k < xs.length
    · obtain ⟨b, off, hAe, hat0⟩ := HA.out (by omega)
      subst hAe
      have hbl := hat0.1
      clear hat0
      have HR := Lib.hid (HRW.out.below HB.out HRW.out.lies)
      have HS1 : Hid (Calls Tryd.prog 36 #[.slice (some ⟨b, off + k, none⟩) (xs.length - k) (c - k)] wr fun e w' => e = .returned (.tuple #[.int .i64 (nfA (xs.drop k)), .int .i64 (nfN (xs.drop k))]) ∧ wr = w') := Lib.hid (rgr_any wr _ _ (rdc_drop HR.out (by omega)).rds (by rw [List.length_drop]; omega) (all_drop8 HB8.out k))
      by_cases h0 : nfN (xs.drop k) = 0
      · have HN := Lib.hid (unA_last HU.out (oneF_no1 (nf_zero h0)))
        have hne : xs.drop k ≠ [] := fun e => by have : (xs.drop k).length = 0 := by rw [e]; rfl
                                                 rw [List.length_drop] at this; omega
        rw [h0] at HS1
        have HNE := Lib.hid hne
        clear h0 hne
        generalize nfA (xs.drop k) = T1 at *
        go_wp2_with fail
        refine HS1.out.mono ?_
        rintro e w1 ⟨rfl, rfl⟩
        go_wp2
        go_ret2
        exact ⟨_, [], false, rfl, FOwn.none _ _, Nat.zero_le _, HB.out, .inr ⟨by rw [HN.out, if_neg HNE.out], rfl, rfl⟩⟩
      · obtain ⟨t, n, hnf, hA1, hN1, ht6, hn1, hnl⟩ := nf_pos h0
        rw [hA1, hN1] at HS1
        rw [List.length_drop] at hnl
        have hn0 : ((n : Int) == 0) = false := by simp; omega
        clear h0 hA1 hN1
        by_cases ht : 300 < t
        · have HN := Lib.hid (unA_last HU.out (oneF_tag hnf ht))
          have HNE : Hid (xs.drop k ≠ []) := Lib.hid (fun e => by
            have : (xs.drop k).length = 0 := by rw [e]; rfl
            rw [List.length_drop] at this; omega)
          have ht' : decide ((300 : Int) < (t : Int)) = true := decide_eq_true (by omega)
          clear hnf
          go_wp2_with fail
          refine HS1.out.mono ?_
          rintro e w1 ⟨rfl, rfl⟩
          go_wp2
          go_ret2
          exact ⟨_, [], false, rfl, FOwn.none _ _, Nat.zero_le _, HB.out, .inr ⟨by rw [HN.out, if_neg HNE.out], rfl, rfl⟩⟩
        · have ht' : decide ((300 : Int) < (t : Int)) = false := decide_eq_false (by omega)
          by_cases h20 : nfN (xs.drop (k + n)) = 0
          · have hd2 : nf ((xs.drop k).drop n) = none := by rw [List.drop_drop]; exact nf_zero h20
            have HN := Lib.hid (unA_last HU.out (oneF_no2 hnf hd2))
            have HNE : Hid (xs.drop k ≠ []) := Lib.hid (fun e => by
              have : (xs.drop k).length = 0 := by rw [e]; rfl
              rw [List.length_drop] at this; omega)
            by_cases hkn : k + n < xs.length
            · have HS2 : Hid (Calls Tryd.prog 36 #[.slice (some ⟨b, off + (k + n), none⟩) (xs.length - (k + n)) (c - (k + n))] wr fun e w' => e = .returned (.tuple #[.int .i64 (nfA (xs.drop (k + n))), .int .i64 0]) ∧ wr = w') := Lib.hid (by rw [← h20]; exact rgr_any wr _ _ (rdc_drop HR.out (by omega)).rds (by rw [List.length_drop]; omega) (all_drop8 HB8.out (k + n)))
              clear hd2 hnf h20
              generalize nfA (xs.drop (k + n)) = T2 at *
              go_wp2_with fail
              refine HS1.out.mono ?_
              rintro e w1 ⟨rfl, rfl⟩
              go_wp2_with fail
              refine HS2.out.mono ?_
              rintro e w1 ⟨rfl, rfl⟩
              go_wp2
              go_ret2
              exact ⟨_, [], false, rfl, FOwn.none _ _, Nat.zero_le _, HB.out, .inr ⟨by rw [HN.out, if_neg HNE.out], rfl, rfl⟩⟩
            · have HS2 : Hid (∀ A' c', Calls Tryd.prog 36 #[.slice A' (xs.length - (k + n)) c'] wr fun e w' => e = .returned (.tuple #[.int .i64 (nfA []), .int .i64 0]) ∧ wr = w') := Lib.hid (fun A' c' => by
                have e0 : xs.length - (k + n) = 0 := by omega
                have e1 : nfN [] = 0 := by unfold nfN; rw [nf_end (by simp)]
                rw [← e1, e0]
                exact rgr_any wr _ [] ⟨A', c', rfl, fun h => absurd h (by simp)⟩ (by simp) rfl)
              clear hd2 hnf h20
              generalize nfA [] = T2 at *
              go_wp2_with fail
              refine HS1.out.mono ?_
              rintro e w1 ⟨rfl, rfl⟩
              go_wp2_with fail
              all_goals
                refine (HS2.out _ _).mono ?_
                rintro e w1 ⟨rfl, rfl⟩
              all_goals go_wp2
              all_goals
                go_ret2
                exact ⟨_, [], false, rfl, FOwn.none _ _, Nat.zero_le _, HB.out, .inr ⟨by rw [HN.out, if_neg HNE.out], rfl, rfl⟩⟩
          · obtain ⟨s, m, hnf2, hA2, hN2, hs6, hm1, hml⟩ := nf_pos h20
            rw [List.length_drop] at hml
            have hm0 : ((m : Int) == 0) = false := by simp; omega
            have HS2 : Hid (Calls Tryd.prog 36 #[.slice (some ⟨b, off + (k + n), none⟩) (xs.length - (k + n)) (c - (k + n))] wr fun e w' => e = .returned (.tuple #[.int .i64 (s : Int), .int .i64 (m : Int)]) ∧ wr = w') := Lib.hid (by rw [← hA2, ← hN2]; exact rgr_any wr _ _ (rdc_drop HR.out (by omega)).rds (by rw [List.length_drop]; omega) (all_drop8 HB8.out (k + n)))
            have hd2 : nf ((xs.drop k).drop n) = some (s, m) := by rw [List.drop_drop]; exact hnf2
            clear h20 hA2 hN2 hnf2
            by_cases hlong : (xs.length : Int) - (k : Int) - (n : Int) - (m : Int) < (s : Int)
            · have HN := Lib.hid (unA_last HU.out (oneF_long hnf hd2 (.inl (by rw [List.length_drop]; omega))))
              have HNE : Hid (xs.drop k ≠ []) := Lib.hid (fun e => by
                have : (xs.drop k).length = 0 := by rw [e]; rfl
                rw [List.length_drop] at this; omega)
              have hdl : decide ((xs.length : Int) - (k : Int) - (n : Int) - (m : Int) < (s : Int)) = true := decide_eq_true hlong
              clear hd2 hnf hlong
              go_wp2_with fail
              refine HS1.out.mono ?_
              rintro e w1 ⟨rfl, rfl⟩
              go_wp2_with fail
              refine HS2.out.mono ?_
              rintro e w1 ⟨rfl, rfl⟩
              go_wp2
              go_ret2
              exact ⟨_, [], false, rfl, FOwn.none _ _, Nat.zero_le _, HB.out, .inr ⟨by rw [HN.out, if_neg HNE.out], rfl, rfl⟩⟩
            · have hdl : decide ((xs.length : Int) - (k : Int) - (n : Int) - (m : Int) < (s : Int)) = false := decide_eq_false hlong
              by_cases hs : 16 < s
              · have HN := Lib.hid (unA_last HU.out (oneF_long hnf hd2 (.inr hs)))
                have HNE : Hid (xs.drop k ≠ []) := Lib.hid (fun e => by
                  have : (xs.drop k).length = 0 := by rw [e]; rfl
                  rw [List.length_drop] at this; omega)
                have hds : decide ((16 : Int) < (s : Int)) = true := decide_eq_true (by omega)
                clear hd2 hnf
                go_wp2_with fail
                refine HS1.out.mono ?_
                rintro e w1 ⟨rfl, rfl⟩
                go_wp2_with fail
                refine HS2.out.mono ?_
                rintro e w1 ⟨rfl, rfl⟩
                go_wp2
                go_ret2
                exact ⟨_, [], false, rfl, FOwn.none _ _, Nat.zero_le _, HB.out, .inr ⟨by rw [HN.out, if_neg HNE.out], rfl, rfl⟩⟩
              · have hds : decide ((16 : Int) < (s : Int)) = false := decide_eq_false (by omega)
                have hfit : k + n + m + s ≤ xs.length := by omega
                have HOK := Lib.hid (oneF_ok hnf hd2 (by omega) (by omega) (by rw [List.length_drop]; omega) (all_drop8 HB8.out k))
                clear hd2 hnf hlong
                go_wp2_with fail
                refine HS1.out.mono ?_
                rintro e w1 ⟨rfl, rfl⟩
                go_wp2_with fail
                refine HS2.out.mono ?_
                rintro e w1 ⟨rfl, rfl⟩
                by_cases hce : c = k + n + m
                · have hs0 : s = 0 := by omega
                  have HS0 := Lib.hid hs0
                  clear hs0
                  subst hce
                  have hz := HB.out.size
                  have hba := (Below.refl wr.heap.size wr).alloc (Nat.le_refl _) (.cells #[] 3)
                  have HE1 := Lib.hid (OwnL.empty wr wr.heap.size (Nat.le_refl _))
                  have HM1 : Hid (∀ (L c' : Nat), L = s → Rds (wr.alloc (.cells #[] 3)) (.slice (some ⟨b, off, none⟩) L c') ((xs.drop (k + n + m)).take s) ∧ Proper (.slice (some ⟨b, off, none⟩) L c')) := Lib.hid (fun L c' hL => by
                    have hs0 := HS0.out
                    rw [hL]
                    refine ⟨⟨_, _, by rw [List.length_take, hs0, Nat.zero_min], fun h0 => by rw [List.length_take, hs0] at h0; omega⟩, fun n c e => by injection e with a; cases a⟩)
                  have hlb : ((xs.drop (k + n + m)).take s).length = s := by rw [List.length_take, List.length_drop]; omega
                  have HSTEP := Lib.hid (fun u => unA_more (u := u) HU.out HOK.out)
                  rw [List.drop_drop, List.drop_drop, show k + (n + m) = k + n + m from by omega, show k + (n + m + s) = k + n + m + s from by omega] at HSTEP
                  have HLB := Lib.hid hlb
                  clear hba hlb HOK HU
                  generalize (xs.drop (k + n + m)).take s = bs at *
                  go_wp2_with (at_builtin; go_loud (refine append_rowV rfl (.tmp 57) (.tmp 71) rfl wr.heap.size _ _ [] bs rfl rfl HE1.out (HM1.out _ _ (by omega)).1 (HM1.out _ _ (by omega)).2 (by rw [HLB.out]; simp; omega) (by simp) ?_); intro v2 w2 hown2 hg2 hb2 hz2; refine Hid.out ?_)
                  refine Lib.hid ?_
                  have hbw : Below wr.heap.size wr w2 := ((Below.refl wr.heap.size wr).alloc (Nat.le_refl _) (.cells #[] 3)).trans hb2
                  have HO2 := Lib.hid (HO.out.keeps (Keeps.of_below (g := b) hbw) hbl)
                  have HV2 : Hid (OwnL w2 wr.heap.size v2 bs) := Lib.hid (by simpa using hown2)
                  have HB2 := Lib.hid (HB.out.trans (hbw.mono hz))
                  have HNE : Hid (∀ g, v2.ownBlock = some g → (Value.slice Ao Q.length co).ownBlock ≠ some g) := Lib.hid (fun g hg e => by
                    have := (World.ownsRow.lt HV2.out g hg).1
                    have := (World.ownsRow.lt HO.out.top g e).2
                    omega)
                  have hzw : wr.heap.size ≤ w2.heap.size := hbw.size
                  obtain ⟨n2', A2, c2, hf2⟩ : ∃ n A d, v2 = .slice A n d := ⟨_, HV2.out.form⟩
                  subst hf2
                  clear hown2 hg2 hb2 hz2 hbw HE1 HM1 HR
                  go_wp2_with (at_builtin; refine wpList_append_own_at _ rfl (.tmp 55) (.tmp 74) 23 rfl w.heap.size 48 i0 (.agg #[.int .i64 0, .slice none 0 0]) 2 32 Tryd.underlying23 HI.out HZ0.out HZ1.out HZ2.out rfl (by decide) _ _ _ rfl (HO2.out.keeps ((Keeps.refl b w2).alloc (.cells #[.int .i64 (t : Int), .slice A2 n2' c2] 48)) hbl).top ⟨w2.heap.size, 0, none⟩ 1 1 [.int .i64 (t : Int), .slice A2 n2' c2] rfl rfl (cell_two_new _ _ _ _) (two_cells _ _ rfl rfl) (by rw [mx]; omega) (by omega) (by simp; omega) ?_; intro v9 w9 hown9 hg9 hnil hat9; clear hnil)
                  have HF9 := Lib.hid (FOwn.push (f := ⟨(t : Int), bs⟩) (HO2.out.keeps ((Keeps.refl b w2).alloc (.cells #[.int .i64 (t : Int), .slice A2 n2' c2] 48)) hbl) hg9 hat9 hown9 ((HV2.out.keeps ((Keeps.refl b w2).alloc (.cells #[.int .i64 (t : Int), .slice A2 n2' c2] 48)) (by omega)).base hz) HNE.out)
                  have HB9 := Lib.hid ((HB2.out.alloc (by omega) (.cells #[.int .i64 (t : Int), .slice A2 n2' c2] 48)).grown hg9 (by simp; omega) (fun j hj => (World.ownsRow.lt HO2.out.top j hj).1))
                  obtain ⟨n9, A9, c9, hf9⟩ : ∃ n A d, v9 = .slice A n d := ⟨_, HF9.out.form⟩
                  subst hf9
                  clear hown9 hg9 hat9
                  go_roundw
                  case rel => exact ⟨Q ++ [(⟨(t : Int), bs⟩, .slice A2 n2' c2)], k + n + m + s, by go_num, Lib.hid HF9.out, Lib.hid (HSTEP.out _), by simp; omega, by omega, Lib.hid HB9.out⟩
                  case measure => simp [intOf]; omega
                · have hz := HB.out.size
                  have hba := (Below.refl wr.heap.size wr).alloc (Nat.le_refl _) (.cells #[] 3)
                  have HE1 := Lib.hid (OwnL.empty wr wr.heap.size (Nat.le_refl _))
                  have HM1 : Hid (∀ (L c' : Nat), L = s → Rds (wr.alloc (.cells #[] 3)) (.slice (some ⟨b, off + (k + n + m), none⟩) L c') ((xs.drop (k + n + m)).take s) ∧ Proper (.slice (some ⟨b, off + (k + n + m), none⟩) L c')) := Lib.hid (fun L c' hL => by
                    rw [hL]
                    exact rds_mid (s := s) (p := k + n + m) (HR.out.below hba HR.out.lies) hfit c')
                  have hlb : ((xs.drop (k + n + m)).take s).length = s := by rw [List.length_take, List.length_drop]; omega
                  have HSTEP := Lib.hid (fun u => unA_more (u := u) HU.out HOK.out)
                  rw [List.drop_drop, List.drop_drop, show k + (n + m) = k + n + m from by omega, show k + (n + m + s) = k + n + m + s from by omega] at HSTEP
                  have HLB := Lib.hid hlb
                  clear hba hlb HOK HU
                  generalize (xs.drop (k + n + m)).take s = bs at *
                  go_wp2_with (at_builtin; go_loud (refine append_rowV rfl (.tmp 57) (.tmp 71) rfl wr.heap.size _ _ [] bs rfl rfl HE1.out (HM1.out _ _ (by omega)).1 (HM1.out _ _ (by omega)).2 (by rw [HLB.out]; simp; omega) (by simp) ?_); intro v2 w2 hown2 hg2 hb2 hz2; refine Hid.out ?_)
                  refine Lib.hid ?_
                  have hbw : Below wr.heap.size wr w2 := ((Below.refl wr.heap.size wr).alloc (Nat.le_refl _) (.cells #[] 3)).trans hb2
                  have HO2 := Lib.hid (HO.out.keeps (Keeps.of_below (g := b) hbw) hbl)
                  have HV2 : Hid (OwnL w2 wr.heap.size v2 bs) := Lib.hid (by simpa using hown2)
                  have HB2 := Lib.hid (HB.out.trans (hbw.mono hz))
                  have HNE : Hid (∀ g, v2.ownBlock = some g → (Value.slice Ao Q.length co).ownBlock ≠ some g) := Lib.hid (fun g hg e => by
                    have := (World.ownsRow.lt HV2.out g hg).1
                    have := (World.ownsRow.lt HO.out.top g e).2
                    omega)
                  have hzw : wr.heap.size ≤ w2.heap.size := hbw.size
                  obtain ⟨n2', A2, c2, hf2⟩ : ∃ n A d, v2 = .slice A n d := ⟨_, HV2.out.form⟩
                  subst hf2
                  clear hown2 hg2 hb2 hz2 hbw HE1 HM1 HR
                  go_wp2_with (at_builtin; refine wpList_append_own_at _ rfl (.tmp 55) (.tmp 74) 23 rfl w.heap.size 48 i0 (.agg #[.int .i64 0, .slice none 0 0]) 2 32 Tryd.underlying23 HI.out HZ0.out HZ1.out HZ2.out rfl (by decide) _ _ _ rfl (HO2.out.keeps ((Keeps.refl b w2).alloc (.cells #[.int .i64 (t : Int), .slice A2 n2' c2] 48)) hbl).top ⟨w2.heap.size, 0, none⟩ 1 1 [.int .i64 (t : Int), .slice A2 n2' c2] rfl rfl (cell_two_new _ _ _ _) (two_cells _ _ rfl rfl) (by rw [mx]; omega) (by omega) (by simp; omega) ?_; intro v9 w9 hown9 hg9 hnil hat9; clear hnil)
                  have HF9 := Lib.hid (FOwn.push (f := ⟨(t : Int), bs⟩) (HO2.out.keeps ((Keeps.refl b w2).alloc (.cells #[.int .i64 (t : Int), .slice A2 n2' c2] 48)) hbl) hg9 hat9 hown9 ((HV2.out.keeps ((Keeps.refl b w2).alloc (.cells #[.int .i64 (t : Int), .slice A2 n2' c2] 48)) (by omega)).base hz) HNE.out)
                  have HB9 := Lib.hid ((HB2.out.alloc (by omega) (.cells #[.int .i64 (t : Int), .slice A2 n2' c2] 48)).grown hg9 (by simp; omega) (fun j hj => (World.ownsRow.lt HO2.out.top j hj).1))
                  obtain ⟨n9, A9, c9, hf9⟩ : ∃ n A d, v9 = .slice A n d := ⟨_, HF9.out.form⟩
                  subst hf9
                  clear hown9 hg9 hat9
                  go_roundw
                  case rel => exact ⟨Q ++ [(⟨(t : Int), bs⟩, .slice A2 n2' c2)], k + n + m + s, by go_num, Lib.hid HF9.out, Lib.hid (HSTEP.out _), by simp; omega, by omega, Lib.hid HB9.out⟩
                  case measure => simp [intOf]; omega
    · obtain rfl : k = xs.length := by omega
      have HN : Hid (unA xs = some (Q.map (·.1))) := Lib.hid (by rw [HU.out, List.drop_length, unA_nil]; simp)
      go_wp2
      go_ret2
      exact ⟨_, Q, decide ((Q.length : Int) ≤ 5), rfl, HO.out, by omega, HB.out, .inl ⟨HN.out, decide_eq_decide.2 (by omega)⟩⟩
end Go.Proofs.YthogkhifgkgplaaDoor
