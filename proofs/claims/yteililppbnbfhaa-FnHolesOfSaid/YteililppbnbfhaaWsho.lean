/-
  The walks of the model's functions that look for holes. Conditions: where the list lies, and its length.
-/
import Derived.Test.YteililppbnbfhaaHol
import Derived.Test.YteililppbnbfhaaWeq
import Derived.Test.YteililppbnbfhaaWcn
import Derived.Test.YteililppbnbfhaaWcu
namespace Go.Proofs.Yteililppbnbfhaa
open Go.RowKit
set_option linter.unusedVariables false

set_option maxHeartbeats 3200000 in
theorem sho_any (w : World) (v : Value) (ps : List Pc) (N : Nat) (h : PRds w v ps) (hn : ps.length ≤ 1000) (hall : ps.all pcB = true) (hN1 : 1 ≤ N) (hN2 : N ≤ 60) :
    Calls Try.prog 27 #[v, .int .i64 N] w fun e w' => ∃ u R, e = .returned u ∧ RunI N (fun j => !hasB ps j) (fun e => decide (e < (N : Int))) N R ∧ OwnP w' w.heap.size u R ∧ Below w.heap.size w w' := by
  have HCV := Lib.hid (cov_any w v ps h hn hall)
  clear hall hn
  generalize hasB ps = f at *
  obtain ⟨A, c, rfl, _⟩ := h
  obtain ⟨i0, hi, hz0, hz1, hz2⟩ := info_parts infoP
  have HI := Lib.hid hi
  have HZ0 := Lib.hid hz0
  have HZ1 := Lib.hid hz1
  have HZ2 := Lib.hid hz2
  clear hi hz0 hz1 hz2
  go_enter Try.func27, Try.ntmps27
  go_wp2_with (go_at_call 41; refine HCV.out.mono ?_; rintro e w2 ⟨rfl, ho2, hb2⟩; have HO2 := Lib.hid ho2; have HB2 := Lib.hid hb2; clear ho2 hb2)
  have hg2 : w.heap.size < w2.heap.size := (World.ownsRow.lt HO2.out _ rfl).2
  have HM := Lib.hid (World.ownsRow_made (base := w.heap.size) (e := 38) (size := 3) w2 #[] 0 (by omega) (by unfold maxLen; omega) rfl)
  have HOB : Hid (OwnB (w2.alloc (.cells #[] 38)) w.heap.size w.heap.size f) := Lib.hid (World.ownsRow.alloc HO2.out _)
  have HB3 : Hid (Below w.heap.size w (w2.alloc (.cells #[] 38))) := Lib.hid (HB2.out.alloc (by omega) _)
  have hg3 : w2.heap.size + 1 = (w2.alloc (.cells #[] 38)).heap.size := by simp
  generalize hw3 : w2.alloc (.cells #[] 38) = w3 at *
  clear hw3 HO2 HB2
  go_loopw [6, 7] (fun lv kv wr => ∃ (K : Nat) (acc : List Pc) (A9 : Option Addr) (c9 : Nat), kv = .int .i64 K ∧ lv = .slice A9 acc.length c9 ∧ OwnP wr w.heap.size lv acc ∧ (∀ g, lv.ownBlock = some g → w.heap.size < g) ∧ RunI N (fun j => !f j) (fun e => decide (e < (N : Int))) K acc ∧ OwnB wr w.heap.size w.heap.size f ∧ Below w.heap.size w wr) (fun _ kv _ => N - (intOf kv).toNat)
  case atStart => exact ⟨0, [], some ⟨w2.heap.size, 0, none⟩, 0, rfl, rfl, HM.out, (fun g hg => by have e : some w2.heap.size = some g := hg; cases e; exact hg2), RunI.start _ _ _, HOB.out, HB3.out⟩
  case round =>
    obtain ⟨K, acc, A9, c9, rfl, rfl, hown, hgb, hR, hB, hbel⟩ := hrel
    have HO := Lib.hid hown
    have HR := Lib.hid hR
    have HB := Lib.hid hB
    have HBEL := Lib.hid hbel
    have HGB := Lib.hid hgb
    have hlen := hR.len
    have hK60 := hR.le
    clear hown hR hB hgb hbel
    by_cases hlt : K < N
    · have hd : decide ((K : Int) < (N : Int)) = true := by simp; omega
      go_wp2
      go_loop [8] (fun sv => ∃ s : Nat, sv = .int .i64 s ∧ K + s ≤ N ∧ ∀ i, i < s → (!f (K + i)) = true) (fun sv => N - (intOf sv).toNat)
      case atStart => exact ⟨0, rfl, by omega, fun i hi => by omega⟩
      case round =>
        obtain ⟨s, rfl, hs, hrun⟩ := hrel
        have HRUN := Lib.hid hrun
        clear hrun
        have ks0 : (0 : Int) ≤ (K : Int) + (s : Int) := by omega
        by_cases hlt2 : K + s < N
        · have hd2 : decide ((K : Int) + (s : Int) < (N : Int)) = true := by simp; omega
          have hks : (K : Int) + (s : Int) < 60 := by omega
          have hcl := HB.out.cell (K + s) (by omega)
          have hkn : ((K : Int) + (s : Int)).toNat = K + s := by omega
          cases hf : f (K + s)
          · rw [hf] at hcl
            have HF := Lib.hid hf
            clear hf
            go_wp2
            go_round
            case rel => exact ⟨s + 1, by go_num, by omega, fun i hi => by
              rcases (show i < s ∨ i = s from by omega) with h1 | h1
              · exact HRUN.out i h1
              · rw [h1, HF.out]; rfl⟩
            case measure => simp [intOf]; omega
          · rw [hf] at hcl
            have HF := Lib.hid hf
            clear hf
            by_cases hs0 : s = 0
            · subst hs0
              have HK := Lib.hid (HR.out.skip hlt (by show (!f K) = false; have := HF.out; rw [Nat.add_zero] at this; rw [this]; rfl))
              have e1 : max (0 : Int) 1 = 1 := by decide
              rw [Nat.add_zero] at hcl
              skip
              go_wp2
              all_goals
                go_roundw
                case rel => exact ⟨K + 1, acc, A9, c9, by first | rfl | go_num | (congr 1; omega), rfl, HO.out, HGB.out, HK.out, HB.out, HBEL.out⟩
                case measure => simp [intOf]; omega
            · have hk0 := HR.out.run (s := s) (by omega) (by omega) HRUN.out (.inr (by show (!f (K + s)) = false; rw [HF.out]; rfl))
              simp only [hd2] at hk0
              have HK := Lib.hid hk0
              clear hk0
              have q1 : decide ((0 : Int) < (s : Int)) = true := by simp; omega
              have q2 : max (s : Int) 1 = s := by omega
              skip
              go_wp2_with (at_builtin; refine wpList_append_own _ rfl (.tmp 33) (.tmp 42) 24 rfl w.heap.size 38 i0 (.agg #[.int .i64 0, .int .i64 0, .bool false]) 3 24 Try.underlying24 HI.out HZ0.out HZ1.out HZ2.out rfl (by decide) _ _ _ rfl (World.ownsRow.alloc HO.out _) ⟨wr.heap.size, 0, none⟩ 1 1 (pcs [⟨K, s, true⟩]) rfl rfl (new3 _ _ _ _ _) (one3 _ _ _) (by rw [mx]; omega) (by omega) (by have := HBEL.out.size; simp; omega) ?_; intro v9 w9 hown9 hg9 hnil; clear hnil; obtain ⟨A10, c10, rfl⟩ := own_form3 hown9)
              all_goals
                have R2 := push3_below HO.out hg9 HBEL.out HBEL.out.size
                have hB9 : OwnB w9 w.heap.size w.heap.size f := World.ownsRow.kept (World.ownsRow.alloc HB.out _) hg9 (.inr (fun e => absurd (show w.heap.size < w.heap.size from HGB.out _ e.symm) (Nat.lt_irrefl _)))
                have hgb9 : ∀ g, (Value.slice A10 (acc.length + 1) c10).ownBlock = some g → w.heap.size < g := fun g hg => by
                  have h1 := (World.ownsRow.lt hown9 g hg).1
                  rcases (show g = w.heap.size ∨ w.heap.size < g from by omega) with h2 | h2
                  · exfalso
                    subst h2
                    rcases hown9.2 with ⟨he, _⟩ | ⟨g', cap', cur, he, _, hh, _⟩
                    · rw [he] at hg; simp [Value.ownBlock] at hg
                    · rw [he] at hg
                      have e3 : g' = w.heap.size := by simpa [Value.ownBlock] using hg
                      subst e3
                      rcases hB9.2 with ⟨he2, _⟩ | ⟨g2, cap2, cur2, he2, _, hh2, _⟩
                      · simp at he2
                      · simp only [Value.slice.injEq, Option.some.injEq, Addr.mk.injEq, and_true, true_and] at he2
                        rw [he2.1, hh2] at hh
                        simp at hh
                  · exact h2
                go_roundw
                case rel => exact ⟨K + s, acc ++ [⟨K, s, true⟩], A10, c10, by first | rfl | go_num | (congr 1; omega), by rw [List.length_append]; rfl, ownP_snoc hown9, hgb9, HK.out, hB9, R2.1⟩
                case measure => simp [intOf]; omega
        · have hd2 : decide ((K : Int) + (s : Int) < (N : Int)) = false := by simp; omega
          have hks : K + s = N := by omega
          have HKS := Lib.hid hks
          by_cases hs0 : s = 0
          · subst hs0
            exfalso; omega
          · have hk0 := HR.out.run (s := s) (by omega) (by omega) HRUN.out (.inl HKS.out)
            simp only [hd2] at hk0
            have HK := Lib.hid hk0
            clear hk0
            have q1 : decide ((0 : Int) < (s : Int)) = true := by simp; omega
            have q2 : max (s : Int) 1 = s := by omega
            clear hks
            go_wp2_with (at_builtin; refine wpList_append_own _ rfl (.tmp 33) (.tmp 42) 24 rfl w.heap.size 38 i0 (.agg #[.int .i64 0, .int .i64 0, .bool false]) 3 24 Try.underlying24 HI.out HZ0.out HZ1.out HZ2.out rfl (by decide) _ _ _ rfl (World.ownsRow.alloc HO.out _) ⟨wr.heap.size, 0, none⟩ 1 1 (pcs [⟨K, s, false⟩]) rfl rfl (new3 _ _ _ _ _) (one3 _ _ _) (by rw [mx]; omega) (by omega) (by have := HBEL.out.size; simp; omega) ?_; intro v9 w9 hown9 hg9 hnil; clear hnil; obtain ⟨A10, c10, rfl⟩ := own_form3 hown9)
            all_goals
              have R2 := push3_below HO.out hg9 HBEL.out HBEL.out.size
              have hB9 : OwnB w9 w.heap.size w.heap.size f := World.ownsRow.kept (World.ownsRow.alloc HB.out _) hg9 (.inr (fun e => absurd (show w.heap.size < w.heap.size from HGB.out _ e.symm) (Nat.lt_irrefl _)))
              have hgb9 : ∀ g, (Value.slice A10 (acc.length + 1) c10).ownBlock = some g → w.heap.size < g := fun g hg => by
                have h1 := (World.ownsRow.lt hown9 g hg).1
                rcases (show g = w.heap.size ∨ w.heap.size < g from by omega) with h2 | h2
                · exfalso
                  subst h2
                  rcases hown9.2 with ⟨he, _⟩ | ⟨g', cap', cur, he, _, hh, _⟩
                  · rw [he] at hg; simp [Value.ownBlock] at hg
                  · rw [he] at hg
                    have e3 : g' = w.heap.size := by simpa [Value.ownBlock] using hg
                    subst e3
                    rcases hB9.2 with ⟨he2, _⟩ | ⟨g2, cap2, cur2, he2, _, hh2, _⟩
                    · simp at he2
                    · simp only [Value.slice.injEq, Option.some.injEq, Addr.mk.injEq, and_true, true_and] at he2
                      rw [he2.1, hh2] at hh
                      simp at hh
                · exact h2
              go_roundw
              case rel => exact ⟨K + s, acc ++ [⟨K, s, false⟩], A10, c10, by first | rfl | go_num | (congr 1; omega), by rw [List.length_append]; rfl, ownP_snoc hown9, hgb9, HK.out, hB9, R2.1⟩
              case measure => simp [intOf]; omega
    · have hd : decide ((K : Int) < (N : Int)) = false := by simp; omega
      have hK : K = N := by omega
      subst hK
      go_wp2
      go_ret
      exact ⟨_, acc, rfl, HR.out, HO.out, HBEL.out⟩

set_option maxHeartbeats 1600000 in
theorem sHO_any (w : World) (v : Value) (ps : List Pc) (L : Int) (h : PRds w v ps) (hn : ps.length ≤ 1048576) :
    Calls Try.prog 10 #[v, .int .i64 L] w (HPost ps L w) := by
  have H1 := svp_any w v ps h hn
  have H2 := fun W => inr_any W L 1 60
  have HR0 := Lib.hid h
  cases hb : okH ps L
  · have HB := Lib.hid (HP.none hb)
    unfold okH at hb
    obtain ⟨A, c, rfl, _⟩ := h
    cases hv : vpB ps
    · rw [hv] at H1
      have HH1 := Lib.hid H1
      clear H1 H2 hb hv
      go_enter Try.func10, Try.ntmps10
      go_wp2_with (go_at_call 25; refine HH1.out.mono ?_; rintro e w' ⟨rfl, m, rfl⟩)
      go_ret
      exact ⟨_, [], rfl, HB.out, OwnP.nil _ _, below_drewN (Below.refl _ _) m⟩
    · rw [hv, Bool.true_and] at hb
      rw [hv] at H1
      rw [hb] at H2
      have HH1 := Lib.hid H1
      have HH2 := Lib.hid H2
      clear H1 H2 hb hv
      go_enter Try.func10, Try.ntmps10
      go_wp2_with (first | (go_at_call 25; refine HH1.out.mono ?_; rintro e w' ⟨rfl, m, rfl⟩) | (go_at_call 26; refine (HH2.out _).mono ?_; rintro e w' ⟨rfl, rfl⟩))
      go_ret
      exact ⟨_, [], rfl, HB.out, OwnP.nil _ _, below_drewN (Below.refl _ _) m⟩
  · obtain ⟨hvp, hall, h20, N, rfl, hN1, hN2⟩ := okH_valid hb
    rw [hvp] at H1
    have t2 : (decide ((1 : Int) ≤ (N : Int)) && decide ((N : Int) ≤ 60)) = true := by simp; omega
    rw [t2] at H2
    have HH1 := Lib.hid H1
    have HH2 := Lib.hid H2
    have HH3 := Lib.hid (fun m => sho_any (w.drewN m) v ps N (h.drewN m) (by omega) hall hN1 hN2)
    have HJ := Lib.hid (fun acc => HP.of_run (acc := acc) hb)
    clear H1 H2 t2 hvp hall hb
    obtain ⟨A, c, rfl, _⟩ := h
    go_enter Try.func10, Try.ntmps10
    go_wp2_with (first | (go_at_call 25; refine HH1.out.mono ?_; rintro e w' ⟨rfl, m, rfl⟩) | (go_at_call 26; refine (HH2.out _).mono ?_; rintro e w' ⟨rfl, rfl⟩) | (go_at_call 27; refine (HH3.out _).mono ?_; rintro e w2 ⟨u, R, rfl, hrun, ho, hb2⟩; have HO := Lib.hid ho; have HB2 := Lib.hid hb2; have HRUN := Lib.hid hrun; clear ho hb2 hrun; obtain ⟨A9, c9, rfl⟩ := own_form3 HO.out))
    go_ret
    exact ⟨_, R, rfl, HJ.out R HRUN.out, HO.out, (below_drewN (Below.refl _ _) _).trans HB2.out⟩
end Go.Proofs.Yteililppbnbfhaa
