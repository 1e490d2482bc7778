/-
  The walk of the model's JoinPieces. Conditions: where the list lies, and its length.
-/
import Derived.Test.YtpkajiflbejajaaWcn
import Derived.Test.YtpkajiflbejajaaPrv
import Derived.Test.YtpkajiflbejajaaWeq
import Derived.Test.YtpkajiflbejajaaWcu
namespace Go.Proofs.Ytpkajiflbejajaa
open Go.RowKit
set_option linter.unusedVariables false

theorem JP.of_run {ps acc : List Pc} (ho : okE ps = true) (h : RunI 60 (hasB ps) (fun e => e != fE ps) 60 acc) : JP ps acc := by
  refine ⟨fun _ => ⟨h.norm, fun k => ?_, h.flag⟩, fun h' => by rw [ho] at h'; cases h'⟩
  rw [h.inn k]
  constructor
  · rintro ⟨i, rfl, _, h3⟩
    exact (hasB_iff ps i).1 h3
  · intro hk
    have := inn_bd (okE_valid ho).1 hk
    refine ⟨k.toNat, by omega, by omega, (hasB_iff ps k.toNat).2 ?_⟩
    rwa [show ((k.toNat : Nat) : Int) = k from by omega]

/-- What JoinPieces leaves. -/
def JPost (ps : List Pc) (w : World) (e : Ending) (w' : World) : Prop := ∃ u R, e = .returned u ∧ JP ps R ∧ OwnP w' w.heap.size u R ∧ Below w.heap.size w w'
set_option maxHeartbeats 3200000 in
theorem sJP_any (w : World) (v : Value) (ps : List Pc) (h : PRds w v ps) (hn : ps.length ≤ 1048576) :
    Calls Try.prog 7 #[v] w (JPost ps w) := by
  have hE := sEO_any w v ps h hn
  cases hok : okE ps
  · have hjp : JP ps [] := ⟨(fun h => by rw [hok] at h; cases h), fun _ => rfl⟩
    rw [hok, show endR ps = -1 from by simp [endR, hok]] at hE
    have HE := Lib.hid hE
    have HJ := Lib.hid hjp
    clear hE hok hjp
    obtain ⟨A, c, rfl, _⟩ := h
    go_enter Try.func7, Try.ntmps7
    go_wp2_with (go_at_call 21; refine HE.out.mono ?_; rintro e w' ⟨rfl, m, rfl⟩)
    go_ret
    exact ⟨_, [], rfl, HJ.out, OwnP.nil _ _, below_drewN (Below.refl _ _) m⟩
  · obtain ⟨hall, h20, hend⟩ := okE_valid hok
    rw [hok, hend] at hE
    have HE := Lib.hid hE
    have HJ := Lib.hid (fun acc h => JP.of_run (acc := acc) hok h)
    have HCV := Lib.hid (fun m => cov_any (w.drewN m) v ps (h.drewN m) (by omega) hall)
    have hEb := fE_bd hall
    clear hE hok hend hall
    generalize fE ps = E at *
    generalize hasB ps = f at *
    obtain ⟨A, c, rfl, _⟩ := h
    obtain ⟨i0, hi, hz0, hz1, hz2⟩ := info_parts infoP
    have HI := Lib.hid hi
    have HZ0 := Lib.hid hz0
    have HZ1 := Lib.hid hz1
    have HZ2 := Lib.hid hz2
    clear hi hz0 hz1 hz2
    go_enter Try.func7, Try.ntmps7
    go_wp2_with (first | (go_at_call 21; refine HE.out.mono ?_; rintro e w' ⟨rfl, m, rfl⟩) | (go_at_call 22; refine (HCV.out _).mono ?_; rintro e w2 ⟨rfl, ho2, hb2⟩; have HO2 := Lib.hid ho2; have HB2 := Lib.hid (show Below w.heap.size w w2 from (below_drewN (Below.refl _ _) _).trans hb2); clear ho2 hb2))
    have hg2 : w.heap.size < w2.heap.size := (World.ownsRow.lt HO2.out _ rfl).2
    have HM := Lib.hid (World.ownsRow_made (base := w.heap.size) (e := 33) (size := 3) w2 #[] 0 (by omega) (by unfold maxLen; omega) rfl)
    have HOB : Hid (OwnB (w2.alloc (.cells #[] 33)) w.heap.size w.heap.size f) := Lib.hid (World.ownsRow.alloc HO2.out _)
    have HB3 : Hid (Below w.heap.size w (w2.alloc (.cells #[] 33))) := Lib.hid (HB2.out.alloc (by omega) _)
    have hg3 : w2.heap.size + 1 = (w2.alloc (.cells #[] 33)).heap.size := by simp
    generalize hw3 : w2.alloc (.cells #[] 33) = w3 at *
    clear hw3 HO2 HB2
    go_loopw [6, 7] (fun lv kv wr => ∃ (K : Nat) (acc : List Pc) (A9 : Option Addr) (c9 : Nat), kv = .int .i64 K ∧ lv = .slice A9 acc.length c9 ∧ OwnP wr w.heap.size lv acc ∧ (∀ g, lv.ownBlock = some g → w.heap.size < g) ∧ RunI 60 f (fun e => e != E) K acc ∧ OwnB wr w.heap.size w.heap.size f ∧ Below w.heap.size w wr) (fun _ kv _ => 60 - (intOf kv).toNat)
    case atStart => exact ⟨0, [], some ⟨w2.heap.size, 0, none⟩, 0, rfl, rfl, HM.out, (fun g hg => by have e : some w2.heap.size = some g := hg; cases e; exact hg2), RunI.start _ _ _, HOB.out, HB3.out⟩
    case round =>
      obtain ⟨K, acc, A9, c9, rfl, rfl, hown, hgb, hR, hB, hbel⟩ := hrel
      have HO := Lib.hid hown
      have HR := Lib.hid hR
      have HB := Lib.hid hB
      have HBEL := Lib.hid hbel
      have HGB := Lib.hid hgb
      have hlen := hR.len
      have hK60 := hR.le
      clear hown hR hB hgb hbel
      by_cases hlt : K < 60
      · have hd : decide ((K : Int) < 60) = true := by simp; omega
        go_wp2
        go_loop [8] (fun sv => ∃ s : Nat, sv = .int .i64 s ∧ K + s ≤ 60 ∧ ∀ i, i < s → f (K + i) = true) (fun sv => 60 - (intOf sv).toNat)
        case atStart => exact ⟨0, rfl, by omega, fun i hi => by omega⟩
        case round =>
          obtain ⟨s, rfl, hs, hrun⟩ := hrel
          have HRUN := Lib.hid hrun
          clear hrun
          have ks0 : (0 : Int) ≤ (K : Int) + (s : Int) := by omega
          by_cases hlt2 : K + s < 60
          · have hd2 : decide ((K : Int) + (s : Int) < 60) = true := by simp; omega
            have hks : (K : Int) + (s : Int) < 60 := by omega
            have hcl := HB.out.cell (K + s) hlt2
            have hkn : ((K : Int) + (s : Int)).toNat = K + s := by omega
            cases hf : f (K + s)
            · rw [hf] at hcl
              have HF := Lib.hid hf
              clear hf
              by_cases hs0 : s = 0
              · subst hs0
                have HK := Lib.hid (HR.out.skip hlt HF.out)
                have e1 : max (0 : Int) 1 = 1 := by decide
                rw [Nat.add_zero] at hcl
                skip
                go_wp2
                all_goals
                  go_roundw
                  case rel => exact ⟨K + 1, acc, A9, c9, by first | rfl | go_num | (congr 1; omega), rfl, HO.out, HGB.out, HK.out, HB.out, HBEL.out⟩
                  case measure => simp [intOf]; omega
              · have HK := Lib.hid (HR.out.run (s := s) (by omega) (by omega) HRUN.out (.inr HF.out))
                have q1 : decide ((0 : Int) < (s : Int)) = true := by simp; omega
                have q2 : max (s : Int) 1 = s := by omega
                skip
                go_wp2_with (at_builtin; refine wpList_append_own _ rfl (.tmp 37) (.tmp 46) 24 rfl w.heap.size 33 i0 (.agg #[.int .i64 0, .int .i64 0, .bool false]) 3 24 Try.underlying24 HI.out HZ0.out HZ1.out HZ2.out rfl (by decide) _ _ _ rfl (World.ownsRow.alloc HO.out _) ⟨wr.heap.size, 0, none⟩ 1 1 (pcs [⟨K, s, (K : Int) + s != E⟩]) rfl rfl (new3 _ _ _ _ _) (one3 _ _ _) (by rw [mx]; omega) (by omega) (by have := HBEL.out.size; simp; omega) ?_; intro v9 w9 hown9 hg9 hnil; clear hnil; obtain ⟨A10, c10, rfl⟩ := own_form3 hown9)
                all_goals
                  have R2 := push3_below HO.out hg9 HBEL.out HBEL.out.size
                  have hB9 : OwnB w9 w.heap.size w.heap.size f := World.ownsRow.kept (World.ownsRow.alloc HB.out _) hg9 (.inr (fun e => absurd (show w.heap.size < w.heap.size from HGB.out _ e.symm) (Nat.lt_irrefl _)))
                  have hgb9 : ∀ g, (Value.slice A10 (acc.length + 1) c10).ownBlock = some g → w.heap.size < g := fun g hg => by
                    have h1 := (World.ownsRow.lt hown9 g hg).1
                    rcases (show g = w.heap.size ∨ w.heap.size < g from by omega) with h2 | h2
                    · exfalso
                      subst h2
                      rcases hown9.2 with ⟨he, _⟩ | ⟨g', cap', cur, he, _, hh, _⟩
                      · rw [he] at hg; simp [Value.ownBlock] at hg
                      · rw [he] at hg
                        have e3 : g' = w.heap.size := by simpa [Value.ownBlock] using hg
                        subst e3
                        rcases hB9.2 with ⟨he2, _⟩ | ⟨g2, cap2, cur2, he2, _, hh2, _⟩
                        · simp at he2
                        · simp only [Value.slice.injEq, Option.some.injEq, Addr.mk.injEq, and_true, true_and] at he2
                          rw [he2.1, hh2] at hh
                          simp at hh
                    · exact h2
                  go_roundw
                  case rel => exact ⟨K + s, acc ++ [⟨K, s, (K : Int) + s != E⟩], A10, c10, by first | rfl | go_num | (congr 1; omega), by rw [List.length_append]; rfl, ownP_snoc hown9, hgb9, HK.out, hB9, R2.1⟩
                  case measure => simp [intOf]; omega
            · rw [hf] at hcl
              have HF := Lib.hid hf
              clear hf
              go_wp2
              go_round
              case rel => exact ⟨s + 1, by go_num, by omega, fun i hi => by
                rcases (show i < s ∨ i = s from by omega) with h1 | h1
                · exact HRUN.out i h1
                · rw [h1]; exact HF.out⟩
              case measure => simp [intOf]; omega
          · have hd2 : decide ((K : Int) + (s : Int) < 60) = false := by simp; omega
            have hks : K + s = 60 := by omega
            have HKS := Lib.hid hks
            by_cases hs0 : s = 0
            · subst hs0
              have HK := Lib.hid (HR.out.skip hlt (by omega))
              have e1 : max (0 : Int) 1 = 1 := by decide
              clear hks
              go_wp2
              all_goals
                go_roundw
                case rel => exact ⟨K + 1, acc, A9, c9, by first | rfl | go_num | (congr 1; omega), rfl, HO.out, HGB.out, HK.out, HB.out, HBEL.out⟩
                case measure => simp [intOf]; omega
            · have HK := Lib.hid (HR.out.run (s := s) (by omega) (by omega) HRUN.out (.inl HKS.out))
              have q1 : decide ((0 : Int) < (s : Int)) = true := by simp; omega
              have q2 : max (s : Int) 1 = s := by omega
              clear hks
              go_wp2_with (at_builtin; refine wpList_append_own _ rfl (.tmp 37) (.tmp 46) 24 rfl w.heap.size 33 i0 (.agg #[.int .i64 0, .int .i64 0, .bool false]) 3 24 Try.underlying24 HI.out HZ0.out HZ1.out HZ2.out rfl (by decide) _ _ _ rfl (World.ownsRow.alloc HO.out _) ⟨wr.heap.size, 0, none⟩ 1 1 (pcs [⟨K, s, (K : Int) + s != E⟩]) rfl rfl (new3 _ _ _ _ _) (one3 _ _ _) (by rw [mx]; omega) (by omega) (by have := HBEL.out.size; simp; omega) ?_; intro v9 w9 hown9 hg9 hnil; clear hnil; obtain ⟨A10, c10, rfl⟩ := own_form3 hown9)
              all_goals
                have R2 := push3_below HO.out hg9 HBEL.out HBEL.out.size
                have hB9 : OwnB w9 w.heap.size w.heap.size f := World.ownsRow.kept (World.ownsRow.alloc HB.out _) hg9 (.inr (fun e => absurd (show w.heap.size < w.heap.size from HGB.out _ e.symm) (Nat.lt_irrefl _)))
                have hgb9 : ∀ g, (Value.slice A10 (acc.length + 1) c10).ownBlock = some g → w.heap.size < g := fun g hg => by
                  have h1 := (World.ownsRow.lt hown9 g hg).1
                  rcases (show g = w.heap.size ∨ w.heap.size < g from by omega) with h2 | h2
                  · exfalso
                    subst h2
                    rcases hown9.2 with ⟨he, _⟩ | ⟨g', cap', cur, he, _, hh, _⟩
                    · rw [he] at hg; simp [Value.ownBlock] at hg
                    · rw [he] at hg
                      have e3 : g' = w.heap.size := by simpa [Value.ownBlock] using hg
                      subst e3
                      rcases hB9.2 with ⟨he2, _⟩ | ⟨g2, cap2, cur2, he2, _, hh2, _⟩
                      · simp at he2
                      · simp only [Value.slice.injEq, Option.some.injEq, Addr.mk.injEq, and_true, true_and] at he2
                        rw [he2.1, hh2] at hh
                        simp at hh
                  · exact h2
                go_roundw
                case rel => exact ⟨K + s, acc ++ [⟨K, s, (K : Int) + s != E⟩], A10, c10, by first | rfl | go_num | (congr 1; omega), by rw [List.length_append]; rfl, ownP_snoc hown9, hgb9, HK.out, hB9, R2.1⟩
                case measure => simp [intOf]; omega
      · have hd : decide ((K : Int) < 60) = false := by simp; omega
        have hK : K = 60 := by omega
        subst hK
        go_wp2
        go_ret
        exact ⟨_, acc, rfl, HJ.out acc HR.out, HO.out, HBEL.out⟩
end Go.Proofs.Ytpkajiflbejajaa
