/-
  The walk of the model's FindFrames. Condition: the text is one that can be.
-/
import Derived.Test.YtogoedjcacnfcaaDoorWfs
import Derived.Deep.RegionWith
import Derived.IntWalk
import Derived.SliceStrings
namespace Go.Proofs.YtogoedjcacnfcaaDoor
open Go.RowKit
set_option linter.unusedVariables false

theorem FF_no {s : ByteArray} (h : bitsB 300 s.data.toList = false) : FF s = [] := by unfold FF; rw [h]; rfl
theorem FF_len (s : ByteArray) : ((fnd s.data.toList).map uL).length ≤ s.size + 1 := by
  rw [← ffr_eq]
  have h := ffk_len (prt s) (prt s).length
  rw [ffk_end _ _ (Nat.le_refl _)] at h
  have h2 := Lib.countB_le flB (by decide) s.size s (Nat.le_refl _)
  rw [prt_len] at h
  exact Nat.le_trans h (by omega)
theorem Sf.len {s : ByteArray} {f : Int} {i : Nat} {out : List ByteArray} (h : Sf s f i out) : out.length ≤ s.size + 1 := by
  rcases h with ⟨_, h2, _⟩ | ⟨a, _, _, _, h4⟩
  · rw [h2]; simp
  · have := congrArg List.length h4
    rw [List.length_append] at this
    have := FF_len s
    omega
theorem Sf.bd {s : ByteArray} {f : Int} {i : Nat} {out : List ByteArray} (h : Sf s f i out) : f = -1 ∨ ∃ a : Nat, f = a ∧ a ≤ i := by
  rcases h with ⟨h1, _, _⟩ | ⟨a, h1, h2, _, _⟩
  · exact .inl h1
  · exact .inr ⟨a, h1, h2⟩

theorem fq_yes {s : ByteArray} {i : Nat} (hi : i + 8 ≤ s.size) (h : Lib.occAt s.data.toList fl8 i = true) : ((s.extract i (i + 8)).toList == [48, 49, 49, 49, 49, 49, 49, 48]) = true := by
  rw [ByteArray.toList_eq, eq_flag hi, occ_iff.1 h]; rfl
theorem fq_no {s : ByteArray} {i : Nat} (hi : i + 8 ≤ s.size) (h : Lib.occAt s.data.toList fl8 i = false) : ((s.extract i (i + 8)).toList == [48, 49, 49, 49, 49, 49, 49, 48]) = false := by
  rw [ByteArray.toList_eq, eq_flag hi, beq_eq_false_iff_ne]
  intro e
  have h1 : Lib.occAt s.data.toList fl8 i = true := occ_iff.2 e
  rw [h] at h1; cases h1

set_option maxHeartbeats 3200000 in
theorem sFN_any (s : ByteArray) (w : World) (hs : s.size ≤ maxLen) :
    Calls Tryd.prog 6 #[.string s] w fun e w' => ∃ u, e = .returned u ∧ OwnT w' w.heap.size u (FF s) ∧ Below w.heap.size w w' := by
  unfold maxLen at hs
  have hl : s.data.toList.length = s.size := Array.length_toList
  by_cases h300 : 300 < s.size
  · have HF := Lib.hid (FF_no (s := s) (by simp [bitsB]; omega))
    have q0 : (300 : Int) < (s.size : Int) := by omega
    go_enter Tryd.func6, Tryd.ntmps6
    go_wp2
    go_ret
    exact ⟨_, rfl, by rw [HF.out]; exact OwnT.nil _ _, Below.refl _ _⟩
  · have q0 : ¬ (300 : Int) < (s.size : Int) := by omega
    obtain ⟨i0, hi, hz0, hz1, hz2⟩ := info_parts infoS
    have HI := Lib.hid hi
    have HZ0 := Lib.hid hz0
    have HZ1 := Lib.hid hz1
    have HZ2 := Lib.hid hz2
    have HL := Lib.hid hl
    clear hi hz0 hz1 hz2 hl
    go_enter Tryd.func6, Tryd.ntmps6
    go_wp2
    go_loop [3] (fun i => ∃ k : Nat, k ≤ s.size ∧ i = .int .i64 k ∧ (s.data.toList.take k).all isBit = true) (fun i => s.size - (intOf i).toNat)
    case atStart => exact ⟨0, Nat.zero_le _, rfl, by simp⟩
    case round =>
      obtain ⟨k, hk, rfl, hall⟩ := hrel
      have HA := Lib.hid hall
      clear hall
      by_cases hlt : k < s.size
      · go_wp2
        · have hb := isBit_of48 (c := s[k]) (by assumption)
          go_round
          case rel => exact ⟨k + 1, by omega, by go_num, by rw [all_snoc s k hlt, HA.out, hb]; rfl⟩
          case measure => simp [intOf]; omega
        · have hb := isBit_ne (c := s[k]) (by assumption)
          go_ret
          exact ⟨_, rfl, by rw [FF_no (bitsB_bad (all_bad s k hlt hb))]; exact OwnT.nil _ _, Below.refl _ _⟩
        · have hb := isBit_or (c := s[k]) (by assumption) (by assumption)
          go_round
          case rel => exact ⟨k + 1, by omega, by go_num, by rw [all_snoc s k hlt, HA.out, hb]; rfl⟩
          case measure => simp [intOf]; omega
      · have hbits : bitsB 300 s.data.toList = true := by rw [bitsB_ok s (all_end s k hlt HA.out)]; simp; omega
        have HFF : Hid (FF s = (fnd s.data.toList).map uL) := Lib.hid (by unfold FF; rw [if_pos hbits])
        clear hbits
        go_wp2
        have HM := Lib.hid (World.ownsRow_made (base := w.heap.size) (e := 9) (size := 1) w #[] 0 (Nat.le_refl _) (by unfold maxLen; omega) rfl)
        have HB3 : Hid (Below w.heap.size w (w.alloc (.cells #[] 9))) := Lib.hid ((Below.refl _ _).alloc (Nat.le_refl _) _)
        generalize hw3 : w.alloc (.cells #[] 9) = w3 at *
        clear hw3 hlt hk HA
        go_loopw [4, 5, 6] (fun lv fv iv wr => ∃ (out : List ByteArray) (f : Int) (i : Nat) (A9 : Option Addr) (c9 : Nat), lv = .slice A9 out.length c9 ∧ fv = .int .i64 f ∧ iv = .int .i64 i ∧ i ≤ s.size ∧ Sf s f i out ∧ OwnT wr w.heap.size lv out ∧ Below w.heap.size w wr) (fun _ _ iv _ => s.size - (intOf iv).toNat)
        case atStart => exact ⟨[], -1, 0, some ⟨w.heap.size, 0, none⟩, 0, rfl, rfl, rfl, Nat.zero_le _, Sf.start s, HM.out, HB3.out⟩
        case round =>
          obtain ⟨out, f, i, A9, c9, rfl, rfl, rfl, hiz, hS, hown, hbel⟩ := hrel
          have HO := Lib.hid hown
          have HBEL := Lib.hid hbel
          have HSF := Lib.hid hS
          have hol := hS.len
          have hfb := hS.bd
          clear hown hbel hS
          by_cases hgo : i + 8 ≤ s.size
          · have hd : decide ((i : Int) + 8 ≤ (s.size : Int)) = true := by simp; omega
            have r0 : (0 : Int) ≤ (i : Int) := by omega
            have r1 : (i : Int) ≤ (i : Int) + 8 := by omega
            have r2 : (i : Int) + 8 ≤ (s.size : Int) := by omega
            have r3 : ((i : Int) + 8).toNat = i + 8 := by omega
            have r4 : IntKind.i64.wrap ((i : Int) + 8) = (i : Int) + 8 := IntWalk.i64_in _ (by omega)
            have r5 : (0 : Int) ≤ (i : Int) + 8 := by omega
            have r6 : i ≤ i + 8 := by omega
            have r7 : i ≤ s.size := by omega
            cases ho : Lib.occAt s.data.toList fl8 i
            · have HN := Lib.hid (HSF.out.next ho)
              have hq := fq_no hgo ho
              clear ho
              go_wp2_with fail
              go_quiet ((go_at_call 17; exact Calls.quiet_of_same (flag_call _)))
              go_wp2
              go_roundw
              case rel => exact ⟨out, f, i + 1, A9, c9, rfl, rfl, by go_num, by omega, HN.out, HO.out, below_drewN HBEL.out nq⟩
              case measure => simp [intOf]; omega
            · obtain ⟨hA, hB, hC⟩ := HSF.out.hit hgo ho
              have HA := Lib.hid hA
              have HB := Lib.hid hB
              have hq := fq_yes hgo ho
              clear ho hA hB
              have e8 : ((i + 8 : Nat) : Int) = (i : Int) + 8 := by omega
              rcases hC with rfl | ⟨a, rfl, hai⟩
              · have HN := Lib.hid (HB.out (.inl rfl))
                clear hfb
                go_wp2_with fail
                go_quiet ((go_at_call 17; exact Calls.quiet_of_same (flag_call _)))
                go_wp2
                go_roundw
                case rel => exact ⟨out, _, i + 8, A9, c9, rfl, rfl, by first | rfl | go_num | (congr 1; omega), by omega, by first | exact HN.out | (rw [← e8]; exact HN.out), HO.out, below_drewN HBEL.out nq⟩
                case measure => simp [intOf]; omega
              · have a0 : (0 : Int) ≤ (a : Int) := by omega
                have a1 : decide ((0 : Int) ≤ (a : Int)) = true := by simp
                by_cases hlt : a < i
                · have a2 : decide ((a : Int) < (i : Int)) = true := by simp; omega
                  have a3 : (a : Int) ≤ (i : Int) := by omega
                  have a4 : (i : Int) ≤ (s.size : Int) := by omega
                  have a5 : (a : Int) ≤ (s.size : Int) := by omega
                  have a6 : a ≤ s.size := by omega
                  have a7 : (a : Int) < (i : Int) := by omega
                  have HN := Lib.hid (HA.out a rfl hlt)
                  have HU := Lib.hid (fun W => sun_call (s.extract a i) W (by rw [ByteArray.size_extract]; unfold maxLen; omega))
                  clear hfb
                  go_wp2_with fail
                  go_quiet ((go_at_call 17; exact Calls.quiet_of_same (flag_call _)))
                  generalize uL (s.extract a i).data.toList = y at *
                  generalize (unsR (s.extract a i).data.toList).isSome = yb at *
                  have HBD := Lib.hid (below_drewN HBEL.out nq)
                  have HOD : Hid (OwnT (wr.drewN nq) w.heap.size (.slice A9 out.length c9) out) := Lib.hid HO.out
                  generalize wr.drewN nq = w5 at *
                  go_wp2_with (first | (go_at_call 18; refine (HU.out _).mono ?_; rintro e w' ⟨rfl, rfl⟩) | (at_builtin; refine wpList_append_own _ rfl (.tmp 58) (.tmp 60) 22 rfl w.heap.size 9 i0 (.string ByteArray.empty) 1 16 Tryd.underlying22 HI.out HZ0.out HZ1.out HZ2.out rfl (by decide) _ _ _ rfl (World.ownsRow.alloc HOD.out _) ⟨w5.heap.size, 0, none⟩ 1 1 (strv [y]) rfl rfl (new1s _ _ _) (one1s _) (by unfold maxLen; omega) (by omega) (by have := HBD.out.size; simp; omega) ?_; intro v9 w9 hown9 hg9 hnil; clear hnil; obtain ⟨A10, c10, rfl⟩ := own_form1 hown9))
                  have R2 := push1_below HOD.out hg9 HBD.out HBD.out.size
                  go_roundw
                  case rel => exact ⟨out ++ [y], _, i + 8, A10, c10, by rw [List.length_append]; rfl, rfl, by first | rfl | go_num | (congr 1; omega), by omega, by first | exact HN.out | (rw [← e8]; exact HN.out), ownT_snoc hown9, R2.1⟩
                  case measure => simp [intOf]; omega
                · have hai2 : a = i := by omega
                  subst hai2
                  have a2 : decide ((a : Int) < (a : Int)) = false := by simp
                  have HN := Lib.hid (HB.out (.inr rfl))
                  clear hfb hlt
                  go_wp2_with fail
                  go_quiet ((go_at_call 17; exact Calls.quiet_of_same (flag_call _)))
                  go_wp2
                  go_roundw
                  case rel => exact ⟨out, _, a + 8, A9, c9, rfl, rfl, by first | rfl | go_num | (congr 1; omega), by omega, by first | exact HN.out | (rw [← e8]; exact HN.out), HO.out, below_drewN HBEL.out nq⟩
                  case measure => simp [intOf]; omega
          · have hd : decide ((i : Int) + 8 ≤ (s.size : Int)) = false := by simp; omega
            have r4 : IntKind.i64.wrap ((i : Int) + 8) = (i : Int) + 8 := IntWalk.i64_in _ (by omega)
            have HE := Lib.hid (HSF.out.done (by omega))
            go_wp2
            go_ret
            exact ⟨_, rfl, by rw [HFF.out, ← HE.out]; exact HO.out, HBEL.out⟩
end Go.Proofs.YtogoedjcacnfcaaDoor
