/-
  The walks of the model's functions that say whether an offer is valid. Conditions: where the list of needs lies, and its length.
-/
import Derived.Test.YtgoafhmmaepcjaaWofr
namespace Go.Proofs.Ytgoafhmmaepcjaa
open Go.RowKit
set_option linter.unusedVariables false

theorem same_l {P : Program} {f : FuncId} {args : Array Value} {w : World} {v : Value} (h : Calls P f args w fun e w' => e = .returned v ∧ w = w') : Calls P f args w fun e w' => e = .returned v ∧ w' = w :=
  h.mono fun _ _ ⟨he, hw⟩ => ⟨he, hw.symm⟩

set_option maxHeartbeats 3200000 in
theorem svo_any (o : Ofr) (v : Value) (w : World) (h : Rds w v o.nd) (hn : o.nd.length ≤ 1048576) :
    Calls Try.prog 34 #[ofv o v] w fun e w' => e = .returned (.bool (voB o)) ∧ Below w.heap.size w w' := by
  have hb0 := (Below.refl w.heap.size w).alloc (Nat.le_refl _) (.cells #[.int .i64 o.lo, .int .i64 o.hi, .int .i64 o.ca, v] 34)
  have hr := h.more6 hb0
  obtain ⟨c0, c1, c2, c3⟩ := OBlk.new w o v 34
  have HBAD := fun h => Lib.hid (voB_bad (o := o) h)
  have HALL := fun h => Lib.hid (voB_all (o := o) h)
  obtain ⟨lo, hi, ca, nd⟩ := o
  simp only at hb0 hr c0 c1 c2 c3 hn HBAD HALL
  have HBL := Lib.hid hb0
  generalize hR : voB ⟨lo, hi, ca, nd⟩ = R at *
  have HT : Hid (voT ⟨lo, hi, ca, nd⟩ = (btw ca 0 31 && (btw lo 0 20 && btw hi lo 20))) := Lib.hid rfl
  generalize voT ⟨lo, hi, ca, nd⟩ = T at *
  have HP : Hid (∀ W, Calls Try.prog 41 #[.int .i64 5] W fun e w' => e = .returned (.int .i64 32) ∧ W = w') := Lib.hid (fun W => spw_any 5 (by omega) W)
  unfold ofv
  simp only
  obtain ⟨A, c, rfl, hA⟩ := hr
  have HA := Lib.hid hA
  clear hA h hb0 hR
  go_enter Try.func34, Try.ntmps34
  go_upto_region 1 with fail
  generalize w.alloc (.cells #[.int .i64 lo, .int .i64 hi, .int .i64 ca, .slice A nd.length c] 34) = w1 at *
  go_wp2
  go_loopw [3] (fun iv wr => ∃ k m : Nat, k ≤ nd.length ∧ iv = .int .i64 k ∧ (nd.take k).all skB = true ∧ wr = w1.drewN m) (fun iv _ => nd.length - (intOf iv).toNat)
  case atStart => exact ⟨0, 0, Nat.zero_le _, rfl, by simp, rfl⟩
  case round =>
    obtain ⟨k, m, hk, rfl, hall, rfl⟩ := hrel
    have HAL := Lib.hid hall
    have HBW : Hid (Below w.heap.size w (w1.drewN m)) := Lib.hid (below_drewN HBL.out m)
    have d0 : (w1.drewN m).cell? ⟨w.heap.size, 0, none⟩ = some (.int .i64 lo) := c0
    have d1 : (w1.drewN m).cell? ⟨w.heap.size, 1, none⟩ = some (.int .i64 hi) := c1
    have d2 : (w1.drewN m).cell? ⟨w.heap.size, 2, none⟩ = some (.int .i64 ca) := c2
    have d3 : (w1.drewN m).cell? ⟨w.heap.size, 3, none⟩ = some (.slice A nd.length c) := c3
    clear hall c0 c1 c2 c3
    have hk0 : (0 : Int) ≤ (k : Int) := by omega
    by_cases hlt : k < nd.length
    · obtain ⟨b, off, rfl, hat⟩ := HA.out (by omega)
      have hc1 : (w1.drewN m).cell? ⟨b, off + k, none⟩ = _ := hat.2 k hlt
      have hkn : (k : Int) < (nd.length : Int) := by omega
      have HSN := fun h => Lib.hid (all_snoc6 skB nd k hlt HAL.out h)
      have HBB := fun h => HBAD (all_bad6 skB nd k hlt h)
      have HS : Hid (∀ W, Calls Try.prog 28 #[.int .i64 (nd.getD k 0), .int .i64 0, .int .i64 31] W fun e w' => e = .returned (.bool (skB (nd.getD k 0))) ∧ W = w') := Lib.hid (fun W => inq_any (nd.getD k 0) 0 31 W)
      clear hat
      generalize nd.getD k 0 = x at *
      generalize hwj : w1.drewN m = wj at *
      have HWJ := Lib.hid hwj
      clear hwj
      cases hs : skB x
      · rw [hs] at HS
        have HX := HBB hs
        clear hs HSN HBB
        go_wp2
        go_quiet ((first | (go_at_call 41; with_reducible exact Calls.quiet_of_same (same_l (HP.out _))) | (go_at_call 28; with_reducible exact Calls.quiet_of_same (same_l (HS.out _)))))
        go_wp2
        go_ret
        exact ⟨ret_bool HX.out.symm, below_drewN HBW.out nq⟩
      · rw [hs] at HS
        have HX := HSN hs
        clear hs HSN HBB
        go_wp2
        go_quiet ((first | (go_at_call 41; with_reducible exact Calls.quiet_of_same (same_l (HP.out _))) | (go_at_call 28; with_reducible exact Calls.quiet_of_same (same_l (HS.out _)))))
        go_wp2
        go_roundw
        case rel => exact ⟨k + 1, m + nq, by omega, by go_num, HX.out, by rw [← HWJ.out, World.drewN_drewN]⟩
        case measure => simp [intOf]; omega
    · have HX := HALL (all_end6 skB nd k hlt HAL.out)
      clear HBAD HALL
      have hk5 : k = nd.length := by omega
      subst hk5
      generalize hwj : w1.drewN m = wj at *
      clear hwj hlt
      by_cases h5 : nd.length = 5
      · have hd5 : ((nd.length : Int) == 5) = true := by simp; omega
        have HD : Hid (decide (nd.length = 5) = true) := Lib.hid (decide_eq_true h5)
        have HS := Lib.hid (fun W => inq_any ca 0 31 W)
        have HW1 := Lib.hid (fun W => inq_any lo 0 20 W)
        have HW2 := Lib.hid (fun W => inq_any hi lo 20 W)
        clear h5
        have HTT := Lib.hid HT.out
        clear HT
        cases hb2 : btw lo 0 20
        · rw [hb2] at HW1 HTT
          clear hb2
          go_wp2
          go_quiet ((first | (go_at_call 28; with_reducible exact Calls.quiet_of_same (same_l (HW1.out _)))))
          go_wp2
          go_ret
          exact ⟨ret_bool (by rw [HX.out, HD.out, HTT.out]; cases btw ca 0 31 <;> rfl), below_drewN HBW.out nq⟩
        · rw [hb2] at HW1 HTT
          clear hb2
          cases hb3 : btw hi lo 20
          · rw [hb3] at HW2 HTT
            clear hb3
            go_wp2
            go_quiet ((first | (go_at_call 28; with_reducible exact Calls.quiet_of_same (same_l (HW1.out _))) | (go_at_call 28; with_reducible exact Calls.quiet_of_same (same_l (HW2.out _)))))
            go_wp2
            go_ret
            exact ⟨ret_bool (by rw [HX.out, HD.out, HTT.out]; cases btw ca 0 31 <;> rfl), below_drewN HBW.out nq⟩
          · rw [hb3] at HW2 HTT
            clear hb3
            generalize btw ca 0 31 = b1 at *
            go_wp2
            go_quiet ((first | (go_at_call 28; with_reducible exact Calls.quiet_of_same (same_l (HW1.out _))) | (go_at_call 28; with_reducible exact Calls.quiet_of_same (same_l (HW2.out _))) | (go_at_call 41; with_reducible exact Calls.quiet_of_same (same_l (HP.out _))) | (go_at_call 28; with_reducible exact Calls.quiet_of_same (same_l (HS.out _)))))
            go_wp2
            go_ret
            exact ⟨ret_bool (by rw [HX.out, HD.out, HTT.out]; cases b1 <;> rfl), below_drewN HBW.out nq⟩
      · have hd5 : ((nd.length : Int) == 5) = false := by simp; omega
        have HD : Hid (decide (nd.length = 5) = false) := Lib.hid (decide_eq_false h5)
        clear h5
        go_wp2
        go_quiet (fail)
        go_wp2
        go_ret
        exact ⟨ret_bool (by rw [HX.out, HD.out]; rfl), below_drewN HBW.out nq⟩
set_option maxHeartbeats 800000 in
theorem sVO_any (o : Ofr) (v : Value) (w : World) (h : Rds w v o.nd) (hn : o.nd.length ≤ 1048576) :
    Calls Try.prog 18 #[ofv o v] w fun e w' => e = .returned (.bool (voB o)) ∧ Below w.heap.size w w' := by
  have hb0 := (Below.refl w.heap.size w).alloc (Nat.le_refl _) (.cells #[.int .i64 o.lo, .int .i64 o.hi, .int .i64 o.ca, v] 34)
  have HC := Lib.hid (svo_any o v _ (h.more6 hb0) hn)
  have HBL := Lib.hid hb0
  have hz := hb0.size
  clear hb0
  unfold ofv at *
  generalize voB o = R at *
  go_enter Try.func18, Try.ntmps18
  go_wp2_with (go_at_call 34; refine HC.out.mono ?_; rintro e w' ⟨rfl, hb2⟩)
  go_ret
  exact ⟨rfl, HBL.out.trans (hb2.mono hz)⟩
end Go.Proofs.Ytgoafhmmaepcjaa
