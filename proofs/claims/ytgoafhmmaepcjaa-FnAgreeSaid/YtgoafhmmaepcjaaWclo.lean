/-
  The walks of the model's functions by which two offers agree. Conditions: where the lists of needs lie, and their lengths.
-/
import Derived.Test.YtgoafhmmaepcjaaWcsk
import Derived.Test.YtgoafhmmaepcjaaWpw
namespace Go.Proofs.Ytgoafhmmaepcjaa
open Go.RowKit
set_option linter.unusedVariables false

theorem bt_val (x j : Nat) : bt x j = if x.testBit j = true then 1 else 0 := by
  unfold bt
  rw [bit_div]
  cases x.testBit j <;> rfl
theorem nxt_no {nd : Nat → Nat} {s k : Nat} (h : ¬ (s.testBit k = true ∧ nd k &&& s = nd k)) : nxt nd s (k + 1) = nxt nd s k := by
  show nxt nd s k + (if (s.testBit k && decide (nd k &&& s = nd k)) = true then 2 ^ k else 0) = _
  rw [if_neg (by simpa using h)]; rfl
theorem nxt_yes {nd : Nat → Nat} {s k : Nat} (h : s.testBit k = true ∧ nd k &&& s = nd k) : ((nxt nd s (k + 1) : Nat) : Int) = (nxt nd s k : Int) + p2 k := by
  show ((nxt nd s k + (if (s.testBit k && decide (nd k &&& s = nd k)) = true then 2 ^ k else 0) : Nat) : Int) = _
  rw [if_pos (by simpa using h)]
  unfold p2
  omega

set_option maxHeartbeats 3200000 in
theorem clo_any (nd : Nat → Nat) (s0 : Nat) (v : Value) (zs : List Int) (w : World) (h : Rds w v zs) (hs0 : s0 < 32) (hl : zs.length = 5) (hz : ∀ k, k < 5 → zs.getD k 0 = ((nd k : Nat) : Int) ∧ nd k < 32) :
    Calls Try.prog 40 #[v, .int .i64 (s0 : Int)] w fun e w' => e = .returned (.int .i64 ((fx nd s0 : Nat) : Int)) ∧ ∃ m, w' = w.drewN m := by
  obtain ⟨A, c, rfl, hA⟩ := h
  obtain ⟨b, off, rfl, ha⟩ := hA (by omega)
  have HA := Lib.hid ha.2
  have HZ := Lib.hid hz
  have HB := Lib.hid (fun x j hj hx W => sbt_any x j hj hx W)
  have HP := Lib.hid (fun j hj W => spw_any j hj W)
  have HL := Lib.hid hl
  rw [hl]
  clear hA ha hz hl
  go_enter Try.func40, Try.ntmps40
  go_wp2
  go_loopw [1, 5, 6] (fun cv _ _ wr => ∃ s m : Nat, cv = .int .i64 (s : Int) ∧ s < 32 ∧ Hid (fx nd s = fx nd s0) ∧ wr = w.drewN m) (fun cv _ _ _ => (intOf cv).toNat)
  case atStart => exact ⟨s0, 0, rfl, hs0, Lib.hid rfl, rfl⟩
  case round =>
    obtain ⟨s, m, rfl, hs, hfx, rfl⟩ := hrel
    go_wp2
    go_loopw [5, 6] (fun nv iv wr => ∃ k m2 : Nat, k ≤ 5 ∧ iv = .int .i64 (k : Int) ∧ nv = .int .i64 ((nxt nd s k : Nat) : Int) ∧ wr = w.drewN m2) (fun _ iv _ => 5 - (intOf iv).toNat)
    case atStart => exact ⟨0, m, by omega, rfl, rfl, rfl⟩
    case round =>
      obtain ⟨k, m2, hk, rfl, rfl, rfl⟩ := hrel
      by_cases hlt : k < 5
      · obtain ⟨hz1, hz2⟩ := HZ.out k hlt
        have hc1 : (w.drewN m2).cell? ⟨b, off + k, none⟩ = _ := HA.out k (by have := HL.out; omega)
        rw [hz1] at hc1
        have HBT : Hid (∀ W, Calls Try.prog 43 #[.int .i64 (s : Int), .int .i64 (k : Int)] W fun e w' => e = .returned (.int .i64 (bt s k)) ∧ W = w') := Lib.hid (fun W => HB.out s k (by omega) (by omega) W)
        have HPW : Hid (∀ W, Calls Try.prog 41 #[.int .i64 (k : Int)] W fun e w' => e = .returned (.int .i64 (p2 k)) ∧ W = w') := Lib.hid (fun W => HP.out k (by omega) W)
        have hpb := pw_64 k (by omega)
        have HNO := fun h => Lib.hid (nxt_no (nd := nd) (s := s) (k := k) h)
        have HYES := fun h => Lib.hid (nxt_yes (nd := nd) (s := s) (k := k) h)
        have hn32 := nxt32 nd s k (by omega)
        have hand := and_nat6 hz2 hs
        have hbv := bt_val s k
        generalize hq2 : nxt nd s (k + 1) = q2 at *
        have HQ2 := Lib.hid hq2
        clear hq2
        generalize nxt nd s k = q at *
        generalize p2 k = pk at *
        generalize bt s k = bv at *
        generalize hzk : nd k = z at *
        generalize hrr : z &&& s = r at *
        have HRR := Lib.hid hrr
        generalize hwj : w.drewN m2 = wj at *
        have HWJ := Lib.hid hwj
        clear hz1 hzk hrr hwj
        have hk0 : (0 : Int) ≤ (k : Int) := by omega
        have hk5 : (k : Int) < 5 := by omega
        cases htb : s.testBit k
        · have hb0 : bv = 0 := by rw [hbv, htb]; rfl
          rw [hb0] at HBT
          have HX := HNO (fun h => by rw [htb] at h; cases h.1)
          clear hbv hb0 HNO HYES htb
          go_wp2
          go_quiet ((go_at_call 43; exact Calls.quiet_of_same (same_l (HBT.out _))))
          go_wp2
          go_roundw
          case rel => exact ⟨k + 1, m2 + nq, by omega, by go_num, by rw [HQ2.out, HX.out], by rw [← HWJ.out, World.drewN_drewN]⟩
          case measure => simp [intOf] <;> omega
        · have hb0 : bv = 1 := by rw [hbv, htb]; rfl
          rw [hb0] at HBT
          by_cases hrz : r = z
          · have he : ((r : Int) == (z : Int)) = true := by simp [hrz]
            have HX := HYES ⟨htb, hrz⟩
            clear hbv hb0 HNO HYES htb hrz
            go_wp2
            go_quiet ((go_at_call 43; exact Calls.quiet_of_same (same_l (HBT.out _))))
            go_wp2_with (go_at_call 41; refine (HPW.out _).mono ?_; rintro e w' ⟨rfl, rfl⟩)
            go_roundw
            case rel => exact ⟨k + 1, m2 + nq, by omega, by go_num, by rw [HQ2.out, HX.out], by rw [← HWJ.out, World.drewN_drewN]⟩
            case measure => simp [intOf] <;> omega
          · have he : ((r : Int) == (z : Int)) = false := by simp; omega
            have HX := HNO (fun h => hrz h.2)
            clear hbv hb0 HNO HYES htb hrz
            go_wp2
            go_quiet ((go_at_call 43; exact Calls.quiet_of_same (same_l (HBT.out _))))
            go_wp2
            go_roundw
            case rel => exact ⟨k + 1, m2 + nq, by omega, by go_num, by rw [HQ2.out, HX.out], by rw [← HWJ.out, World.drewN_drewN]⟩
            case measure => simp [intOf] <;> omega
      · obtain rfl : k = 5 := by omega
        have hnl := nxt_le nd s 5
        by_cases hst : nxt nd s 5 = s
        · have HE : Hid (fx nd s0 = s) := Lib.hid (by rw [← hfx.out, fx_done hst])
          have he : (((nxt nd s 5 : Nat) : Int) == (s : Int)) = true := by simp [hst]
          generalize nxt nd s 5 = t at *
          clear hst
          go_wp2
          go_ret
          exact ⟨ret_int (by rw [HE.out]), m2, rfl⟩
        · have HE : Hid (fx nd (nxt nd s 5) = fx nd s0) := Lib.hid (by rw [← hfx.out, fx_step hst])
          have he : (((nxt nd s 5 : Nat) : Int) == (s : Int)) = false := by simp; omega
          have hn32 := nxt32 nd s 5 (Nat.le_refl _)
          generalize nxt nd s 5 = t at *
          have hts : t < s := by omega
          go_wp2
          go_roundw
          case rel => exact ⟨t, m2, rfl, by omega, HE, rfl⟩
          case measure => simp [intOf] <;> omega

/-- Both lists' needs, one behind the other. -/
def ndL (xs ys : List Int) (k : Nat) : List Int := (List.range k).map fun j => ((ndf xs ys j : Nat) : Int)
theorem ndL_len (xs ys : List Int) (k : Nat) : (ndL xs ys k).length = k := by simp [ndL]
theorem ndL_snoc (xs ys : List Int) (k : Nat) : ndL xs ys (k + 1) = ndL xs ys k ++ [((ndf xs ys k : Nat) : Int)] := by simp [ndL, List.range_succ]
theorem ndL_get (xs ys : List Int) (k j : Nat) (h : j < k) : (ndL xs ys k).getD j 0 = ((ndf xs ys j : Nat) : Int) := by
  simp [ndL, List.getD_eq_getElem?_getD, h]
/-- At a step of a region: a number appended onto a row of the call's own. -/
theorem step_append_one {ops : Array Oper} {o : Oper} {a : Act} {w : World} {K : Act → World → Prop} {Q : Exit → Act → World → Prop} {E : Prop} (hgd : o.guard = none) (s x : Operand)
    (ho : o.op = .call { callee := .builtin .append, args := #[s, x], argTypes := #[29, 29] })
    (B : Nat) (v : Value) (l : List Int) (y : Int) (hs : a.eval s = v) (hx : a.eval x = .slice (some ⟨w.heap.size, 0, none⟩) 1 1) (hown : OwnL w B v l) (hl : l.length ≤ 1000) (hB : B ≤ w.heap.size)
    (h : ∀ v' w', OwnL w' B v' (l ++ [y]) → Below B w w' → K (a.put o.dst v') w') :
    if Region.wanted o (yielded ops a.tmps) = true then Oper.wp Try.prog o a (w.alloc (.cells #[.int .i64 y] 3)) K Q else E := by
  have hw : Region.wanted o (yielded ops a.tmps) = true := by simp [Region.wanted, hgd]
  rw [if_pos hw]
  obtain ⟨i0, hi, hz0, hz1, hz2⟩ := info_parts info3
  refine wp_append_own _ s x 29 ho B 3 i0 (.int .i64 0) 1 8 Try.underlying29 hi hz0 hz1 hz2 rfl (by decide) v l.length (ints l) hs (hown.alloc _) ⟨w.heap.size, 0, none⟩ 1 1 [.int .i64 y] hx rfl (cell_new1 _ _ _) (one_cell _ rfl) (by rw [mx]; omega) (by omega) (by simp; omega) fun v' w' h2 h3 h4 => ?_
  exact h v' w' (ownI_snoc h2) (((Below.refl B w).alloc hB _).grown h3 (by simp; omega) (fun j hj => (World.ownsRow.lt hown j hj).1))
end Go.Proofs.Ytgoafhmmaepcjaa
