/-
  The walks of the functions that find the skills on which two offers agree. Conditions: where the lists of needs lie, and the bounds that are typed.
-/
import Derived.Test.YtgoafhmmaepcjaaWoto
import Derived.Deep.Cut
namespace Go.Proofs.Ytgoafhmmaepcjaa
open Go.RowKit
set_option linter.unusedVariables false

theorem andN_fin : ∀ (a b : Fin 32), (bits .andNot .i64 ((a.val : Nat) : Int) ((b.val : Nat) : Int) == 0) = decide (a.val &&& b.val = a.val) := by decide +kernel
theorem or_fin6 : ∀ (a b : Fin 32), bits .or .i64 ((a.val : Nat) : Int) ((b.val : Nat) : Int) = ((a.val ||| b.val : Nat) : Int) := by decide +kernel
theorem and_fin6 : ∀ (a b : Fin 32), bits .and .i64 ((a.val : Nat) : Int) ((b.val : Nat) : Int) = ((a.val &&& b.val : Nat) : Int) := by decide +kernel
theorem shl_fin : ∀ (a : Fin 32) (k : Fin 5), bits .and .i64 ((a.val : Nat) : Int) (wrap64 (2 ^ k.val)) = ((a.val &&& 2 ^ k.val : Nat) : Int) := by decide +kernel
theorem andN_nat {a b : Nat} (ha : a < 32) (hb : b < 32) : (bits .andNot .i64 (a : Int) (b : Int) == 0) = decide (a &&& b = a) := andN_fin ⟨a, ha⟩ ⟨b, hb⟩
theorem or_nat6 {a b : Nat} (ha : a < 32) (hb : b < 32) : bits .or .i64 (a : Int) (b : Int) = ((a ||| b : Nat) : Int) := or_fin6 ⟨a, ha⟩ ⟨b, hb⟩
theorem and_nat6 {a b : Nat} (ha : a < 32) (hb : b < 32) : bits .and .i64 (a : Int) (b : Int) = ((a &&& b : Nat) : Int) := and_fin6 ⟨a, ha⟩ ⟨b, hb⟩
theorem shl_nat {a k : Nat} (ha : a < 32) (hk : k < 5) : bits .and .i64 (a : Int) (wrap64 (2 ^ k)) = ((a &&& 2 ^ k : Nat) : Int) := shl_fin ⟨a, ha⟩ ⟨k, hk⟩
theorem or_lt {a b : Nat} (ha : a < 32) (hb : b < 32) : a ||| b < 32 := Nat.or_lt_two_pow (n := 5) ha hb

/-- The needs of both. -/
def ndf (xs ys : List Int) (k : Nat) : Nat := (xs.getD k 0).toNat ||| (ys.getD k 0).toNat
/-- A list of five sets of skills. -/
def Nds (xs : List Int) : Prop := xs.length = 5 ∧ xs.all skB = true
theorem Nds.get {xs : List Int} (h : Nds xs) {k : Nat} (hk : k < 5) : xs.getD k 0 = (((xs.getD k 0).toNat : Nat) : Int) ∧ (xs.getD k 0).toNat < 32 := by
  have hb : skB (xs.getD k 0) = true := by
    rw [List.getD_eq_getElem?_getD, List.getElem?_eq_getElem (by rw [h.1]; exact hk)]
    exact List.all_eq_true.1 h.2 _ (List.getElem_mem _)
  have := btw_yes hb
  omega
theorem nxt32 (nd : Nat → Nat) (s k : Nat) (hk : k ≤ 5) : nxt nd s k < 32 := by
  have h1 := nxt_lt nd s k
  have h2 : 2 ^ k ≤ 2 ^ 5 := Nat.pow_le_pow_right (by omega) hk
  have : (2 : Nat) ^ 5 = 32 := rfl
  omega

set_option maxHeartbeats 3200000 in
theorem able_any (s : Nat) (o p : Ofr) (v u : Value) (w : World) (hs : s < 32) (h : Rds w v o.nd) (h2 : Rds w u p.nd) (ho : Nds o.nd) (hp : Nds p.nd) :
    Calls Try.prog 42 #[.int .i64 (s : Int), ofv o v, ofv p u] w fun e w' => e = .returned (.int .i64 ((nxt (ndf o.nd p.nd) s 5 : Nat) : Int)) ∧ Below w.heap.size w w' := by
  obtain ⟨lo, hi, ca, xs⟩ := o
  obtain ⟨lo2, hi2, ca2, ys⟩ := p
  simp only at h h2 ho hp ⊢
  unfold ofv
  simp only
  have hb0 := ((Below.refl w.heap.size w).alloc (Nat.le_refl _) (.cells #[.int .i64 lo, .int .i64 hi, .int .i64 ca, v] 34)).alloc (by simp) (.cells #[.int .i64 lo2, .int .i64 hi2, .int .i64 ca2, u] 34)
  have hr := h.more6 hb0
  have hr2 := h2.more6 hb0
  have k0 := (Blk.new w 34 #[.int .i64 lo, .int .i64 hi, .int .i64 ca, v]).alloc (.cells #[.int .i64 lo2, .int .i64 hi2, .int .i64 ca2, u] 34)
  have k1 := Blk.new (w.alloc (.cells #[.int .i64 lo, .int .i64 hi, .int .i64 ca, v] 34)) 34 #[.int .i64 lo2, .int .i64 hi2, .int .i64 ca2, u]
  rw [World.size_alloc] at k1
  have HBL := Lib.hid hb0
  have HK0 := Lib.hid k0
  have HK1 := Lib.hid k1
  obtain ⟨A, c, rfl, hA⟩ := hr
  obtain ⟨A2, c2, rfl, hA2⟩ := hr2
  obtain ⟨b, off, rfl, ha⟩ := hA (by rw [ho.1]; omega)
  obtain ⟨b2, off2, rfl, ha2⟩ := hA2 (by rw [hp.1]; omega)
  have HA := Lib.hid ha.2
  have HA2 := Lib.hid ha2.2
  have HO := Lib.hid ho
  have HP := Lib.hid hp
  have hl1 := ho.1
  have hl2 := hp.1
  clear h h2 ho hp hb0 k0 k1 hA hA2 ha ha2
  rw [hl1, hl2] at HBL HK0 HA HA2
  rw [hl1, hl2] at HK1
  go_enter Try.func42, Try.ntmps42
  go_upto_region 1 with fail
  generalize (w.alloc (.cells #[.int .i64 lo, .int .i64 hi, .int .i64 ca, .slice (some ⟨b, off, none⟩) 5 c] 34)).alloc (.cells #[.int .i64 lo2, .int .i64 hi2, .int .i64 ca2, .slice (some ⟨b2, off2, none⟩) 5 c2] 34) = w1 at *
  go_wp2
  go_loopw [7, 8, 9, 10] (fun kv _ _ iv wr => ∃ k m : Nat, k ≤ 5 ∧ iv = .int .i64 k ∧ kv = .int .i64 ((nxt (ndf xs ys) s k : Nat) : Int) ∧ wr = w1.drewN m) (fun _ _ _ iv _ => 5 - (intOf iv).toNat)
  case atStart => exact ⟨0, 0, by omega, rfl, rfl, rfl⟩
  case round =>
    obtain ⟨k, m, hk, rfl, rfl, rfl⟩ := hrel
    have HBW : Hid (Below w.heap.size w (w1.drewN m)) := Lib.hid (below_drewN HBL.out m)
    by_cases hlt : k < 5
    · have d3 : (w1.drewN m).cell? ⟨w.heap.size, 3, none⟩ = _ := HK0.out.c4.2.2.2
      have e3 : (w1.drewN m).cell? ⟨w.heap.size + 1, 3, none⟩ = _ := HK1.out.c4.2.2.2
      have x3 : (w1.drewN m).cell? ⟨b, off + k, none⟩ = _ := HA.out k (by omega)
      have y3 : (w1.drewN m).cell? ⟨b2, off2 + k, none⟩ = _ := HA2.out k (by omega)
      obtain ⟨xe, xl⟩ := HO.out.get hlt
      obtain ⟨ye, yl⟩ := HP.out.get hlt
      rw [xe] at x3
      rw [ye] at y3
      have hnd : ndf xs ys k = (xs.getD k 0).toNat ||| (ys.getD k 0).toNat := rfl
      have hor := or_nat6 xl yl
      have hzl := or_lt xl yl
      have hst := nxt_or (ndf xs ys) s k
      have hnl := nxt32 (ndf xs ys) s k (by omega)
      rw [← hnd] at hor hzl
      generalize ndf xs ys k = z at *
      have han := andN_nat hzl hs
      have HST := Lib.hid hst
      generalize hwj : w1.drewN m = wj at *
      have HWJ := Lib.hid hwj
      have hk0 : (0 : Int) ≤ (k : Int) := by omega
      have hk5 : (k : Int) < 5 := by omega
      generalize (xs.getD k 0).toNat = x at *
      generalize (ys.getD k 0).toNat = y at *
      clear hst hwj hnd xe ye xl yl
      by_cases hc : z &&& s = z
      · have hd : decide (z &&& s = z) = true := decide_eq_true hc
        rw [hd] at han
        have hsh := shl_nat hs hlt
        have HS2 : Hid (nxt (ndf xs ys) s k ||| (s &&& 2 ^ k) = nxt (ndf xs ys) s (k + 1)) := Lib.hid (by rw [← HST.out, if_pos hd])
        have hal : s &&& 2 ^ k < 32 := Nat.lt_of_le_of_lt Nat.and_le_left hs
        have ho2 := or_nat6 hnl hal
        have HO2 := Lib.hid (HS2.out)
        rw [HS2.out] at ho2
        generalize s &&& 2 ^ k = t at *
        generalize nxt (ndf xs ys) s k = q at *
        generalize hq2 : nxt (ndf xs ys) s (k + 1) = q2 at *
        have HQ2 := Lib.hid hq2
        clear HST hd hc hq2
        go_wp2
        go_quiet (fail)
        go_wp2
        go_roundw
        case rel => exact ⟨k + 1, m + nq, by omega, by go_num, by rw [HQ2.out], by rw [← HWJ.out, World.drewN_drewN]⟩
        case measure => simp [intOf] <;> omega
      · have hd : decide (z &&& s = z) = false := decide_eq_false hc
        rw [hd] at han
        have HS2 : Hid (nxt (ndf xs ys) s k = nxt (ndf xs ys) s (k + 1)) := Lib.hid (by rw [← HST.out, hd]; simp)
        clear HST hd hc
        go_wp2
        go_quiet (fail)
        go_wp2
        go_roundw
        case rel => exact ⟨k + 1, m + nq, by omega, by go_num, by rw [HS2.out], by rw [← HWJ.out, World.drewN_drewN]⟩
        case measure => simp [intOf] <;> omega
    · obtain rfl : k = 5 := by omega
      go_wp2
      go_ret
      exact ⟨rfl, HBW.out⟩
end Go.Proofs.Ytgoafhmmaepcjaa
