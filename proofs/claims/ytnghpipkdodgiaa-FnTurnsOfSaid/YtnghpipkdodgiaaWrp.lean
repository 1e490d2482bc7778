/-
  The walk of the library's function that repeats a list. Conditions: where the list lies, and the bounds that are typed.
-/
import Derived.Test.YtnghpipkdodgiaaWll
import Derived.Laws.CopyOwn
import Derived.Deep.RegionLaw
namespace Go.Proofs.Ytnghpipkdodgiaa
open Go.RowKit
set_option linter.unusedVariables false

set_option maxHeartbeats 1600000 in
theorem m64_any (n : Nat) (hn : n ≤ 6) (w : World) :
    Calls Try.prog 34 #[.int .u64 1, .int .u64 n] w fun e w' => e = .returned (.tuple #[.int .u64 0, .int .u64 n]) ∧ w = w' := by
  rcases (show n = 0 ∨ n = 1 ∨ n = 2 ∨ n = 3 ∨ n = 4 ∨ n = 5 ∨ n = 6 from by omega) with rfl | rfl | rfl | rfl | rfl | rfl | rfl
  all_goals
    go_enter Try.func34, Try.ntmps34
    go_wp2
    go_ret2
    exact ⟨rfl, rfl⟩
set_option maxHeartbeats 800000 in
theorem mul_any (n : Nat) (hn : n ≤ 6) (w : World) :
    Calls Try.prog 32 #[.int .u64 1, .int .u64 n] w fun e w' => e = .returned (.tuple #[.int .u64 0, .int .u64 n]) ∧ w = w' := by
  have H := Lib.hid (m64_any n hn w)
  go_enter Try.func32, Try.ntmps32
  go_wp2_with fail
  refine H.out.mono ?_
  rintro e w' ⟨rfl, rfl⟩
  go_wp2
  go_ret2
  exact ⟨rfl, rfl⟩

/-- k times a number, and noughts behind it. -/
def rowk (f : Int) (n k : Nat) : List Value := ints (List.replicate k f ++ List.replicate (n - k) 0)
theorem rowk_len (f : Int) (n k : Nat) (h : k ≤ n) : (rowk f n k).length = n := by simp [rowk, ints]; omega
theorem rowk_splice (f : Int) (n k j : Nat) (h : k + j ≤ n) : splice (rowk f n k) k (ints (List.replicate j f)) = rowk f n (k + j) := by
  unfold splice rowk
  rw [ints_app, ints_app]
  have hk : (ints (List.replicate k f)).length = k := by simp [ints]
  rw [List.take_append_of_le_length (by omega), List.take_of_length_le (by omega)]
  have e1 : (ints (List.replicate j f)).length = j := by simp [ints]
  rw [e1, List.drop_append, List.drop_eq_nil_of_le (by omega : (ints (List.replicate k f)).length ≤ k + j), hk, List.nil_append]
  rw [show k + j - k = j from by omega]
  have e2 : (ints (List.replicate (n - k) 0)).drop j = ints (List.replicate (n - (k + j)) 0) := by
    simp [ints, show n - k - j = n - (k + j) from by omega]
  rw [e2, ← List.append_assoc, ← ints_app, List.replicate_append_replicate]
theorem rowk_get (f : Int) (n k i : Nat) (h : i < k) (hk : k ≤ n) : (rowk f n k).toArray[i]? = some (.int .i64 f) := by
  have h0 : i < (List.replicate k f ++ List.replicate (n - k) 0).length := by simp; omega
  rw [List.getElem?_toArray]
  unfold rowk
  rw [ints_get _ i h0, List.getD_eq_getElem?_getD, List.getElem?_append_left (by simpa using h)]
  simp [h]

theorem made_row {w1 : World} {g n : Nat} (f : Int) (h : w1.ownsRow g 3 1 (.slice (some ⟨g, 0, none⟩) n n) n (madeCells (Value.int .i64 0).cells (n * 1)).toList) : w1.heap[g]? = some (.cells (rowk f n 0).toArray 3 (0, 0)) := by
  rcases h.2 with ⟨h0, _⟩ | ⟨g', cap, cur, hv, hB, hg, hn, hcap, hcs, htk⟩
  · cases h0
  · simp only [Value.slice.injEq, Option.some.injEq, Addr.mk.injEq, and_true, true_and] at hv
    obtain ⟨rfl, rfl⟩ := hv
    rw [List.take_of_length_le (by rw [Array.length_toList, hcs]; exact Nat.le_refl _)] at htk
    have e : (madeCells (Value.int .i64 0).cells (n * 1)).toList = rowk f n 0 := by
      rw [show (Value.int .i64 0).cells = #[.int .i64 0] from rfl, toList_madeCells_one]
      simp [rowk, ints]
    rw [hg, ← e, ← htk]
theorem rep_src {w w1 : World} {g : Nat} {f : Int} {n : Nat} (hx : w.cell? ⟨g, 0, none⟩ = some (.int .i64 f)) (hb : Below w.heap.size w w1) (hg : g < w.heap.size) :
    ∀ j v, (ints (List.replicate (min 1 n) f))[j]? = some v → w1.cell? ((⟨g, 0, none⟩ : Addr).add j) = some v := by
  intro j v hj
  have hlt : j < (ints (List.replicate (min 1 n) f)).length := (List.getElem?_eq_some_iff.1 hj).1
  have hl : (ints (List.replicate (min 1 n) f)).length = min 1 n := by simp [ints]
  have h0 : j = 0 := by omega
  subst h0
  have hn : 0 < n := by omega
  have e : (⟨g, 0, none⟩ : Addr).add 0 = ⟨g, 0, none⟩ := by unfold Addr.add; split <;> simp_all
  rw [e, (hb.cell (p := ⟨g, 0, none⟩) hg).trans hx, ← hj, show min 1 n = 1 from by omega]
  rfl
theorem rep_self {w1 : World} {g n k : Nat} {f : Int} (hg : w1.heap[g]? = some (.cells (rowk f n k).toArray 3 (0, 0))) (hk : k ≤ n) (j : Nat) (hj : j ≤ k) :
    ∀ i v, (ints (List.replicate j f))[i]? = some v → w1.cell? ((⟨g, 0, none⟩ : Addr).add i) = some v := by
  intro i v hi
  have hlt : i < (ints (List.replicate j f)).length := (List.getElem?_eq_some_iff.1 hi).1
  have hl : (ints (List.replicate j f)).length = j := by simp [ints]
  have e : (⟨g, 0, none⟩ : Addr).add i = ⟨g, i, none⟩ := by unfold Addr.add; split <;> simp_all
  rw [e, cell_of_row w1 g i _ _ (0, 0) hg, rowk_get f n k i (by omega) hk, ← hi]
  have : i < j := by omega
  simp [ints, this]

theorem rep_own {w1 : World} {g n : Nat} {f : Int} (h : w1.heap[g]? = some (.cells (rowk f n n).toArray 3 (0, 0))) (hn : n ≤ 6) : OwnL w1 g (.slice (some ⟨g, 0, none⟩) n n) (List.replicate n f) := by
  have e : rowk f n n = ints (List.replicate n f) := by simp [rowk]
  rw [e] at h
  have hl : (List.replicate n f).length = n := by simp
  have h2 : w1.ownsRow g 3 1 (.slice (some ⟨g, 0, none⟩) n n) n (ints (List.replicate n f)) := by
    refine ⟨by simp [ints], .inr ⟨g, n, (ints (List.replicate n f)).toArray, rfl, Nat.le_refl _, h, Nat.le_refl _, by unfold maxLen; omega, by simp [ints], ?_⟩⟩
    rw [Nat.mul_one]
    simp [ints]
  show w1.ownsRow _ _ _ _ (List.replicate n f).length _
  rw [hl]; exact h2

set_option maxHeartbeats 3200000 in
theorem rep_any (w : World) (f : Int) (g c n : Nat) (hn : n ≤ 6) (hx : w.cell? ⟨g, 0, none⟩ = some (.int .i64 f)) :
    Calls Try.prog 25 #[.slice (some ⟨g, 0, none⟩) 1 c, .int .i64 n] w (fun e w' => ∃ u, e = .returned u ∧ OwnL w' w.heap.size u (List.replicate n f) ∧ Below w.heap.size w w') := by
  have hglt : g < w.heap.size := World.block_lt_of_cell? w _ hx
  have HMU := Lib.hid (mul_any n hn w)
  obtain ⟨i0, hi, hz0, hz1, hz2⟩ := info_parts info3
  have hsz1 : (Try.prog.info? 3).map (·.size) = some 1 := by rw [hi]; simp [hz1]
  have HI := Lib.hid hi
  have HZ0 := Lib.hid hz0
  have HZ1 := Lib.hid hz1
  have HZ2 := Lib.hid hz2
  have HS1 := Lib.hid hsz1
  have HX := Lib.hid hx
  have hcv : ∀ W, (convert 3 50 (.int .i64 (n : Int))).run Try.prog W = .ok (.int .u64 (n : Int)) W := by
    intro W
    rcases (show n = 0 ∨ n = 1 ∨ n = 2 ∨ n = 3 ∨ n = 4 ∨ n = 5 ∨ n = 6 from by omega) with rfl | rfl | rfl | rfl | rfl | rfl | rfl <;> kernel_rfl
  have hcv2 : ∀ W, (convert 50 3 (.int .u64 (n : Int))).run Try.prog W = .ok (.int .i64 (n : Int)) W := by
    intro W
    rcases (show n = 0 ∨ n = 1 ∨ n = 2 ∨ n = 3 ∨ n = 4 ∨ n = 5 ∨ n = 6 from by omega) with rfl | rfl | rfl | rfl | rfl | rfl | rfl <;> kernel_rfl
  have hd0 : decide ((n : Int) < 0) = false := decide_eq_false (by omega)
  have hd1 : decide ((9223372036854775807 : Int) < (n : Int)) = false := decide_eq_false (by omega)
  clear hi hz0 hz1 hz2 hsz1 hx
  go_enter Try.func25, Try.ntmps25
  go_wp2_with fail
  refine HMU.out.mono ?_
  rintro e w' ⟨rfl, rfl⟩
  obtain ⟨CS, hCS⟩ : ∃ CS, CS = ints (List.replicate (min 1 n) f) := ⟨_, rfl⟩
  have hcsl : CS.length = Nat.min 1 n := by rw [hCS]; simp [ints]
  have hone : ∀ v ∈ CS, v.oneCell' = true := by rw [hCS]; intro u hu; obtain ⟨x, _, rfl⟩ := List.mem_map.1 hu; rfl
  have HSRC : Hid (∀ W, Below w.heap.size w W → ∀ j v, CS[j]? = some v → W.cell? ((⟨g, 0, none⟩ : Addr).add j) = some v) := Lib.hid (fun W hb => by rw [hCS]; exact rep_src HX.out hb hglt)
  have HSP : Hid (splice (rowk f n 0) 0 CS = rowk f n (min 1 n)) := Lib.hid (by rw [hCS, rowk_splice f n 0 (min 1 n) (by omega), Nat.zero_add])
  have HCL := Lib.hid hcsl
  have HON := Lib.hid hone
  have HRL := Lib.hid (rowk_len f n 0 (Nat.zero_le _))
  clear hCS hcsl hone
  go_wp2_with (first
    | (at_make; refine wpList_make_full _ rfl _ _ 24 rfl w.heap.size 3 i0 (.int .i64 0) 1 Try.underlying24 HI.out HZ0.out HZ1.out _ _ _ _ n rfl rfl rfl rfl (by rw [HZ2.out]; omega) (by unfold maxLen; omega) (Nat.le_refl _) ?_; intro w1 hown1 hg1; have hb1 := (Below.refl w.heap.size w).grown hg1 (Nat.le_refl _) (fun k hk => by cases hk); have HROW := Lib.hid (made_row f hown1); have HBL := Lib.hid hb1; clear hown1 hg1 hb1)
    | (with_reducible refine wpList_copy_splice rfl (.tmp 31) (.tmp 32) 24 24 rfl 3 Try.underlying24 HS1.out (some ⟨w.heap.size, 0, none⟩) (some ⟨g, 0, none⟩) n n 1 c rfl rfl w.heap.size 0 (rowk f n 0) 3 HROW.out CS HCL.out (fun _ => ⟨rfl, _, rfl, HSRC.out _ HBL.out⟩) (by have := HRL.out; have := HCL.out; have : Nat.min 1 n ≤ n := Nat.min_le_right 1 n; omega) HON.out w.heap.size w HBL.out (Nat.le_refl _) ?_; intro w2 HG2 hB2))
  have HW2 : Hid (w2.heap[w.heap.size]? = some (.cells (rowk f n (min 1 n)).toArray 3 (0, 0))) := Lib.hid (by rw [← HSP.out]; exact HG2.out)
  have HB2 := Lib.hid hB2
  obtain ⟨k0, hk0⟩ : ∃ k0, k0 = min 1 n := ⟨_, rfl⟩
  have hcl : CS.length = k0 := by rw [hk0]; exact HCL.out
  rw [hcl]
  rw [← hk0] at HW2
  clear HG2 hB2 HSP HSRC HROW HBL HON HRL HCL hcl
  go_loopw [8] (fun nv wr => ∃ k : Nat, (0 < n → 1 ≤ k) ∧ k ≤ n ∧ nv = .int .i64 k ∧ Hid (wr.heap[w.heap.size]? = some (.cells (rowk f n k).toArray 3 (0, 0))) ∧ Below w.heap.size w wr) (fun nv _ => n - (intOf nv).toNat)
  case atStart => exact ⟨k0, by omega, by omega, rfl, HW2, HB2.out⟩
  case round =>
    obtain ⟨k, hk1, hkc, rfl, hh, hbel⟩ := hrel
    clear hk0 HW2 HB2
    by_cases hlt : k < n
    · obtain ⟨q, hq, hq1, hqc⟩ : ∃ q, q = min k (n - k) ∧ 1 ≤ q ∧ k + q ≤ n := ⟨min k (n - k), rfl, by omega, by omega⟩
      have HBEL := Lib.hid hbel
      have hmin : (ints (List.replicate q f)).length = Nat.min k (n - k) := by simp [ints]; exact hq
      have hfit : k + (ints (List.replicate q f)).length ≤ (rowk f n k).length := by rw [rowk_len f n k hkc]; simp [ints]; exact hqc
      have hsrc : ∀ j v, (ints (List.replicate q f))[j]? = some v → wr.drew.cell? ((⟨w.heap.size, 0, none⟩ : Addr).add j) = some v := by
        intro j v hj
        exact rep_self (w1 := wr.drew) hh.out hkc q (by omega) j v hj
      have hone : ∀ v ∈ ints (List.replicate q f), v.oneCell' = true := by intro u hu; obtain ⟨x, _, rfl⟩ := List.mem_map.1 hu; rfl
      have hlen : (ints (List.replicate q f)).length = q := by simp [ints]
      obtain ⟨CQ, hCQ⟩ : ∃ CQ, CQ = ints (List.replicate q f) := ⟨_, rfl⟩
      have hspl : splice (rowk f n k) k CQ = rowk f n (k + q) := by rw [hCQ]; exact rowk_splice f n k q hqc
      rw [← hCQ] at hmin hfit hsrc hone hlen
      have HMIN := Lib.hid hmin
      have HFIT := Lib.hid hfit
      have HSRC := Lib.hid hsrc
      have HONE := Lib.hid hone
      have HSPL := Lib.hid hspl
      have HLEN := Lib.hid hlen
      have hkc2 : (k : Int) < (n : Int) := by omega
      have hne : (k : Int) ≠ (n : Int) := by omega
      have hne2 : k ≠ n := by omega
      have hne3 : ¬ n = k := by omega
      have hwr : IntKind.i64.wrap ((k : Int) + (q : Int)) = (k : Int) + (q : Int) := IntWalk.i64_in _ (by omega)
      clear hq hmin hfit hsrc hone hspl hlen hbel hCQ
      go_wp2
      go_region_law ((refine step_copy_splice rfl (.tmp 41) (.tmp 44) 24 24 rfl 3 Try.underlying24 HS1.out (some ⟨w.heap.size, k, none⟩) (some ⟨w.heap.size, 0, none⟩) (n - k) (n - k) k n (by simp [Act.eval, Act.put]) (by simp [Act.eval, Act.put]) w.heap.size k (rowk f n k) 3 hh.out CQ HMIN.out (fun _ => ⟨rfl, _, rfl, HSRC.out⟩) HFIT.out HONE.out w.heap.size w HBEL.out.drew (Nat.le_refl _) ?_; intro w3 hw3 hb3))
      all_goals
        have HW3 : Hid (w3.heap[w.heap.size]? = some (.cells (rowk f n (k + q)).toArray 3 (0, 0))) := (by rw [← HSPL.out]; exact hw3)
        have HB3 := Lib.hid hb3
        have hlen := HLEN.out
        clear hw3 hb3 hh
        rw [hlen]
        go_wp2
        simp [Act.put]
        go_roundw
        case rel => exact ⟨k + q, by omega, hqc, by go_num, HW3, HB3.out⟩
        case measure => simp [intOf]; omega
    · obtain rfl : k = n := by omega
      have HB := Lib.hid hbel
      clear hbel
      go_wp2
      go_ret
      exact ⟨_, rfl, rep_own hh.out (by omega), HB.out⟩
end Go.Proofs.Ytnghpipkdodgiaa
