/-
  The walk of slices.Repeat at one byte 0, and of the function that makes noughts. Condition: the number is at least 1 and small.
-/
import Derived.Test.YtpneopldbeefhaaWmul
import Derived.Test.YtpneopldbeefhaaWdiv
import Derived.Laws.CopyOwn
import Derived.Deep.RegionLaw
namespace Go.Proofs.Ytpneopldbeefhaa
open Go.RowKit
set_option linter.unusedVariables false

theorem row_full {w : World} {B e g n : Nat} {xs : List Value} (h : w.ownsRow B e 1 (.slice (some ⟨g, 0, none⟩) n n) n xs) : w.heap[g]? = some (.cells xs.toArray e (0, 0)) := by
  rcases h.2 with ⟨h1, _⟩ | ⟨g', cap', cur, hv, _, hh, h1, _, h2, h3⟩
  · cases h1
  · injection hv with a1 a2 a3
    injection a1 with a4
    injection a4 with a5
    subst a5; subst a3
    rw [Nat.mul_one] at h2 h3
    have e1 : cur.toList = xs := by rw [← h3, List.take_of_length_le (by simp; omega)]
    rw [hh, ← e1]
theorem row_of_full {w : World} {B e g n : Nat} {xs : List Value} (h : w.heap[g]? = some (.cells xs.toArray e (0, 0))) (hB : B ≤ g) (hn : xs.length = n) (hm : n ≤ maxLen) : w.ownsRow B e 1 (.slice (some ⟨g, 0, none⟩) n n) n xs := by
  refine ⟨by omega, .inr ⟨g, n, xs.toArray, rfl, hB, h, Nat.le_refl _, hm, by simp; omega, ?_⟩⟩
  rw [Nat.mul_one]
  simp [← hn]
/-- A row of which the first k bytes are noughts' bytes. -/
def fil (c k : Nat) : List Value := List.replicate k (.int .u8 48) ++ List.replicate (c - k) (.int .u8 0)
theorem fil_len (c k : Nat) (h : k ≤ c) : (fil c k).length = c := by simp [fil]; omega
theorem fil_splice (c k q : Nat) (h : k + q ≤ c) : splice (fil c k) k (List.replicate q (.int .u8 48)) = fil c (k + q) := by
  unfold splice fil
  rw [List.take_left' (by simp), List.length_replicate, List.drop_append, List.length_replicate, List.drop_eq_nil_of_le (by simp), List.nil_append, List.drop_replicate, ← List.append_assoc, List.replicate_append_replicate]
  congr 2
  omega
theorem fil_at (c k j : Nat) (h : j < k) : (fil c k)[j]? = some (.int .u8 48) := by
  unfold fil
  rw [List.getElem?_append_left (by simpa using h), List.getElem?_replicate]
  simp [h]
theorem rep_one (q : Nat) : ∀ v ∈ List.replicate q (Value.int .u8 48), v.oneCell' = true := by
  intro v hv
  rw [List.eq_of_mem_replicate hv]; rfl

theorem cp_min1 {c : Nat} (h : 1 ≤ c) : (List.replicate 1 (Value.int .u8 48)).length = Nat.min 1 c := by
  rw [List.length_replicate]; exact (Nat.min_eq_left h).symm
theorem cp_fit (c : Nat) (h : 1 ≤ c) : 0 + (List.replicate 1 (Value.int .u8 48)).length ≤ (fil c 0).length := by
  rw [fil_len c 0 (by omega), List.length_replicate]; omega
theorem cp_src {w w1 : World} {b0 : Nat} (h : w.cell? ⟨b0, 0, none⟩ = some (.int .u8 48)) (hb0 : b0 < w.heap.size) (hb : Below w.heap.size w w1) : ∀ j v, (List.replicate 1 (Value.int .u8 48))[j]? = some v → w1.cell? ((⟨b0, 0, none⟩ : Addr).add j) = some v := by
  intro j v hj
  have : j = 0 := by
    have := (List.getElem?_eq_some_iff.1 hj).1
    simp at this; omega
  subst this
  simp at hj
  subst hj
  have e : (⟨b0, 0, none⟩ : Addr).add 0 = ⟨b0, 0, none⟩ := rfl
  rw [e]
  exact (hb.cell (p := ⟨b0, 0, none⟩) hb0).trans h
theorem own_base8 {w : World} {B B' e n : Nat} {v : Value} {xs : List Value} (h : w.ownsRow B e 1 v n xs) (hB : ∀ g, v.ownBlock = some g → B' ≤ g) : w.ownsRow B' e 1 v n xs := by
  obtain ⟨h1, h2⟩ := h
  refine ⟨h1, ?_⟩
  rcases h2 with h2 | ⟨g, cap, cur, a, b, c, d⟩
  · exact .inl h2
  · exact .inr ⟨g, cap, cur, a, hB g (by rw [a]; rfl), c, d⟩
theorem fil_made (c : Nat) : (madeCells (Value.int .u8 0).cells (c * 1)).toList = fil c 0 := by
  rw [show (Value.int .u8 0).cells = #[.int .u8 0] from rfl, toList_madeCells_one]
  simp [fil]
theorem fil_end (c : Nat) : fil c c = cellsOf (List.replicate c 48) := by simp [fil, cellsOf]

set_option maxHeartbeats 3200000 in
theorem rep_any (w : World) (b0 c : Nat) (hc1 : 1 ≤ c) (hc : c ≤ 1000) (hb0 : b0 < w.heap.size) (hcell : w.cell? ⟨b0, 0, none⟩ = some (.int .u8 48)) :
    Calls Try.prog 46 #[.slice (some ⟨b0, 0, none⟩) 1 1, .int .i64 c] w fun e w' => e = .returned (.slice (some ⟨w.heap.size, 0, none⟩) c c) ∧ w'.ownsRow w.heap.size 5 1 (.slice (some ⟨w.heap.size, 0, none⟩) c c) c (cellsOf (List.replicate c 48)) ∧ Below w.heap.size w w' := by
  obtain ⟨i0, hi, hz0, hz1, hz2⟩ := info_parts info5
  have HI := Lib.hid hi
  have HZ0 := Lib.hid hz0
  have HZ1 := Lib.hid hz1
  have HZ2 := Lib.hid hz2
  have H := Lib.hid (mul_any c w hc)
  have HC := Lib.hid hcell
  have h4 := wrap_u64_nat c (by omega)
  have h5 : IntKind.i64.wrap (c : Int) = c := IntWalk.i64_in _ (by omega)
  have hsz : (Try.prog.info? 5).map (·.size) = some 1 := by rw [HI.out]; simp [HZ1.out]
  have HSZ := Lib.hid hsz
  have hd1 : decide ((c : Int) < 0) = false := by simp
  have hd2 : decide ((9223372036854775807 : Int) < (c : Int)) = false := by simp; omega
  clear hi hz0 hz1 hz2 hcell hsz
  go_enter Try.func46, Try.ntmps46
  go_wp2_with (first | (go_at_call 47; refine H.out.mono ?_; rintro e w' ⟨rfl, rfl⟩) | (at_make; refine wpList_make_full _ rfl _ _ 29 rfl w.heap.size 5 i0 (.int .u8 0) 1 Try.underlying29 HI.out HZ0.out HZ1.out _ _ _ _ c rfl rfl rfl rfl (by rw [HZ2.out]; omega) (by unfold maxLen; omega) (Nat.le_refl _) ?_; intro w1 hown1 hg1; have hb1 := (Below.refl w.heap.size w).grown hg1 (Nat.le_refl _) (fun k hk => by cases hk); have HF1 : Hid (w1.heap[w.heap.size]? = some (.cells (fil c 0).toArray 5 (0, 0))) := (by rw [← fil_made c]; exact row_full hown1); clear hown1) | (refine wpList_copy_splice rfl (.tmp 31) (.tmp 32) 29 29 rfl 5 Try.underlying29 HSZ.out (some ⟨w.heap.size, 0, none⟩) (some ⟨b0, 0, none⟩) c c 1 1 rfl rfl w.heap.size 0 (fil c 0) 5 HF1.out (List.replicate 1 (.int .u8 48)) (cp_min1 hc1) (fun _ => ⟨rfl, _, rfl, cp_src HC.out hb0 hb1⟩) (cp_fit c hc1) (rep_one 1) w.heap.size w hb1 (Nat.le_refl _) ?_; intro w2 hw2 hb2))
  rw [show splice (fil c 0) 0 (List.replicate 1 (.int .u8 48)) = fil c 1 from fil_splice c 0 1 hc1] at hw2
  have HW2 := Lib.hid hw2
  have HB2 := Lib.hid hb2
  clear HF1 hb1 hg1 hw2 hb2
  go_loopw [8] (fun nv wr => ∃ k : Nat, 1 ≤ k ∧ k ≤ c ∧ nv = .int .i64 k ∧ Hid (wr.heap[w.heap.size]? = some (.cells (fil c k).toArray 5 (0, 0))) ∧ Below w.heap.size w wr) (fun nv _ => c - (intOf nv).toNat)
  case atStart => exact ⟨1, by omega, hc1, rfl, HW2.out, HB2.out⟩
  case round =>
    obtain ⟨k, hk1, hkc, rfl, hh, hbel⟩ := hrel
    by_cases hlt : k < c
    · obtain ⟨q, hq, hq1, hqc⟩ : ∃ q, q = min k (c - k) ∧ 1 ≤ q ∧ k + q ≤ c := ⟨min k (c - k), rfl, by omega, by omega⟩
      have HQ := Lib.hid hq
      have HBEL := Lib.hid hbel
      have hmin : (List.replicate q (Value.int .u8 48)).length = Nat.min k (c - k) := by rw [List.length_replicate]; exact hq
      have hfit : k + (List.replicate q (Value.int .u8 48)).length ≤ (fil c k).length := by rw [List.length_replicate, fil_len c k hkc]; exact hqc
      have hsrc : ∀ j v, (List.replicate q (Value.int .u8 48))[j]? = some v → wr.drew.cell? ((⟨w.heap.size, 0, none⟩ : Addr).add j) = some v := by
        intro j v hj
        have hjq : j < q := by
          have := (List.getElem?_eq_some_iff.1 hj).1
          simpa using this
        have hv : v = .int .u8 48 := by
          rw [List.getElem?_replicate, if_pos hjq] at hj
          injection hj with hj; exact hj.symm
        have e : (⟨w.heap.size, 0, none⟩ : Addr).add j = ⟨w.heap.size, j, none⟩ := by unfold Addr.add; split <;> simp_all
        rw [e, hv]
        show wr.cell? ⟨w.heap.size, j, none⟩ = _
        rw [cell_of_row wr w.heap.size j _ _ (0, 0) hh]
        simp [fil_at c k j (by omega)]
      have HMIN := Lib.hid hmin
      have HFIT := Lib.hid hfit
      have HSRC := Lib.hid hsrc
      have hkc2 : (k : Int) < (c : Int) := by omega
      have hne : (k : Int) ≠ (c : Int) := by omega
      have hne2 : k ≠ c := by omega
      have hne3 : ¬ c = k := by omega
      have hwr : IntKind.i64.wrap ((k : Int) + (q : Int)) = (k : Int) + (q : Int) := IntWalk.i64_in _ (by omega)
      clear hq hmin hfit hsrc hbel
      go_wp2
      go_region_law ((refine step_copy_splice rfl (.tmp 41) (.tmp 44) 29 29 rfl 5 Try.underlying29 HSZ.out (some ⟨w.heap.size, k, none⟩) (some ⟨w.heap.size, 0, none⟩) (c - k) (c - k) k c (by simp [Act.eval, Act.put]) (by simp [Act.eval, Act.put]) w.heap.size k (fil c k) 5 hh.out (List.replicate q (.int .u8 48)) HMIN.out (fun _ => ⟨rfl, _, rfl, HSRC.out⟩) HFIT.out (rep_one q) w.heap.size w HBEL.out.drew (Nat.le_refl _) ?_; intro w3 hw3 hb3))
      all_goals
        have HW3 : Hid (w3.heap[w.heap.size]? = some (.cells (fil c (k + q)).toArray 5 (0, 0))) := (by rw [← fil_splice c k q hqc]; exact hw3)
        have HB3 := Lib.hid hb3
        clear hw3 hb3 hh
        go_wp2
        simp [Act.put]
        go_roundw
        case rel => exact ⟨k + q, by omega, hqc, by go_num, HW3, HB3.out⟩
        case measure => simp [intOf]; omega
    · obtain rfl : k = c := by omega
      have HB := Lib.hid hbel
      clear hbel
      go_wp2
      go_ret
      exact ⟨rfl, row_of_full (by rw [← fil_end]; exact hh) (Nat.le_refl _) (by rw [cellsOf_len]; simp) (by unfold maxLen; omega), HB.out⟩

set_option maxHeartbeats 800000 in
theorem nou_any (w : World) (c : Nat) (hc1 : 1 ≤ c) (hc : c ≤ 1000) :
    Calls Try.prog 41 #[.int .i64 c] w fun e w' => e = .returned (.slice (some ⟨w.heap.size + 1, 0, none⟩) c c) ∧ w'.ownsRow w.heap.size 5 1 (.slice (some ⟨w.heap.size + 1, 0, none⟩) c c) c (cellsOf (List.replicate c 48)) ∧ Below w.heap.size w w' := by
  have h1 := rep_any (w.alloc (.cells #[.int .u8 48] 5)) w.heap.size c hc1 hc (by simp) (World.cell?_alloc_at _ _ _ _ rfl)
  rw [World.size_alloc] at h1
  have H1 := Lib.hid h1
  clear h1
  go_enter Try.func41, Try.ntmps41
  go_wp2_with (go_at_call 46; refine H1.out.mono ?_; rintro e w1 ⟨rfl, ho, hb⟩)
  go_ret
  exact ⟨rfl, own_base8 ho (by intro j hj; simp [Value.ownBlock] at hj; omega), ((Below.refl w.heap.size w).alloc (Nat.le_refl _) _).trans (hb.mono (by omega))⟩
end Go.Proofs.Ytpneopldbeefhaa
