/-
  The walk of the model's function that says whether a link is one of a plan. No condition but that the plan is valid.
-/
import Derived.Test.YtpjefjomihnbhaaWvl
import Derived.Test.YtpjefjomihnbhaaWst
namespace Go.Proofs.Ytpjefjomihnbhaa
open Go.RowKit
set_option linter.unusedVariables false

/-- Whether the bits held up to j are where they may be. -/
def hbB (h e : Int) : Nat → Bool
  | 0 => true
  | j + 1 => hbB h e j && !(decide (h / 2 ^ j % 2 = 1) && (decide (j = 0) || decide (e ≤ (j : Int))))
theorem hbB_false {h e : Int} : ∀ {K j : Nat}, j ≤ K → hbB h e j = false → hbB h e K = false
  | 0, j, hj, hb => by obtain rfl : j = 0 := by omega
                       exact hb
  | K + 1, j, hj, hb => by
    rcases Nat.lt_or_ge j (K + 1) with h1 | h1
    · unfold hbB; rw [hbB_false (K := K) (by omega) hb]; rfl
    · obtain rfl : j = K + 1 := by omega
      exact hb
theorem hb_fin : ∀ (K : Fin 4) (h : Fin 16) (e : Fin 6), (wi ((h.val : Nat) : Int) 0 (2 ^ (K.val + 1) - 1) && hbB ((h.val : Nat) : Int) ((e.val : Nat) : Int) (K.val + 1)) =
    (decide (((h.val : Nat) : Int) % 2 = 0) && wi ((h.val : Nat) : Int) 0 (2 ^ (min (((K.val + 1 : Nat) : Int)) ((e.val : Nat) : Int)).toNat - 1)) := by decide +kernel
theorem hb_eq (h d s : Int) (K : Nat) (hK : 1 ≤ K ∧ K ≤ 4) (hd : 0 ≤ d ∧ d ≤ s ∧ s ≤ 5) :
    (wi h 0 (2 ^ K - 1) && hbB h (s - d) K) = (decide (h % 2 = 0) && wi h 0 (2 ^ (min (K : Int) (s - d)).toNat - 1)) := by
  have hp := pow_16 K hK.2
  by_cases hh : 0 ≤ h ∧ h ≤ 2 ^ K - 1
  · have := hb_fin ⟨K - 1, by omega⟩ ⟨h.toNat, by omega⟩ ⟨(s - d).toNat, by omega⟩
    simp only at this
    rw [show K - 1 + 1 = K from by omega, Int.toNat_of_nonneg hh.1, Int.toNat_of_nonneg (show 0 ≤ s - d by omega)] at this
    exact this
  · have hm : (min (K : Int) (s - d)).toNat ≤ K := by omega
    have h2 := pow_mono hm
    have e1 : wi h 0 (2 ^ K - 1) = false := by simp [wi]; omega
    have e2 : wi h 0 (2 ^ (min (K : Int) (s - d)).toNat - 1) = false := by simp [wi]; omega
    rw [e1, e2]; simp
theorem spow_at (K : Nat) (v : Int) (hK : K ≤ 4) (hv : 2 ^ K = v) (w : World) : Calls Try.prog 29 #[.int .i64 (K : Int)] w fun e w' => e = .returned (.int .i64 v) ∧ w = w' := by
  rw [← hv]; exact spow_any K hK w
theorem inr_at (x lo hi : Int) (b : Bool) (hb : wi x lo hi = b) (w : World) : Calls Try.prog 21 #[.int .i64 x, .int .i64 lo, .int .i64 hi] w fun e w' => e = .returned (.bool b) ∧ w = w' := by
  rw [← hb]; exact inr_any x lo hi w

set_option maxHeartbeats 3200000 in
theorem svl_1 (n a m kn s d h da wo : Int) (K : Nat) (w : World)  (hb : 2 ≤ n ∧ n ≤ 4 ∧ 1 ≤ a ∧ a ≤ 4 ∧ 1 ≤ K ∧ K ≤ 4 ∧ 1 ≤ m ∧ m ≤ 5) (c1 : wi kn 0 m = false) :
    Calls Try.prog 19 #[(.agg #[.int .i64 n, .int .i64 a, .int .i64 (K : Int), .int .i64 m]), (.agg #[.int .i64 kn, .int .i64 s, .int .i64 d, .int .i64 h, .int .i64 da, .int .i64 wo])] w fun e w' => e = .returned (.bool false) ∧ Below w.heap.size w w' := by
  have ne := Wld.ne (S := (fun w' => Two w w' #[.int .i64 n, .int .i64 a, .int .i64 (K : Int), .int .i64 m] #[.int .i64 kn, .int .i64 s, .int .i64 d, .int .i64 h, .int .i64 da, .int .i64 wo])) (Two.new w _ _)
  have hp0 : ∀ x : Wld (fun w' => Two w w' #[.int .i64 n, .int .i64 a, .int .i64 (K : Int), .int .i64 m] #[.int .i64 kn, .int .i64 s, .int .i64 d, .int .i64 h, .int .i64 da, .int .i64 wo]), x.v.cell? ⟨w.heap.size, 0, none⟩ = some (.int .i64 n) := fun x => x.h.p.cell 0
  have hp1 : ∀ x : Wld (fun w' => Two w w' #[.int .i64 n, .int .i64 a, .int .i64 (K : Int), .int .i64 m] #[.int .i64 kn, .int .i64 s, .int .i64 d, .int .i64 h, .int .i64 da, .int .i64 wo]), x.v.cell? ⟨w.heap.size, 1, none⟩ = some (.int .i64 a) := fun x => x.h.p.cell 1
  have hp2 : ∀ x : Wld (fun w' => Two w w' #[.int .i64 n, .int .i64 a, .int .i64 (K : Int), .int .i64 m] #[.int .i64 kn, .int .i64 s, .int .i64 d, .int .i64 h, .int .i64 da, .int .i64 wo]), x.v.cell? ⟨w.heap.size, 2, none⟩ = some (.int .i64 (K : Int)) := fun x => x.h.p.cell 2
  have hp3 : ∀ x : Wld (fun w' => Two w w' #[.int .i64 n, .int .i64 a, .int .i64 (K : Int), .int .i64 m] #[.int .i64 kn, .int .i64 s, .int .i64 d, .int .i64 h, .int .i64 da, .int .i64 wo]), x.v.cell? ⟨w.heap.size, 3, none⟩ = some (.int .i64 m) := fun x => x.h.p.cell 3
  have hl0 : ∀ x : Wld (fun w' => Two w w' #[.int .i64 n, .int .i64 a, .int .i64 (K : Int), .int .i64 m] #[.int .i64 kn, .int .i64 s, .int .i64 d, .int .i64 h, .int .i64 da, .int .i64 wo]), x.v.cell? ⟨w.heap.size + 1, 0, none⟩ = some (.int .i64 kn) := fun x => x.h.l.cell 0
  have hl1 : ∀ x : Wld (fun w' => Two w w' #[.int .i64 n, .int .i64 a, .int .i64 (K : Int), .int .i64 m] #[.int .i64 kn, .int .i64 s, .int .i64 d, .int .i64 h, .int .i64 da, .int .i64 wo]), x.v.cell? ⟨w.heap.size + 1, 1, none⟩ = some (.int .i64 s) := fun x => x.h.l.cell 1
  have hl2 : ∀ x : Wld (fun w' => Two w w' #[.int .i64 n, .int .i64 a, .int .i64 (K : Int), .int .i64 m] #[.int .i64 kn, .int .i64 s, .int .i64 d, .int .i64 h, .int .i64 da, .int .i64 wo]), x.v.cell? ⟨w.heap.size + 1, 2, none⟩ = some (.int .i64 d) := fun x => x.h.l.cell 2
  have hl3 : ∀ x : Wld (fun w' => Two w w' #[.int .i64 n, .int .i64 a, .int .i64 (K : Int), .int .i64 m] #[.int .i64 kn, .int .i64 s, .int .i64 d, .int .i64 h, .int .i64 da, .int .i64 wo]), x.v.cell? ⟨w.heap.size + 1, 3, none⟩ = some (.int .i64 h) := fun x => x.h.l.cell 3
  have hl4 : ∀ x : Wld (fun w' => Two w w' #[.int .i64 n, .int .i64 a, .int .i64 (K : Int), .int .i64 m] #[.int .i64 kn, .int .i64 s, .int .i64 d, .int .i64 h, .int .i64 da, .int .i64 wo]), x.v.cell? ⟨w.heap.size + 1, 4, none⟩ = some (.int .i64 da) := fun x => x.h.l.cell 4
  have hl5 : ∀ x : Wld (fun w' => Two w w' #[.int .i64 n, .int .i64 a, .int .i64 (K : Int), .int .i64 m] #[.int .i64 kn, .int .i64 s, .int .i64 d, .int .i64 h, .int .i64 da, .int .i64 wo]), x.v.cell? ⟨w.heap.size + 1, 5, none⟩ = some (.int .i64 wo) := fun x => x.h.l.cell 5
  have H1 := Lib.hid (fun W => inr_at kn 0 m false c1 W)
  clear c1
  go_enter Try.func19, Try.ntmps19
  go_wp2
  refine wp_region_heldq (fun w' => Two w w' #[.int .i64 n, .int .i64 a, .int .i64 (K : Int), .int .i64 m] #[.int .i64 kn, .int .i64 s, .int .i64 d, .int .i64 h, .int .i64 da, .int .i64 wo]) (by kernel_rfl) (by kernel_rfl) (Two.new w _ _).drew ?_
  repeat (go_big_quiet_step (first | (with_reducible exact held_same (H1.out _))))
  refine wpQuiet_nil ?_
  rintro _ ⟨x, rfl⟩
  go_wp2
  go_ret
  exact ⟨rfl, x.h.b⟩

set_option maxHeartbeats 3200000 in
theorem svl_2lt (n a m kn s d h da wo : Int) (K : Nat) (w : World)  (mn : Int) (hb : 2 ≤ n ∧ n ≤ 4 ∧ 1 ≤ a ∧ a ≤ 4 ∧ 1 ≤ K ∧ K ≤ 4 ∧ 1 ≤ m ∧ m ≤ 5) (c1 : wi kn 0 m = true) (c2 : wi s kn mn = false) (hmn : kn + a < m ∧ kn + a = mn) :
    Calls Try.prog 19 #[(.agg #[.int .i64 n, .int .i64 a, .int .i64 (K : Int), .int .i64 m]), (.agg #[.int .i64 kn, .int .i64 s, .int .i64 d, .int .i64 h, .int .i64 da, .int .i64 wo])] w fun e w' => e = .returned (.bool false) ∧ Below w.heap.size w w' := by
  have ne := Wld.ne (S := (fun w' => Two w w' #[.int .i64 n, .int .i64 a, .int .i64 (K : Int), .int .i64 m] #[.int .i64 kn, .int .i64 s, .int .i64 d, .int .i64 h, .int .i64 da, .int .i64 wo])) (Two.new w _ _)
  have hp0 : ∀ x : Wld (fun w' => Two w w' #[.int .i64 n, .int .i64 a, .int .i64 (K : Int), .int .i64 m] #[.int .i64 kn, .int .i64 s, .int .i64 d, .int .i64 h, .int .i64 da, .int .i64 wo]), x.v.cell? ⟨w.heap.size, 0, none⟩ = some (.int .i64 n) := fun x => x.h.p.cell 0
  have hp1 : ∀ x : Wld (fun w' => Two w w' #[.int .i64 n, .int .i64 a, .int .i64 (K : Int), .int .i64 m] #[.int .i64 kn, .int .i64 s, .int .i64 d, .int .i64 h, .int .i64 da, .int .i64 wo]), x.v.cell? ⟨w.heap.size, 1, none⟩ = some (.int .i64 a) := fun x => x.h.p.cell 1
  have hp2 : ∀ x : Wld (fun w' => Two w w' #[.int .i64 n, .int .i64 a, .int .i64 (K : Int), .int .i64 m] #[.int .i64 kn, .int .i64 s, .int .i64 d, .int .i64 h, .int .i64 da, .int .i64 wo]), x.v.cell? ⟨w.heap.size, 2, none⟩ = some (.int .i64 (K : Int)) := fun x => x.h.p.cell 2
  have hp3 : ∀ x : Wld (fun w' => Two w w' #[.int .i64 n, .int .i64 a, .int .i64 (K : Int), .int .i64 m] #[.int .i64 kn, .int .i64 s, .int .i64 d, .int .i64 h, .int .i64 da, .int .i64 wo]), x.v.cell? ⟨w.heap.size, 3, none⟩ = some (.int .i64 m) := fun x => x.h.p.cell 3
  have hl0 : ∀ x : Wld (fun w' => Two w w' #[.int .i64 n, .int .i64 a, .int .i64 (K : Int), .int .i64 m] #[.int .i64 kn, .int .i64 s, .int .i64 d, .int .i64 h, .int .i64 da, .int .i64 wo]), x.v.cell? ⟨w.heap.size + 1, 0, none⟩ = some (.int .i64 kn) := fun x => x.h.l.cell 0
  have hl1 : ∀ x : Wld (fun w' => Two w w' #[.int .i64 n, .int .i64 a, .int .i64 (K : Int), .int .i64 m] #[.int .i64 kn, .int .i64 s, .int .i64 d, .int .i64 h, .int .i64 da, .int .i64 wo]), x.v.cell? ⟨w.heap.size + 1, 1, none⟩ = some (.int .i64 s) := fun x => x.h.l.cell 1
  have hl2 : ∀ x : Wld (fun w' => Two w w' #[.int .i64 n, .int .i64 a, .int .i64 (K : Int), .int .i64 m] #[.int .i64 kn, .int .i64 s, .int .i64 d, .int .i64 h, .int .i64 da, .int .i64 wo]), x.v.cell? ⟨w.heap.size + 1, 2, none⟩ = some (.int .i64 d) := fun x => x.h.l.cell 2
  have hl3 : ∀ x : Wld (fun w' => Two w w' #[.int .i64 n, .int .i64 a, .int .i64 (K : Int), .int .i64 m] #[.int .i64 kn, .int .i64 s, .int .i64 d, .int .i64 h, .int .i64 da, .int .i64 wo]), x.v.cell? ⟨w.heap.size + 1, 3, none⟩ = some (.int .i64 h) := fun x => x.h.l.cell 3
  have hl4 : ∀ x : Wld (fun w' => Two w w' #[.int .i64 n, .int .i64 a, .int .i64 (K : Int), .int .i64 m] #[.int .i64 kn, .int .i64 s, .int .i64 d, .int .i64 h, .int .i64 da, .int .i64 wo]), x.v.cell? ⟨w.heap.size + 1, 4, none⟩ = some (.int .i64 da) := fun x => x.h.l.cell 4
  have hl5 : ∀ x : Wld (fun w' => Two w w' #[.int .i64 n, .int .i64 a, .int .i64 (K : Int), .int .i64 m] #[.int .i64 kn, .int .i64 s, .int .i64 d, .int .i64 h, .int .i64 da, .int .i64 wo]), x.v.cell? ⟨w.heap.size + 1, 5, none⟩ = some (.int .i64 wo) := fun x => x.h.l.cell 5
  have b1 := wi_yes c1
  obtain ⟨hmn, rfl⟩ := hmn
  have ea : IntKind.i64.wrap (kn + a) = kn + a := IntWalk.i64_in _ (by omega)
  have H1 := Lib.hid (fun W => inr_at kn 0 m true c1 W)
  have H2 := Lib.hid (fun W => inr_at s kn (kn + a) false c2 W)
  clear c1 c2 hb
  go_enter Try.func19, Try.ntmps19
  go_wp2
  refine wp_region_heldq (fun w' => Two w w' #[.int .i64 n, .int .i64 a, .int .i64 (K : Int), .int .i64 m] #[.int .i64 kn, .int .i64 s, .int .i64 d, .int .i64 h, .int .i64 da, .int .i64 wo]) (by kernel_rfl) (by kernel_rfl) (Two.new w _ _).drew ?_
  repeat (go_big_quiet_step (first | (with_reducible exact held_same (H1.out _)) | (with_reducible exact held_same (H2.out _))))
  refine wpQuiet_nil ?_
  rintro _ ⟨x, rfl⟩
  go_wp2
  go_ret
  exact ⟨rfl, x.h.b⟩

set_option maxHeartbeats 3200000 in
theorem svl_3lt (n a m kn s d h da wo : Int) (K : Nat) (w : World)  (mn : Int) (hb : 2 ≤ n ∧ n ≤ 4 ∧ 1 ≤ a ∧ a ≤ 4 ∧ 1 ≤ K ∧ K ≤ 4 ∧ 1 ≤ m ∧ m ≤ 5) (c1 : wi kn 0 m = true) (c2 : wi s kn mn = true) (c3 : wi d kn s = false) (hmn : kn + a < m ∧ kn + a = mn) :
    Calls Try.prog 19 #[(.agg #[.int .i64 n, .int .i64 a, .int .i64 (K : Int), .int .i64 m]), (.agg #[.int .i64 kn, .int .i64 s, .int .i64 d, .int .i64 h, .int .i64 da, .int .i64 wo])] w fun e w' => e = .returned (.bool false) ∧ Below w.heap.size w w' := by
  have ne := Wld.ne (S := (fun w' => Two w w' #[.int .i64 n, .int .i64 a, .int .i64 (K : Int), .int .i64 m] #[.int .i64 kn, .int .i64 s, .int .i64 d, .int .i64 h, .int .i64 da, .int .i64 wo])) (Two.new w _ _)
  have hp0 : ∀ x : Wld (fun w' => Two w w' #[.int .i64 n, .int .i64 a, .int .i64 (K : Int), .int .i64 m] #[.int .i64 kn, .int .i64 s, .int .i64 d, .int .i64 h, .int .i64 da, .int .i64 wo]), x.v.cell? ⟨w.heap.size, 0, none⟩ = some (.int .i64 n) := fun x => x.h.p.cell 0
  have hp1 : ∀ x : Wld (fun w' => Two w w' #[.int .i64 n, .int .i64 a, .int .i64 (K : Int), .int .i64 m] #[.int .i64 kn, .int .i64 s, .int .i64 d, .int .i64 h, .int .i64 da, .int .i64 wo]), x.v.cell? ⟨w.heap.size, 1, none⟩ = some (.int .i64 a) := fun x => x.h.p.cell 1
  have hp2 : ∀ x : Wld (fun w' => Two w w' #[.int .i64 n, .int .i64 a, .int .i64 (K : Int), .int .i64 m] #[.int .i64 kn, .int .i64 s, .int .i64 d, .int .i64 h, .int .i64 da, .int .i64 wo]), x.v.cell? ⟨w.heap.size, 2, none⟩ = some (.int .i64 (K : Int)) := fun x => x.h.p.cell 2
  have hp3 : ∀ x : Wld (fun w' => Two w w' #[.int .i64 n, .int .i64 a, .int .i64 (K : Int), .int .i64 m] #[.int .i64 kn, .int .i64 s, .int .i64 d, .int .i64 h, .int .i64 da, .int .i64 wo]), x.v.cell? ⟨w.heap.size, 3, none⟩ = some (.int .i64 m) := fun x => x.h.p.cell 3
  have hl0 : ∀ x : Wld (fun w' => Two w w' #[.int .i64 n, .int .i64 a, .int .i64 (K : Int), .int .i64 m] #[.int .i64 kn, .int .i64 s, .int .i64 d, .int .i64 h, .int .i64 da, .int .i64 wo]), x.v.cell? ⟨w.heap.size + 1, 0, none⟩ = some (.int .i64 kn) := fun x => x.h.l.cell 0
  have hl1 : ∀ x : Wld (fun w' => Two w w' #[.int .i64 n, .int .i64 a, .int .i64 (K : Int), .int .i64 m] #[.int .i64 kn, .int .i64 s, .int .i64 d, .int .i64 h, .int .i64 da, .int .i64 wo]), x.v.cell? ⟨w.heap.size + 1, 1, none⟩ = some (.int .i64 s) := fun x => x.h.l.cell 1
  have hl2 : ∀ x : Wld (fun w' => Two w w' #[.int .i64 n, .int .i64 a, .int .i64 (K : Int), .int .i64 m] #[.int .i64 kn, .int .i64 s, .int .i64 d, .int .i64 h, .int .i64 da, .int .i64 wo]), x.v.cell? ⟨w.heap.size + 1, 2, none⟩ = some (.int .i64 d) := fun x => x.h.l.cell 2
  have hl3 : ∀ x : Wld (fun w' => Two w w' #[.int .i64 n, .int .i64 a, .int .i64 (K : Int), .int .i64 m] #[.int .i64 kn, .int .i64 s, .int .i64 d, .int .i64 h, .int .i64 da, .int .i64 wo]), x.v.cell? ⟨w.heap.size + 1, 3, none⟩ = some (.int .i64 h) := fun x => x.h.l.cell 3
  have hl4 : ∀ x : Wld (fun w' => Two w w' #[.int .i64 n, .int .i64 a, .int .i64 (K : Int), .int .i64 m] #[.int .i64 kn, .int .i64 s, .int .i64 d, .int .i64 h, .int .i64 da, .int .i64 wo]), x.v.cell? ⟨w.heap.size + 1, 4, none⟩ = some (.int .i64 da) := fun x => x.h.l.cell 4
  have hl5 : ∀ x : Wld (fun w' => Two w w' #[.int .i64 n, .int .i64 a, .int .i64 (K : Int), .int .i64 m] #[.int .i64 kn, .int .i64 s, .int .i64 d, .int .i64 h, .int .i64 da, .int .i64 wo]), x.v.cell? ⟨w.heap.size + 1, 5, none⟩ = some (.int .i64 wo) := fun x => x.h.l.cell 5
  have b1 := wi_yes c1
  have b2 := wi_yes c2
  obtain ⟨hmn, rfl⟩ := hmn
  have ea : IntKind.i64.wrap (kn + a) = kn + a := IntWalk.i64_in _ (by omega)
  have H1 := Lib.hid (fun W => inr_at kn 0 m true c1 W)
  have H2 := Lib.hid (fun W => inr_at s kn (kn + a) true c2 W)
  have H3 := Lib.hid (fun W => inr_at d kn s false c3 W)
  clear c1 c2 c3 hb
  go_enter Try.func19, Try.ntmps19
  go_wp2
  refine wp_region_heldq (fun w' => Two w w' #[.int .i64 n, .int .i64 a, .int .i64 (K : Int), .int .i64 m] #[.int .i64 kn, .int .i64 s, .int .i64 d, .int .i64 h, .int .i64 da, .int .i64 wo]) (by kernel_rfl) (by kernel_rfl) (Two.new w _ _).drew ?_
  repeat (go_big_quiet_step (first | (with_reducible exact held_same (H1.out _)) | (with_reducible exact held_same (H2.out _)) | (with_reducible exact held_same (H3.out _))))
  refine wpQuiet_nil ?_
  rintro _ ⟨x, rfl⟩
  go_wp2
  go_ret
  exact ⟨rfl, x.h.b⟩

set_option maxHeartbeats 3200000 in
theorem svl_4lt (n a m kn s d h da wo : Int) (K : Nat) (w : World)  (mn pk : Int) (hb : 2 ≤ n ∧ n ≤ 4 ∧ 1 ≤ a ∧ a ≤ 4 ∧ 1 ≤ K ∧ K ≤ 4 ∧ 1 ≤ m ∧ m ≤ 5) (c1 : wi kn 0 m = true) (c2 : wi s kn mn = true) (c3 : wi d kn s = true) (c4 : wi h 0 (pk - 1) = false) (hmn : kn + a < m ∧ kn + a = mn) (hpk : 2 ^ K = pk) :
    Calls Try.prog 19 #[(.agg #[.int .i64 n, .int .i64 a, .int .i64 (K : Int), .int .i64 m]), (.agg #[.int .i64 kn, .int .i64 s, .int .i64 d, .int .i64 h, .int .i64 da, .int .i64 wo])] w fun e w' => e = .returned (.bool false) ∧ Below w.heap.size w w' := by
  have ne := Wld.ne (S := (fun w' => Two w w' #[.int .i64 n, .int .i64 a, .int .i64 (K : Int), .int .i64 m] #[.int .i64 kn, .int .i64 s, .int .i64 d, .int .i64 h, .int .i64 da, .int .i64 wo])) (Two.new w _ _)
  have hp0 : ∀ x : Wld (fun w' => Two w w' #[.int .i64 n, .int .i64 a, .int .i64 (K : Int), .int .i64 m] #[.int .i64 kn, .int .i64 s, .int .i64 d, .int .i64 h, .int .i64 da, .int .i64 wo]), x.v.cell? ⟨w.heap.size, 0, none⟩ = some (.int .i64 n) := fun x => x.h.p.cell 0
  have hp1 : ∀ x : Wld (fun w' => Two w w' #[.int .i64 n, .int .i64 a, .int .i64 (K : Int), .int .i64 m] #[.int .i64 kn, .int .i64 s, .int .i64 d, .int .i64 h, .int .i64 da, .int .i64 wo]), x.v.cell? ⟨w.heap.size, 1, none⟩ = some (.int .i64 a) := fun x => x.h.p.cell 1
  have hp2 : ∀ x : Wld (fun w' => Two w w' #[.int .i64 n, .int .i64 a, .int .i64 (K : Int), .int .i64 m] #[.int .i64 kn, .int .i64 s, .int .i64 d, .int .i64 h, .int .i64 da, .int .i64 wo]), x.v.cell? ⟨w.heap.size, 2, none⟩ = some (.int .i64 (K : Int)) := fun x => x.h.p.cell 2
  have hp3 : ∀ x : Wld (fun w' => Two w w' #[.int .i64 n, .int .i64 a, .int .i64 (K : Int), .int .i64 m] #[.int .i64 kn, .int .i64 s, .int .i64 d, .int .i64 h, .int .i64 da, .int .i64 wo]), x.v.cell? ⟨w.heap.size, 3, none⟩ = some (.int .i64 m) := fun x => x.h.p.cell 3
  have hl0 : ∀ x : Wld (fun w' => Two w w' #[.int .i64 n, .int .i64 a, .int .i64 (K : Int), .int .i64 m] #[.int .i64 kn, .int .i64 s, .int .i64 d, .int .i64 h, .int .i64 da, .int .i64 wo]), x.v.cell? ⟨w.heap.size + 1, 0, none⟩ = some (.int .i64 kn) := fun x => x.h.l.cell 0
  have hl1 : ∀ x : Wld (fun w' => Two w w' #[.int .i64 n, .int .i64 a, .int .i64 (K : Int), .int .i64 m] #[.int .i64 kn, .int .i64 s, .int .i64 d, .int .i64 h, .int .i64 da, .int .i64 wo]), x.v.cell? ⟨w.heap.size + 1, 1, none⟩ = some (.int .i64 s) := fun x => x.h.l.cell 1
  have hl2 : ∀ x : Wld (fun w' => Two w w' #[.int .i64 n, .int .i64 a, .int .i64 (K : Int), .int .i64 m] #[.int .i64 kn, .int .i64 s, .int .i64 d, .int .i64 h, .int .i64 da, .int .i64 wo]), x.v.cell? ⟨w.heap.size + 1, 2, none⟩ = some (.int .i64 d) := fun x => x.h.l.cell 2
  have hl3 : ∀ x : Wld (fun w' => Two w w' #[.int .i64 n, .int .i64 a, .int .i64 (K : Int), .int .i64 m] #[.int .i64 kn, .int .i64 s, .int .i64 d, .int .i64 h, .int .i64 da, .int .i64 wo]), x.v.cell? ⟨w.heap.size + 1, 3, none⟩ = some (.int .i64 h) := fun x => x.h.l.cell 3
  have hl4 : ∀ x : Wld (fun w' => Two w w' #[.int .i64 n, .int .i64 a, .int .i64 (K : Int), .int .i64 m] #[.int .i64 kn, .int .i64 s, .int .i64 d, .int .i64 h, .int .i64 da, .int .i64 wo]), x.v.cell? ⟨w.heap.size + 1, 4, none⟩ = some (.int .i64 da) := fun x => x.h.l.cell 4
  have hl5 : ∀ x : Wld (fun w' => Two w w' #[.int .i64 n, .int .i64 a, .int .i64 (K : Int), .int .i64 m] #[.int .i64 kn, .int .i64 s, .int .i64 d, .int .i64 h, .int .i64 da, .int .i64 wo]), x.v.cell? ⟨w.heap.size + 1, 5, none⟩ = some (.int .i64 wo) := fun x => x.h.l.cell 5
  have b1 := wi_yes c1
  have b2 := wi_yes c2
  have b3 := wi_yes c3
  obtain ⟨hmn, rfl⟩ := hmn
  have ea : IntKind.i64.wrap (kn + a) = kn + a := IntWalk.i64_in _ (by omega)
  have H1 := Lib.hid (fun W => inr_at kn 0 m true c1 W)
  have H2 := Lib.hid (fun W => inr_at s kn (kn + a) true c2 W)
  have H3 := Lib.hid (fun W => inr_at d kn s true c3 W)
  have H4 := Lib.hid (fun W => inr_at h 0 (pk - 1) false c4 W)
  have hp16 := pow_16 K hb.2.2.2.2.2.1
  rw [hpk] at hp16
  have ep : IntKind.i64.wrap (pk - 1) = pk - 1 := IntWalk.i64_in _ (by omega)
  have HP := Lib.hid (fun W => spow_at K pk hb.2.2.2.2.2.1 hpk W)
  have HPK := Lib.hid hpk
  clear hpk
  clear c1 c2 c3 c4 hb
  go_enter Try.func19, Try.ntmps19
  go_wp2
  refine wp_region_heldq (fun w' => Two w w' #[.int .i64 n, .int .i64 a, .int .i64 (K : Int), .int .i64 m] #[.int .i64 kn, .int .i64 s, .int .i64 d, .int .i64 h, .int .i64 da, .int .i64 wo]) (by kernel_rfl) (by kernel_rfl) (Two.new w _ _).drew ?_
  repeat (go_big_quiet_step (first | (with_reducible exact held_same (H1.out _)) | (with_reducible exact held_same (H2.out _)) | (with_reducible exact held_same (H3.out _)) | (with_reducible exact held_same (H4.out _)) | (with_reducible exact held_same (HP.out _))))
  refine wpQuiet_nil ?_
  rintro _ ⟨x, rfl⟩
  go_wp2
  go_ret
  exact ⟨rfl, x.h.b⟩

set_option maxHeartbeats 3200000 in
theorem svl_5lt (n a m kn s d h da wo : Int) (K : Nat) (w : World)  (mn pk : Int) (hb : 2 ≤ n ∧ n ≤ 4 ∧ 1 ≤ a ∧ a ≤ 4 ∧ 1 ≤ K ∧ K ≤ 4 ∧ 1 ≤ m ∧ m ≤ 5) (c1 : wi kn 0 m = true) (c2 : wi s kn mn = true) (c3 : wi d kn s = true) (c4 : wi h 0 (pk - 1) = true) (hmn : kn + a < m ∧ kn + a = mn) (hpk : 2 ^ K = pk) :
    Calls Try.prog 19 #[(.agg #[.int .i64 n, .int .i64 a, .int .i64 (K : Int), .int .i64 m]), (.agg #[.int .i64 kn, .int .i64 s, .int .i64 d, .int .i64 h, .int .i64 da, .int .i64 wo])] w fun e w' => e = .returned (.bool (hbB h (s - d) K && (wi da (-1) (s - 1) && wi wo (-1) d))) ∧ Below w.heap.size w w' := by
  have ne := Wld.ne (S := (fun w' => Two w w' #[.int .i64 n, .int .i64 a, .int .i64 (K : Int), .int .i64 m] #[.int .i64 kn, .int .i64 s, .int .i64 d, .int .i64 h, .int .i64 da, .int .i64 wo])) (Two.new w _ _)
  have hp0 : ∀ x : Wld (fun w' => Two w w' #[.int .i64 n, .int .i64 a, .int .i64 (K : Int), .int .i64 m] #[.int .i64 kn, .int .i64 s, .int .i64 d, .int .i64 h, .int .i64 da, .int .i64 wo]), x.v.cell? ⟨w.heap.size, 0, none⟩ = some (.int .i64 n) := fun x => x.h.p.cell 0
  have hp1 : ∀ x : Wld (fun w' => Two w w' #[.int .i64 n, .int .i64 a, .int .i64 (K : Int), .int .i64 m] #[.int .i64 kn, .int .i64 s, .int .i64 d, .int .i64 h, .int .i64 da, .int .i64 wo]), x.v.cell? ⟨w.heap.size, 1, none⟩ = some (.int .i64 a) := fun x => x.h.p.cell 1
  have hp2 : ∀ x : Wld (fun w' => Two w w' #[.int .i64 n, .int .i64 a, .int .i64 (K : Int), .int .i64 m] #[.int .i64 kn, .int .i64 s, .int .i64 d, .int .i64 h, .int .i64 da, .int .i64 wo]), x.v.cell? ⟨w.heap.size, 2, none⟩ = some (.int .i64 (K : Int)) := fun x => x.h.p.cell 2
  have hp3 : ∀ x : Wld (fun w' => Two w w' #[.int .i64 n, .int .i64 a, .int .i64 (K : Int), .int .i64 m] #[.int .i64 kn, .int .i64 s, .int .i64 d, .int .i64 h, .int .i64 da, .int .i64 wo]), x.v.cell? ⟨w.heap.size, 3, none⟩ = some (.int .i64 m) := fun x => x.h.p.cell 3
  have hl0 : ∀ x : Wld (fun w' => Two w w' #[.int .i64 n, .int .i64 a, .int .i64 (K : Int), .int .i64 m] #[.int .i64 kn, .int .i64 s, .int .i64 d, .int .i64 h, .int .i64 da, .int .i64 wo]), x.v.cell? ⟨w.heap.size + 1, 0, none⟩ = some (.int .i64 kn) := fun x => x.h.l.cell 0
  have hl1 : ∀ x : Wld (fun w' => Two w w' #[.int .i64 n, .int .i64 a, .int .i64 (K : Int), .int .i64 m] #[.int .i64 kn, .int .i64 s, .int .i64 d, .int .i64 h, .int .i64 da, .int .i64 wo]), x.v.cell? ⟨w.heap.size + 1, 1, none⟩ = some (.int .i64 s) := fun x => x.h.l.cell 1
  have hl2 : ∀ x : Wld (fun w' => Two w w' #[.int .i64 n, .int .i64 a, .int .i64 (K : Int), .int .i64 m] #[.int .i64 kn, .int .i64 s, .int .i64 d, .int .i64 h, .int .i64 da, .int .i64 wo]), x.v.cell? ⟨w.heap.size + 1, 2, none⟩ = some (.int .i64 d) := fun x => x.h.l.cell 2
  have hl3 : ∀ x : Wld (fun w' => Two w w' #[.int .i64 n, .int .i64 a, .int .i64 (K : Int), .int .i64 m] #[.int .i64 kn, .int .i64 s, .int .i64 d, .int .i64 h, .int .i64 da, .int .i64 wo]), x.v.cell? ⟨w.heap.size + 1, 3, none⟩ = some (.int .i64 h) := fun x => x.h.l.cell 3
  have hl4 : ∀ x : Wld (fun w' => Two w w' #[.int .i64 n, .int .i64 a, .int .i64 (K : Int), .int .i64 m] #[.int .i64 kn, .int .i64 s, .int .i64 d, .int .i64 h, .int .i64 da, .int .i64 wo]), x.v.cell? ⟨w.heap.size + 1, 4, none⟩ = some (.int .i64 da) := fun x => x.h.l.cell 4
  have hl5 : ∀ x : Wld (fun w' => Two w w' #[.int .i64 n, .int .i64 a, .int .i64 (K : Int), .int .i64 m] #[.int .i64 kn, .int .i64 s, .int .i64 d, .int .i64 h, .int .i64 da, .int .i64 wo]), x.v.cell? ⟨w.heap.size + 1, 5, none⟩ = some (.int .i64 wo) := fun x => x.h.l.cell 5
  have b1 := wi_yes c1
  have b2 := wi_yes c2
  have b3 := wi_yes c3
  obtain ⟨hmn, rfl⟩ := hmn
  have ea : IntKind.i64.wrap (kn + a) = kn + a := IntWalk.i64_in _ (by omega)
  have H1 := Lib.hid (fun W => inr_at kn 0 m true c1 W)
  have H2 := Lib.hid (fun W => inr_at s kn (kn + a) true c2 W)
  have H3 := Lib.hid (fun W => inr_at d kn s true c3 W)
  have H4 := Lib.hid (fun W => inr_at h 0 (pk - 1) true c4 W)
  have hp16 := pow_16 K hb.2.2.2.2.2.1
  rw [hpk] at hp16
  have ep : IntKind.i64.wrap (pk - 1) = pk - 1 := IntWalk.i64_in _ (by omega)
  have HP := Lib.hid (fun W => spow_at K pk hb.2.2.2.2.2.1 hpk W)
  have HPK := Lib.hid hpk
  clear hpk
  have b4 := wi_yes c4
  clear c1 c2 c3 c4
  go_enter Try.func19, Try.ntmps19
  go_wp2
  refine wp_region_heldq (fun w' => Two w w' #[.int .i64 n, .int .i64 a, .int .i64 (K : Int), .int .i64 m] #[.int .i64 kn, .int .i64 s, .int .i64 d, .int .i64 h, .int .i64 da, .int .i64 wo]) (by kernel_rfl) (by kernel_rfl) (Two.new w _ _).drew ?_
  repeat (go_big_quiet_step (first | (with_reducible exact held_same (H1.out _)) | (with_reducible exact held_same (H2.out _)) | (with_reducible exact held_same (H3.out _)) | (with_reducible exact held_same (H4.out _)) | (with_reducible exact held_same (HP.out _))))
  refine wpQuiet_nil ?_
  rintro _ ⟨x, rfl⟩
  obtain ⟨W, hW⟩ := x
  simp only
  clear ne hp0 hp1 hp2 hp3 hl0 hl1 hl2 hl3 hl4 hl5
  obtain ⟨p0, p1, p2, p3⟩ := hW.p.c4
  obtain ⟨l0, l1, l2, l3, l4, l5⟩ := hW.l.c6
  have HW := Lib.hid hW
  have HH := Lib.hid (fun (e : Bool) (he : hbB h (s - d) K = e) => he)
  clear hW
  go_wp2
  go_loop [5] (fun kv => ∃ j : Nat, j ≤ K ∧ kv = .int .i64 j ∧ hbB h (s - d) j = true) (fun kv => K - (intOf kv).toNat)
  case atStart => exact ⟨0, Nat.zero_le _, rfl, rfl⟩
  case round =>
    obtain ⟨j, hj, rfl, hh⟩ := hrel
    have HJ := Lib.hid hh
    clear hh
    by_cases hlt : j < K
    · have HB := Lib.hid (fun W => sbit_any h j (by omega) (by omega) W)
      have hbs : 0 ≤ h / 2 ^ j % 2 ∧ h / 2 ^ j % 2 ≤ 1 := by omega
      by_cases b : h / 2 ^ j % 2 = 1
      · have b' : (h / 2 ^ j % 2 == 1) = true := by simpa using b
        by_cases hj0 : j = 0
        · subst hj0
          have HF := Lib.hid (show hbB h (s - d) K = false from hbB_false (j := 1) (by omega) (by simp [hbB]; simpa using b))
          clear b hbs
          generalize h / 2 ^ 0 % 2 = bt at *
          go_wp2_with (go_at_call 30; refine (HB.out _).mono ?_; rintro e w' ⟨rfl, rfl⟩)
          go_ret
          exact ⟨by rw [HF.out]; rfl, HW.out.b⟩
        · have hj1 : ((j : Int) == 0) = false := by simp; omega
          by_cases hds : s ≤ d + j
          · have HF := Lib.hid (show hbB h (s - d) K = false from hbB_false (j := j + 1) (by omega) (by simp [hbB, b, hj0]; omega))
            clear b hbs hj0
            generalize h / 2 ^ j % 2 = bt at *
            go_wp2_with (go_at_call 30; refine (HB.out _).mono ?_; rintro e w' ⟨rfl, rfl⟩)
            go_ret
            exact ⟨by rw [HF.out]; rfl, HW.out.b⟩
          · have HF := Lib.hid (show hbB h (s - d) (j + 1) = true by simp [hbB, b, hj0, HJ.out]; omega)
            have hds' : decide (s ≤ d + (j : Int)) = false := by simpa using hds
            clear b hbs hj0
            generalize h / 2 ^ j % 2 = bt at *
            go_wp2_with (go_at_call 30; refine (HB.out _).mono ?_; rintro e w' ⟨rfl, rfl⟩)
            go_round
            case rel => exact ⟨j + 1, by omega, by go_num, HF.out⟩
            case measure => simp [intOf]; omega
      · have b' : (h / 2 ^ j % 2 == 1) = false := by simpa using b
        have HF := Lib.hid (show hbB h (s - d) (j + 1) = true by simp [hbB, b, HJ.out])
        clear b hbs
        generalize h / 2 ^ j % 2 = bt at *
        go_wp2_with (go_at_call 30; refine (HB.out _).mono ?_; rintro e w' ⟨rfl, rfl⟩)
        go_round
        case rel => exact ⟨j + 1, by omega, by go_num, HF.out⟩
        case measure => simp [intOf]; omega
    · obtain rfl : j = K := by omega
      cases c5 : wi da (-1) (s - 1)
      · have H5 := Lib.hid (fun W => inr_at da (-1) (s - 1) false c5 W)
        have HC5 := Lib.hid c5
        clear c5
        go_wp2_with (go_at_call 21; refine (H5.out _).mono ?_; rintro e w' ⟨rfl, rfl⟩)
        go_ret
        exact ⟨by rw [HJ.out, HC5.out]; rfl, HW.out.b⟩
      · have H5 := Lib.hid (fun W => inr_at da (-1) (s - 1) true c5 W)
        have H6 := Lib.hid (fun W => inr_at wo (-1) d _ rfl W)
        have HC5 := Lib.hid c5
        clear c5
        go_wp2_with fail
        refine (H5.out _).mono ?_
        rintro e w' ⟨rfl, rfl⟩
        go_wp2_with (go_at_call 21; refine (H6.out _).mono ?_; rintro e w' ⟨rfl, rfl⟩)
        go_ret
        exact ⟨by rw [HJ.out, HC5.out]; simp, HW.out.b⟩

set_option maxHeartbeats 3200000 in
theorem svl_2ge (n a m kn s d h da wo : Int) (K : Nat) (w : World)  (mn : Int) (hb : 2 ≤ n ∧ n ≤ 4 ∧ 1 ≤ a ∧ a ≤ 4 ∧ 1 ≤ K ∧ K ≤ 4 ∧ 1 ≤ m ∧ m ≤ 5) (c1 : wi kn 0 m = true) (c2 : wi s kn mn = false) (hmn : ¬ kn + a < m ∧ m = mn) :
    Calls Try.prog 19 #[(.agg #[.int .i64 n, .int .i64 a, .int .i64 (K : Int), .int .i64 m]), (.agg #[.int .i64 kn, .int .i64 s, .int .i64 d, .int .i64 h, .int .i64 da, .int .i64 wo])] w fun e w' => e = .returned (.bool false) ∧ Below w.heap.size w w' := by
  have ne := Wld.ne (S := (fun w' => Two w w' #[.int .i64 n, .int .i64 a, .int .i64 (K : Int), .int .i64 m] #[.int .i64 kn, .int .i64 s, .int .i64 d, .int .i64 h, .int .i64 da, .int .i64 wo])) (Two.new w _ _)
  have hp0 : ∀ x : Wld (fun w' => Two w w' #[.int .i64 n, .int .i64 a, .int .i64 (K : Int), .int .i64 m] #[.int .i64 kn, .int .i64 s, .int .i64 d, .int .i64 h, .int .i64 da, .int .i64 wo]), x.v.cell? ⟨w.heap.size, 0, none⟩ = some (.int .i64 n) := fun x => x.h.p.cell 0
  have hp1 : ∀ x : Wld (fun w' => Two w w' #[.int .i64 n, .int .i64 a, .int .i64 (K : Int), .int .i64 m] #[.int .i64 kn, .int .i64 s, .int .i64 d, .int .i64 h, .int .i64 da, .int .i64 wo]), x.v.cell? ⟨w.heap.size, 1, none⟩ = some (.int .i64 a) := fun x => x.h.p.cell 1
  have hp2 : ∀ x : Wld (fun w' => Two w w' #[.int .i64 n, .int .i64 a, .int .i64 (K : Int), .int .i64 m] #[.int .i64 kn, .int .i64 s, .int .i64 d, .int .i64 h, .int .i64 da, .int .i64 wo]), x.v.cell? ⟨w.heap.size, 2, none⟩ = some (.int .i64 (K : Int)) := fun x => x.h.p.cell 2
  have hp3 : ∀ x : Wld (fun w' => Two w w' #[.int .i64 n, .int .i64 a, .int .i64 (K : Int), .int .i64 m] #[.int .i64 kn, .int .i64 s, .int .i64 d, .int .i64 h, .int .i64 da, .int .i64 wo]), x.v.cell? ⟨w.heap.size, 3, none⟩ = some (.int .i64 m) := fun x => x.h.p.cell 3
  have hl0 : ∀ x : Wld (fun w' => Two w w' #[.int .i64 n, .int .i64 a, .int .i64 (K : Int), .int .i64 m] #[.int .i64 kn, .int .i64 s, .int .i64 d, .int .i64 h, .int .i64 da, .int .i64 wo]), x.v.cell? ⟨w.heap.size + 1, 0, none⟩ = some (.int .i64 kn) := fun x => x.h.l.cell 0
  have hl1 : ∀ x : Wld (fun w' => Two w w' #[.int .i64 n, .int .i64 a, .int .i64 (K : Int), .int .i64 m] #[.int .i64 kn, .int .i64 s, .int .i64 d, .int .i64 h, .int .i64 da, .int .i64 wo]), x.v.cell? ⟨w.heap.size + 1, 1, none⟩ = some (.int .i64 s) := fun x => x.h.l.cell 1
  have hl2 : ∀ x : Wld (fun w' => Two w w' #[.int .i64 n, .int .i64 a, .int .i64 (K : Int), .int .i64 m] #[.int .i64 kn, .int .i64 s, .int .i64 d, .int .i64 h, .int .i64 da, .int .i64 wo]), x.v.cell? ⟨w.heap.size + 1, 2, none⟩ = some (.int .i64 d) := fun x => x.h.l.cell 2
  have hl3 : ∀ x : Wld (fun w' => Two w w' #[.int .i64 n, .int .i64 a, .int .i64 (K : Int), .int .i64 m] #[.int .i64 kn, .int .i64 s, .int .i64 d, .int .i64 h, .int .i64 da, .int .i64 wo]), x.v.cell? ⟨w.heap.size + 1, 3, none⟩ = some (.int .i64 h) := fun x => x.h.l.cell 3
  have hl4 : ∀ x : Wld (fun w' => Two w w' #[.int .i64 n, .int .i64 a, .int .i64 (K : Int), .int .i64 m] #[.int .i64 kn, .int .i64 s, .int .i64 d, .int .i64 h, .int .i64 da, .int .i64 wo]), x.v.cell? ⟨w.heap.size + 1, 4, none⟩ = some (.int .i64 da) := fun x => x.h.l.cell 4
  have hl5 : ∀ x : Wld (fun w' => Two w w' #[.int .i64 n, .int .i64 a, .int .i64 (K : Int), .int .i64 m] #[.int .i64 kn, .int .i64 s, .int .i64 d, .int .i64 h, .int .i64 da, .int .i64 wo]), x.v.cell? ⟨w.heap.size + 1, 5, none⟩ = some (.int .i64 wo) := fun x => x.h.l.cell 5
  have b1 := wi_yes c1
  obtain ⟨hmn, rfl⟩ := hmn
  have ea : IntKind.i64.wrap (kn + a) = kn + a := IntWalk.i64_in _ (by omega)
  have H1 := Lib.hid (fun W => inr_at kn 0 m true c1 W)
  have H2 := Lib.hid (fun W => inr_at s kn m false c2 W)
  clear c1 c2 hb
  go_enter Try.func19, Try.ntmps19
  go_wp2
  refine wp_region_heldq (fun w' => Two w w' #[.int .i64 n, .int .i64 a, .int .i64 (K : Int), .int .i64 m] #[.int .i64 kn, .int .i64 s, .int .i64 d, .int .i64 h, .int .i64 da, .int .i64 wo]) (by kernel_rfl) (by kernel_rfl) (Two.new w _ _).drew ?_
  repeat (go_big_quiet_step (first | (with_reducible exact held_same (H1.out _)) | (with_reducible exact held_same (H2.out _))))
  refine wpQuiet_nil ?_
  rintro _ ⟨x, rfl⟩
  go_wp2
  go_ret
  exact ⟨rfl, x.h.b⟩

set_option maxHeartbeats 3200000 in
theorem svl_3ge (n a m kn s d h da wo : Int) (K : Nat) (w : World)  (mn : Int) (hb : 2 ≤ n ∧ n ≤ 4 ∧ 1 ≤ a ∧ a ≤ 4 ∧ 1 ≤ K ∧ K ≤ 4 ∧ 1 ≤ m ∧ m ≤ 5) (c1 : wi kn 0 m = true) (c2 : wi s kn mn = true) (c3 : wi d kn s = false) (hmn : ¬ kn + a < m ∧ m = mn) :
    Calls Try.prog 19 #[(.agg #[.int .i64 n, .int .i64 a, .int .i64 (K : Int), .int .i64 m]), (.agg #[.int .i64 kn, .int .i64 s, .int .i64 d, .int .i64 h, .int .i64 da, .int .i64 wo])] w fun e w' => e = .returned (.bool false) ∧ Below w.heap.size w w' := by
  have ne := Wld.ne (S := (fun w' => Two w w' #[.int .i64 n, .int .i64 a, .int .i64 (K : Int), .int .i64 m] #[.int .i64 kn, .int .i64 s, .int .i64 d, .int .i64 h, .int .i64 da, .int .i64 wo])) (Two.new w _ _)
  have hp0 : ∀ x : Wld (fun w' => Two w w' #[.int .i64 n, .int .i64 a, .int .i64 (K : Int), .int .i64 m] #[.int .i64 kn, .int .i64 s, .int .i64 d, .int .i64 h, .int .i64 da, .int .i64 wo]), x.v.cell? ⟨w.heap.size, 0, none⟩ = some (.int .i64 n) := fun x => x.h.p.cell 0
  have hp1 : ∀ x : Wld (fun w' => Two w w' #[.int .i64 n, .int .i64 a, .int .i64 (K : Int), .int .i64 m] #[.int .i64 kn, .int .i64 s, .int .i64 d, .int .i64 h, .int .i64 da, .int .i64 wo]), x.v.cell? ⟨w.heap.size, 1, none⟩ = some (.int .i64 a) := fun x => x.h.p.cell 1
  have hp2 : ∀ x : Wld (fun w' => Two w w' #[.int .i64 n, .int .i64 a, .int .i64 (K : Int), .int .i64 m] #[.int .i64 kn, .int .i64 s, .int .i64 d, .int .i64 h, .int .i64 da, .int .i64 wo]), x.v.cell? ⟨w.heap.size, 2, none⟩ = some (.int .i64 (K : Int)) := fun x => x.h.p.cell 2
  have hp3 : ∀ x : Wld (fun w' => Two w w' #[.int .i64 n, .int .i64 a, .int .i64 (K : Int), .int .i64 m] #[.int .i64 kn, .int .i64 s, .int .i64 d, .int .i64 h, .int .i64 da, .int .i64 wo]), x.v.cell? ⟨w.heap.size, 3, none⟩ = some (.int .i64 m) := fun x => x.h.p.cell 3
  have hl0 : ∀ x : Wld (fun w' => Two w w' #[.int .i64 n, .int .i64 a, .int .i64 (K : Int), .int .i64 m] #[.int .i64 kn, .int .i64 s, .int .i64 d, .int .i64 h, .int .i64 da, .int .i64 wo]), x.v.cell? ⟨w.heap.size + 1, 0, none⟩ = some (.int .i64 kn) := fun x => x.h.l.cell 0
  have hl1 : ∀ x : Wld (fun w' => Two w w' #[.int .i64 n, .int .i64 a, .int .i64 (K : Int), .int .i64 m] #[.int .i64 kn, .int .i64 s, .int .i64 d, .int .i64 h, .int .i64 da, .int .i64 wo]), x.v.cell? ⟨w.heap.size + 1, 1, none⟩ = some (.int .i64 s) := fun x => x.h.l.cell 1
  have hl2 : ∀ x : Wld (fun w' => Two w w' #[.int .i64 n, .int .i64 a, .int .i64 (K : Int), .int .i64 m] #[.int .i64 kn, .int .i64 s, .int .i64 d, .int .i64 h, .int .i64 da, .int .i64 wo]), x.v.cell? ⟨w.heap.size + 1, 2, none⟩ = some (.int .i64 d) := fun x => x.h.l.cell 2
  have hl3 : ∀ x : Wld (fun w' => Two w w' #[.int .i64 n, .int .i64 a, .int .i64 (K : Int), .int .i64 m] #[.int .i64 kn, .int .i64 s, .int .i64 d, .int .i64 h, .int .i64 da, .int .i64 wo]), x.v.cell? ⟨w.heap.size + 1, 3, none⟩ = some (.int .i64 h) := fun x => x.h.l.cell 3
  have hl4 : ∀ x : Wld (fun w' => Two w w' #[.int .i64 n, .int .i64 a, .int .i64 (K : Int), .int .i64 m] #[.int .i64 kn, .int .i64 s, .int .i64 d, .int .i64 h, .int .i64 da, .int .i64 wo]), x.v.cell? ⟨w.heap.size + 1, 4, none⟩ = some (.int .i64 da) := fun x => x.h.l.cell 4
  have hl5 : ∀ x : Wld (fun w' => Two w w' #[.int .i64 n, .int .i64 a, .int .i64 (K : Int), .int .i64 m] #[.int .i64 kn, .int .i64 s, .int .i64 d, .int .i64 h, .int .i64 da, .int .i64 wo]), x.v.cell? ⟨w.heap.size + 1, 5, none⟩ = some (.int .i64 wo) := fun x => x.h.l.cell 5
  have b1 := wi_yes c1
  have b2 := wi_yes c2
  obtain ⟨hmn, rfl⟩ := hmn
  have ea : IntKind.i64.wrap (kn + a) = kn + a := IntWalk.i64_in _ (by omega)
  have H1 := Lib.hid (fun W => inr_at kn 0 m true c1 W)
  have H2 := Lib.hid (fun W => inr_at s kn m true c2 W)
  have H3 := Lib.hid (fun W => inr_at d kn s false c3 W)
  clear c1 c2 c3 hb
  go_enter Try.func19, Try.ntmps19
  go_wp2
  refine wp_region_heldq (fun w' => Two w w' #[.int .i64 n, .int .i64 a, .int .i64 (K : Int), .int .i64 m] #[.int .i64 kn, .int .i64 s, .int .i64 d, .int .i64 h, .int .i64 da, .int .i64 wo]) (by kernel_rfl) (by kernel_rfl) (Two.new w _ _).drew ?_
  repeat (go_big_quiet_step (first | (with_reducible exact held_same (H1.out _)) | (with_reducible exact held_same (H2.out _)) | (with_reducible exact held_same (H3.out _))))
  refine wpQuiet_nil ?_
  rintro _ ⟨x, rfl⟩
  go_wp2
  go_ret
  exact ⟨rfl, x.h.b⟩

set_option maxHeartbeats 3200000 in
theorem svl_4ge (n a m kn s d h da wo : Int) (K : Nat) (w : World)  (mn pk : Int) (hb : 2 ≤ n ∧ n ≤ 4 ∧ 1 ≤ a ∧ a ≤ 4 ∧ 1 ≤ K ∧ K ≤ 4 ∧ 1 ≤ m ∧ m ≤ 5) (c1 : wi kn 0 m = true) (c2 : wi s kn mn = true) (c3 : wi d kn s = true) (c4 : wi h 0 (pk - 1) = false) (hmn : ¬ kn + a < m ∧ m = mn) (hpk : 2 ^ K = pk) :
    Calls Try.prog 19 #[(.agg #[.int .i64 n, .int .i64 a, .int .i64 (K : Int), .int .i64 m]), (.agg #[.int .i64 kn, .int .i64 s, .int .i64 d, .int .i64 h, .int .i64 da, .int .i64 wo])] w fun e w' => e = .returned (.bool false) ∧ Below w.heap.size w w' := by
  have ne := Wld.ne (S := (fun w' => Two w w' #[.int .i64 n, .int .i64 a, .int .i64 (K : Int), .int .i64 m] #[.int .i64 kn, .int .i64 s, .int .i64 d, .int .i64 h, .int .i64 da, .int .i64 wo])) (Two.new w _ _)
  have hp0 : ∀ x : Wld (fun w' => Two w w' #[.int .i64 n, .int .i64 a, .int .i64 (K : Int), .int .i64 m] #[.int .i64 kn, .int .i64 s, .int .i64 d, .int .i64 h, .int .i64 da, .int .i64 wo]), x.v.cell? ⟨w.heap.size, 0, none⟩ = some (.int .i64 n) := fun x => x.h.p.cell 0
  have hp1 : ∀ x : Wld (fun w' => Two w w' #[.int .i64 n, .int .i64 a, .int .i64 (K : Int), .int .i64 m] #[.int .i64 kn, .int .i64 s, .int .i64 d, .int .i64 h, .int .i64 da, .int .i64 wo]), x.v.cell? ⟨w.heap.size, 1, none⟩ = some (.int .i64 a) := fun x => x.h.p.cell 1
  have hp2 : ∀ x : Wld (fun w' => Two w w' #[.int .i64 n, .int .i64 a, .int .i64 (K : Int), .int .i64 m] #[.int .i64 kn, .int .i64 s, .int .i64 d, .int .i64 h, .int .i64 da, .int .i64 wo]), x.v.cell? ⟨w.heap.size, 2, none⟩ = some (.int .i64 (K : Int)) := fun x => x.h.p.cell 2
  have hp3 : ∀ x : Wld (fun w' => Two w w' #[.int .i64 n, .int .i64 a, .int .i64 (K : Int), .int .i64 m] #[.int .i64 kn, .int .i64 s, .int .i64 d, .int .i64 h, .int .i64 da, .int .i64 wo]), x.v.cell? ⟨w.heap.size, 3, none⟩ = some (.int .i64 m) := fun x => x.h.p.cell 3
  have hl0 : ∀ x : Wld (fun w' => Two w w' #[.int .i64 n, .int .i64 a, .int .i64 (K : Int), .int .i64 m] #[.int .i64 kn, .int .i64 s, .int .i64 d, .int .i64 h, .int .i64 da, .int .i64 wo]), x.v.cell? ⟨w.heap.size + 1, 0, none⟩ = some (.int .i64 kn) := fun x => x.h.l.cell 0
  have hl1 : ∀ x : Wld (fun w' => Two w w' #[.int .i64 n, .int .i64 a, .int .i64 (K : Int), .int .i64 m] #[.int .i64 kn, .int .i64 s, .int .i64 d, .int .i64 h, .int .i64 da, .int .i64 wo]), x.v.cell? ⟨w.heap.size + 1, 1, none⟩ = some (.int .i64 s) := fun x => x.h.l.cell 1
  have hl2 : ∀ x : Wld (fun w' => Two w w' #[.int .i64 n, .int .i64 a, .int .i64 (K : Int), .int .i64 m] #[.int .i64 kn, .int .i64 s, .int .i64 d, .int .i64 h, .int .i64 da, .int .i64 wo]), x.v.cell? ⟨w.heap.size + 1, 2, none⟩ = some (.int .i64 d) := fun x => x.h.l.cell 2
  have hl3 : ∀ x : Wld (fun w' => Two w w' #[.int .i64 n, .int .i64 a, .int .i64 (K : Int), .int .i64 m] #[.int .i64 kn, .int .i64 s, .int .i64 d, .int .i64 h, .int .i64 da, .int .i64 wo]), x.v.cell? ⟨w.heap.size + 1, 3, none⟩ = some (.int .i64 h) := fun x => x.h.l.cell 3
  have hl4 : ∀ x : Wld (fun w' => Two w w' #[.int .i64 n, .int .i64 a, .int .i64 (K : Int), .int .i64 m] #[.int .i64 kn, .int .i64 s, .int .i64 d, .int .i64 h, .int .i64 da, .int .i64 wo]), x.v.cell? ⟨w.heap.size + 1, 4, none⟩ = some (.int .i64 da) := fun x => x.h.l.cell 4
  have hl5 : ∀ x : Wld (fun w' => Two w w' #[.int .i64 n, .int .i64 a, .int .i64 (K : Int), .int .i64 m] #[.int .i64 kn, .int .i64 s, .int .i64 d, .int .i64 h, .int .i64 da, .int .i64 wo]), x.v.cell? ⟨w.heap.size + 1, 5, none⟩ = some (.int .i64 wo) := fun x => x.h.l.cell 5
  have b1 := wi_yes c1
  have b2 := wi_yes c2
  have b3 := wi_yes c3
  obtain ⟨hmn, rfl⟩ := hmn
  have ea : IntKind.i64.wrap (kn + a) = kn + a := IntWalk.i64_in _ (by omega)
  have H1 := Lib.hid (fun W => inr_at kn 0 m true c1 W)
  have H2 := Lib.hid (fun W => inr_at s kn m true c2 W)
  have H3 := Lib.hid (fun W => inr_at d kn s true c3 W)
  have H4 := Lib.hid (fun W => inr_at h 0 (pk - 1) false c4 W)
  have hp16 := pow_16 K hb.2.2.2.2.2.1
  rw [hpk] at hp16
  have ep : IntKind.i64.wrap (pk - 1) = pk - 1 := IntWalk.i64_in _ (by omega)
  have HP := Lib.hid (fun W => spow_at K pk hb.2.2.2.2.2.1 hpk W)
  have HPK := Lib.hid hpk
  clear hpk
  clear c1 c2 c3 c4 hb
  go_enter Try.func19, Try.ntmps19
  go_wp2
  refine wp_region_heldq (fun w' => Two w w' #[.int .i64 n, .int .i64 a, .int .i64 (K : Int), .int .i64 m] #[.int .i64 kn, .int .i64 s, .int .i64 d, .int .i64 h, .int .i64 da, .int .i64 wo]) (by kernel_rfl) (by kernel_rfl) (Two.new w _ _).drew ?_
  repeat (go_big_quiet_step (first | (with_reducible exact held_same (H1.out _)) | (with_reducible exact held_same (H2.out _)) | (with_reducible exact held_same (H3.out _)) | (with_reducible exact held_same (H4.out _)) | (with_reducible exact held_same (HP.out _))))
  refine wpQuiet_nil ?_
  rintro _ ⟨x, rfl⟩
  go_wp2
  go_ret
  exact ⟨rfl, x.h.b⟩

set_option maxHeartbeats 3200000 in
theorem svl_5ge (n a m kn s d h da wo : Int) (K : Nat) (w : World)  (mn pk : Int) (hb : 2 ≤ n ∧ n ≤ 4 ∧ 1 ≤ a ∧ a ≤ 4 ∧ 1 ≤ K ∧ K ≤ 4 ∧ 1 ≤ m ∧ m ≤ 5) (c1 : wi kn 0 m = true) (c2 : wi s kn mn = true) (c3 : wi d kn s = true) (c4 : wi h 0 (pk - 1) = true) (hmn : ¬ kn + a < m ∧ m = mn) (hpk : 2 ^ K = pk) :
    Calls Try.prog 19 #[(.agg #[.int .i64 n, .int .i64 a, .int .i64 (K : Int), .int .i64 m]), (.agg #[.int .i64 kn, .int .i64 s, .int .i64 d, .int .i64 h, .int .i64 da, .int .i64 wo])] w fun e w' => e = .returned (.bool (hbB h (s - d) K && (wi da (-1) (s - 1) && wi wo (-1) d))) ∧ Below w.heap.size w w' := by
  have ne := Wld.ne (S := (fun w' => Two w w' #[.int .i64 n, .int .i64 a, .int .i64 (K : Int), .int .i64 m] #[.int .i64 kn, .int .i64 s, .int .i64 d, .int .i64 h, .int .i64 da, .int .i64 wo])) (Two.new w _ _)
  have hp0 : ∀ x : Wld (fun w' => Two w w' #[.int .i64 n, .int .i64 a, .int .i64 (K : Int), .int .i64 m] #[.int .i64 kn, .int .i64 s, .int .i64 d, .int .i64 h, .int .i64 da, .int .i64 wo]), x.v.cell? ⟨w.heap.size, 0, none⟩ = some (.int .i64 n) := fun x => x.h.p.cell 0
  have hp1 : ∀ x : Wld (fun w' => Two w w' #[.int .i64 n, .int .i64 a, .int .i64 (K : Int), .int .i64 m] #[.int .i64 kn, .int .i64 s, .int .i64 d, .int .i64 h, .int .i64 da, .int .i64 wo]), x.v.cell? ⟨w.heap.size, 1, none⟩ = some (.int .i64 a) := fun x => x.h.p.cell 1
  have hp2 : ∀ x : Wld (fun w' => Two w w' #[.int .i64 n, .int .i64 a, .int .i64 (K : Int), .int .i64 m] #[.int .i64 kn, .int .i64 s, .int .i64 d, .int .i64 h, .int .i64 da, .int .i64 wo]), x.v.cell? ⟨w.heap.size, 2, none⟩ = some (.int .i64 (K : Int)) := fun x => x.h.p.cell 2
  have hp3 : ∀ x : Wld (fun w' => Two w w' #[.int .i64 n, .int .i64 a, .int .i64 (K : Int), .int .i64 m] #[.int .i64 kn, .int .i64 s, .int .i64 d, .int .i64 h, .int .i64 da, .int .i64 wo]), x.v.cell? ⟨w.heap.size, 3, none⟩ = some (.int .i64 m) := fun x => x.h.p.cell 3
  have hl0 : ∀ x : Wld (fun w' => Two w w' #[.int .i64 n, .int .i64 a, .int .i64 (K : Int), .int .i64 m] #[.int .i64 kn, .int .i64 s, .int .i64 d, .int .i64 h, .int .i64 da, .int .i64 wo]), x.v.cell? ⟨w.heap.size + 1, 0, none⟩ = some (.int .i64 kn) := fun x => x.h.l.cell 0
  have hl1 : ∀ x : Wld (fun w' => Two w w' #[.int .i64 n, .int .i64 a, .int .i64 (K : Int), .int .i64 m] #[.int .i64 kn, .int .i64 s, .int .i64 d, .int .i64 h, .int .i64 da, .int .i64 wo]), x.v.cell? ⟨w.heap.size + 1, 1, none⟩ = some (.int .i64 s) := fun x => x.h.l.cell 1
  have hl2 : ∀ x : Wld (fun w' => Two w w' #[.int .i64 n, .int .i64 a, .int .i64 (K : Int), .int .i64 m] #[.int .i64 kn, .int .i64 s, .int .i64 d, .int .i64 h, .int .i64 da, .int .i64 wo]), x.v.cell? ⟨w.heap.size + 1, 2, none⟩ = some (.int .i64 d) := fun x => x.h.l.cell 2
  have hl3 : ∀ x : Wld (fun w' => Two w w' #[.int .i64 n, .int .i64 a, .int .i64 (K : Int), .int .i64 m] #[.int .i64 kn, .int .i64 s, .int .i64 d, .int .i64 h, .int .i64 da, .int .i64 wo]), x.v.cell? ⟨w.heap.size + 1, 3, none⟩ = some (.int .i64 h) := fun x => x.h.l.cell 3
  have hl4 : ∀ x : Wld (fun w' => Two w w' #[.int .i64 n, .int .i64 a, .int .i64 (K : Int), .int .i64 m] #[.int .i64 kn, .int .i64 s, .int .i64 d, .int .i64 h, .int .i64 da, .int .i64 wo]), x.v.cell? ⟨w.heap.size + 1, 4, none⟩ = some (.int .i64 da) := fun x => x.h.l.cell 4
  have hl5 : ∀ x : Wld (fun w' => Two w w' #[.int .i64 n, .int .i64 a, .int .i64 (K : Int), .int .i64 m] #[.int .i64 kn, .int .i64 s, .int .i64 d, .int .i64 h, .int .i64 da, .int .i64 wo]), x.v.cell? ⟨w.heap.size + 1, 5, none⟩ = some (.int .i64 wo) := fun x => x.h.l.cell 5
  have b1 := wi_yes c1
  have b2 := wi_yes c2
  have b3 := wi_yes c3
  obtain ⟨hmn, rfl⟩ := hmn
  have ea : IntKind.i64.wrap (kn + a) = kn + a := IntWalk.i64_in _ (by omega)
  have H1 := Lib.hid (fun W => inr_at kn 0 m true c1 W)
  have H2 := Lib.hid (fun W => inr_at s kn m true c2 W)
  have H3 := Lib.hid (fun W => inr_at d kn s true c3 W)
  have H4 := Lib.hid (fun W => inr_at h 0 (pk - 1) true c4 W)
  have hp16 := pow_16 K hb.2.2.2.2.2.1
  rw [hpk] at hp16
  have ep : IntKind.i64.wrap (pk - 1) = pk - 1 := IntWalk.i64_in _ (by omega)
  have HP := Lib.hid (fun W => spow_at K pk hb.2.2.2.2.2.1 hpk W)
  have HPK := Lib.hid hpk
  clear hpk
  have b4 := wi_yes c4
  clear c1 c2 c3 c4
  go_enter Try.func19, Try.ntmps19
  go_wp2
  refine wp_region_heldq (fun w' => Two w w' #[.int .i64 n, .int .i64 a, .int .i64 (K : Int), .int .i64 m] #[.int .i64 kn, .int .i64 s, .int .i64 d, .int .i64 h, .int .i64 da, .int .i64 wo]) (by kernel_rfl) (by kernel_rfl) (Two.new w _ _).drew ?_
  repeat (go_big_quiet_step (first | (with_reducible exact held_same (H1.out _)) | (with_reducible exact held_same (H2.out _)) | (with_reducible exact held_same (H3.out _)) | (with_reducible exact held_same (H4.out _)) | (with_reducible exact held_same (HP.out _))))
  refine wpQuiet_nil ?_
  rintro _ ⟨x, rfl⟩
  obtain ⟨W, hW⟩ := x
  simp only
  clear ne hp0 hp1 hp2 hp3 hl0 hl1 hl2 hl3 hl4 hl5
  obtain ⟨p0, p1, p2, p3⟩ := hW.p.c4
  obtain ⟨l0, l1, l2, l3, l4, l5⟩ := hW.l.c6
  have HW := Lib.hid hW
  have HH := Lib.hid (fun (e : Bool) (he : hbB h (s - d) K = e) => he)
  clear hW
  go_wp2
  go_loop [5] (fun kv => ∃ j : Nat, j ≤ K ∧ kv = .int .i64 j ∧ hbB h (s - d) j = true) (fun kv => K - (intOf kv).toNat)
  case atStart => exact ⟨0, Nat.zero_le _, rfl, rfl⟩
  case round =>
    obtain ⟨j, hj, rfl, hh⟩ := hrel
    have HJ := Lib.hid hh
    clear hh
    by_cases hlt : j < K
    · have HB := Lib.hid (fun W => sbit_any h j (by omega) (by omega) W)
      have hbs : 0 ≤ h / 2 ^ j % 2 ∧ h / 2 ^ j % 2 ≤ 1 := by omega
      by_cases b : h / 2 ^ j % 2 = 1
      · have b' : (h / 2 ^ j % 2 == 1) = true := by simpa using b
        by_cases hj0 : j = 0
        · subst hj0
          have HF := Lib.hid (show hbB h (s - d) K = false from hbB_false (j := 1) (by omega) (by simp [hbB]; simpa using b))
          clear b hbs
          generalize h / 2 ^ 0 % 2 = bt at *
          go_wp2_with (go_at_call 30; refine (HB.out _).mono ?_; rintro e w' ⟨rfl, rfl⟩)
          go_ret
          exact ⟨by rw [HF.out]; rfl, HW.out.b⟩
        · have hj1 : ((j : Int) == 0) = false := by simp; omega
          by_cases hds : s ≤ d + j
          · have HF := Lib.hid (show hbB h (s - d) K = false from hbB_false (j := j + 1) (by omega) (by simp [hbB, b, hj0]; omega))
            clear b hbs hj0
            generalize h / 2 ^ j % 2 = bt at *
            go_wp2_with (go_at_call 30; refine (HB.out _).mono ?_; rintro e w' ⟨rfl, rfl⟩)
            go_ret
            exact ⟨by rw [HF.out]; rfl, HW.out.b⟩
          · have HF := Lib.hid (show hbB h (s - d) (j + 1) = true by simp [hbB, b, hj0, HJ.out]; omega)
            have hds' : decide (s ≤ d + (j : Int)) = false := by simpa using hds
            clear b hbs hj0
            generalize h / 2 ^ j % 2 = bt at *
            go_wp2_with (go_at_call 30; refine (HB.out _).mono ?_; rintro e w' ⟨rfl, rfl⟩)
            go_round
            case rel => exact ⟨j + 1, by omega, by go_num, HF.out⟩
            case measure => simp [intOf]; omega
      · have b' : (h / 2 ^ j % 2 == 1) = false := by simpa using b
        have HF := Lib.hid (show hbB h (s - d) (j + 1) = true by simp [hbB, b, HJ.out])
        clear b hbs
        generalize h / 2 ^ j % 2 = bt at *
        go_wp2_with (go_at_call 30; refine (HB.out _).mono ?_; rintro e w' ⟨rfl, rfl⟩)
        go_round
        case rel => exact ⟨j + 1, by omega, by go_num, HF.out⟩
        case measure => simp [intOf]; omega
    · obtain rfl : j = K := by omega
      cases c5 : wi da (-1) (s - 1)
      · have H5 := Lib.hid (fun W => inr_at da (-1) (s - 1) false c5 W)
        have HC5 := Lib.hid c5
        clear c5
        go_wp2_with (go_at_call 21; refine (H5.out _).mono ?_; rintro e w' ⟨rfl, rfl⟩)
        go_ret
        exact ⟨by rw [HJ.out, HC5.out]; rfl, HW.out.b⟩
      · have H5 := Lib.hid (fun W => inr_at da (-1) (s - 1) true c5 W)
        have H6 := Lib.hid (fun W => inr_at wo (-1) d _ rfl W)
        have HC5 := Lib.hid c5
        clear c5
        go_wp2_with fail
        refine (H5.out _).mono ?_
        rintro e w' ⟨rfl, rfl⟩
        go_wp2_with (go_at_call 21; refine (H6.out _).mono ?_; rintro e w' ⟨rfl, rfl⟩)
        go_ret
        exact ⟨by rw [HJ.out, HC5.out]; simp, HW.out.b⟩

theorem svl_any (n a k m kn s d h da wo : Int) (w : World) (hp : vpB ⟨n, a, k, m⟩ = true) :
    Calls Try.prog 19 #[(.agg #[.int .i64 n, .int .i64 a, .int .i64 k, .int .i64 m]), (.agg #[.int .i64 kn, .int .i64 s, .int .i64 d, .int .i64 h, .int .i64 da, .int .i64 wo])] w fun e w' => e = .returned (.bool (vlB ⟨n, a, k, m⟩ ⟨kn, s, d, h, da, wo⟩)) ∧ Below w.heap.size w w' := by
  have hb0 : 2 ≤ n ∧ n ≤ 4 ∧ 1 ≤ a ∧ a ≤ 4 ∧ 1 ≤ k ∧ k ≤ 4 ∧ 1 ≤ m ∧ m ≤ 5 := by simpa only [vpB, decide_eq_true_eq] using hp
  obtain ⟨K, rfl⟩ : ∃ K : Nat, k = K := ⟨k.toNat, by omega⟩
  have hb : 2 ≤ n ∧ n ≤ 4 ∧ 1 ≤ a ∧ a ≤ 4 ∧ 1 ≤ K ∧ K ≤ 4 ∧ 1 ≤ m ∧ m ≤ 5 := by omega
  rw [vlB_eq]
  cases c1 : wi kn 0 m
  · exact svl_1 n a m kn s d h da wo K w hb c1
  by_cases hmn : kn + a < m
  · rw [show min m (kn + a) = kn + a from by omega]
    cases c2 : wi s kn (kn + a)
    · exact svl_2lt n a m kn s d h da wo K w (kn + a) hb c1 c2 ⟨hmn, rfl⟩
    cases c3 : wi d kn s
    · exact svl_3lt n a m kn s d h da wo K w (kn + a) hb c1 c2 c3 ⟨hmn, rfl⟩
    have b1 := wi_yes c1
    have b2 := wi_yes c2
    have b3 := wi_yes c3
    rw [← hb_eq h d s K (by omega) (by omega)]
    cases c4 : wi h 0 (2 ^ K - 1)
    · exact svl_4lt n a m kn s d h da wo K w (kn + a) _ hb c1 c2 c3 c4 ⟨hmn, rfl⟩ rfl
    · exact svl_5lt n a m kn s d h da wo K w (kn + a) _ hb c1 c2 c3 c4 ⟨hmn, rfl⟩ rfl
  · rw [show min m (kn + a) = m from by omega]
    cases c2 : wi s kn m
    · exact svl_2ge n a m kn s d h da wo K w m hb c1 c2 ⟨hmn, rfl⟩
    cases c3 : wi d kn s
    · exact svl_3ge n a m kn s d h da wo K w m hb c1 c2 c3 ⟨hmn, rfl⟩
    have b1 := wi_yes c1
    have b2 := wi_yes c2
    have b3 := wi_yes c3
    rw [← hb_eq h d s K (by omega) (by omega)]
    cases c4 : wi h 0 (2 ^ K - 1)
    · exact svl_4ge n a m kn s d h da wo K w m _ hb c1 c2 c3 c4 ⟨hmn, rfl⟩ rfl
    · exact svl_5ge n a m kn s d h da wo K w m _ hb c1 c2 c3 c4 ⟨hmn, rfl⟩ rfl
end Go.Proofs.Ytpjefjomihnbhaa
