/-
  The walk of the program's function that says whether a link is one of a plan. No condition but that the plan is valid.
-/
import Derived.Test.YtnbgfffcialfkaaLn07
set_option linter.unusedSimpArgs false
set_option linter.unusedVariables false
namespace Go.Proofs.Ytnbgfffcialfkaa
open Go.RowKit
set_option linter.unusedVariables false

theorem vlB_eq (n a k m kn s d h da wo : Int) : vlB ⟨n, a, k, m⟩ ⟨kn, s, d, h, da, wo⟩ =
    (wi kn 0 m && (wi s kn (min m (kn + a)) && (wi d kn s && ((decide (h % 2 = 0) && wi h 0 (2 ^ (min k (s - d)).toNat - 1)) && (wi da (-1) (s - 1) && wi wo (-1) d))))) := by
  unfold vlB wi Inv room
  rw [Bool.eq_iff_iff]
  simp only [decide_eq_true_eq, Bool.and_eq_true]
  constructor
  · rintro ⟨⟨h1, h2, h3, h4, h5, h6, h7, h8, h9, h10, h11, h12, h13, h14⟩, h15⟩
    exact ⟨⟨h1, h2⟩, ⟨h3, by omega⟩, ⟨h15, h7⟩, ⟨h9, h8, by omega⟩, ⟨h11, by omega⟩, h13, h14⟩
  · rintro ⟨⟨h1, h2⟩, ⟨h3, h4⟩, ⟨h5, h6⟩, ⟨h7, h8, h9⟩, ⟨h10, h11⟩, h12, h13⟩
    exact ⟨⟨h1, h2, h3, by omega, by omega, by omega, h6, h8, h7, by omega, h10, by omega, h12, h13⟩, h5⟩

/-- A plan and a link lie in the first two blocks behind w. -/
structure Two (w w' : World) (xs ys : Array Value) : Prop where
  p : Blk w' w.heap.size 25 xs
  l : Blk w' (w.heap.size + 1) 35 ys
  b : Below w.heap.size w w'
  z : w.heap.size + 2 ≤ w'.heap.size
theorem Two.new (w : World) (xs ys : Array Value) : Two w ((w.alloc (.cells xs 25)).alloc (.cells ys 35)) xs ys :=
  ⟨(Blk.new w _ xs).alloc _, by have := Blk.new (w.alloc (.cells xs 25)) 35 ys; simpa using this, ((Below.refl _ _).alloc (Nat.le_refl _) _).alloc (by simp) _, by simp⟩
theorem Two.more {w w1 w2 : World} {xs ys : Array Value} (h : Two w w1 xs ys) (hb : Below w1.heap.size w1 w2) : Two w w2 xs ys :=
  ⟨h.p.below hb (by have := h.z; omega), h.l.below hb (by have := h.z; omega), h.b.trans (hb.mono (by have := h.z; omega)), Nat.le_trans h.z hb.size⟩
theorem Two.drewN {w w1 : World} {xs ys : Array Value} (h : Two w w1 xs ys) (q : Nat) : Two w (w1.drewN q) xs ys := ⟨h.p, h.l, belowD h.b q, h.z⟩
theorem Two.drew {w w1 : World} {xs ys : Array Value} (h : Two w w1 xs ys) : Two w w1.drew xs ys := h.drewN 1
theorem Two.alloc {w w1 : World} {xs ys : Array Value} (h : Two w w1 xs ys) (o : Obj) : Two w (w1.alloc o) xs ys := h.more ((Below.refl _ _).alloc (Nat.le_refl _) _)

theorem below_alloc1 {P : Program} {f : FuncId} {args : Array Value} {w : World} {v : Value} {o : Obj} (h : Calls P f args w fun e w' => e = .returned v ∧ w' = w.alloc o) : Calls P f args w fun e w' => e = .returned v ∧ Below w.heap.size w w' :=
  h.mono fun _ _ ⟨he, hw⟩ => ⟨he, by rw [hw]; exact (Below.refl _ _).alloc (Nat.le_refl _) _⟩
set_option maxHeartbeats 1600000 in
theorem ivl_1 (n a k m kn s d h da wo : Int) (w : World) (hb : 2 ≤ n ∧ n ≤ 4 ∧ 1 ≤ a ∧ a ≤ 4 ∧ 1 ≤ k ∧ k ≤ 4 ∧ 1 ≤ m ∧ m ≤ 5) (c1 : wi kn 0 m = false) :
    Calls Try.prog 38 #[(.agg #[.int .i64 n, .int .i64 a, .int .i64 k, .int .i64 m]), (.agg #[.int .i64 kn, .int .i64 s, .int .i64 d, .int .i64 h, .int .i64 da, .int .i64 wo])] w fun e w' => e = .returned (.bool false) ∧ Below w.heap.size w w' := by
  have H1 := Lib.hid (fun W => c1 ▸ wit_any kn 0 m W)
  clear hb c1
  have ne := Wld.ne (S := fun w' => Two w w' #[.int .i64 n, .int .i64 a, .int .i64 k, .int .i64 m] #[.int .i64 kn, .int .i64 s, .int .i64 d, .int .i64 h, .int .i64 da, .int .i64 wo]) (Two.new w #[.int .i64 n, .int .i64 a, .int .i64 k, .int .i64 m] #[.int .i64 kn, .int .i64 s, .int .i64 d, .int .i64 h, .int .i64 da, .int .i64 wo])
  have hp0 : ∀ x : Wld (fun w' => Two w w' #[.int .i64 n, .int .i64 a, .int .i64 k, .int .i64 m] #[.int .i64 kn, .int .i64 s, .int .i64 d, .int .i64 h, .int .i64 da, .int .i64 wo]), x.v.cell? ⟨w.heap.size, 0, none⟩ = some (.int .i64 n) := fun x => x.h.p.cell 0
  have hp1 : ∀ x : Wld (fun w' => Two w w' #[.int .i64 n, .int .i64 a, .int .i64 k, .int .i64 m] #[.int .i64 kn, .int .i64 s, .int .i64 d, .int .i64 h, .int .i64 da, .int .i64 wo]), x.v.cell? ⟨w.heap.size, 1, none⟩ = some (.int .i64 a) := fun x => x.h.p.cell 1
  have hp2 : ∀ x : Wld (fun w' => Two w w' #[.int .i64 n, .int .i64 a, .int .i64 k, .int .i64 m] #[.int .i64 kn, .int .i64 s, .int .i64 d, .int .i64 h, .int .i64 da, .int .i64 wo]), x.v.cell? ⟨w.heap.size, 2, none⟩ = some (.int .i64 k) := fun x => x.h.p.cell 2
  have hp3 : ∀ x : Wld (fun w' => Two w w' #[.int .i64 n, .int .i64 a, .int .i64 k, .int .i64 m] #[.int .i64 kn, .int .i64 s, .int .i64 d, .int .i64 h, .int .i64 da, .int .i64 wo]), x.v.cell? ⟨w.heap.size, 3, none⟩ = some (.int .i64 m) := fun x => x.h.p.cell 3
  have hl0 : ∀ x : Wld (fun w' => Two w w' #[.int .i64 n, .int .i64 a, .int .i64 k, .int .i64 m] #[.int .i64 kn, .int .i64 s, .int .i64 d, .int .i64 h, .int .i64 da, .int .i64 wo]), x.v.cell? ⟨w.heap.size + 1, 0, none⟩ = some (.int .i64 kn) := fun x => x.h.l.cell 0
  have hl1 : ∀ x : Wld (fun w' => Two w w' #[.int .i64 n, .int .i64 a, .int .i64 k, .int .i64 m] #[.int .i64 kn, .int .i64 s, .int .i64 d, .int .i64 h, .int .i64 da, .int .i64 wo]), x.v.cell? ⟨w.heap.size + 1, 1, none⟩ = some (.int .i64 s) := fun x => x.h.l.cell 1
  have hl2 : ∀ x : Wld (fun w' => Two w w' #[.int .i64 n, .int .i64 a, .int .i64 k, .int .i64 m] #[.int .i64 kn, .int .i64 s, .int .i64 d, .int .i64 h, .int .i64 da, .int .i64 wo]), x.v.cell? ⟨w.heap.size + 1, 2, none⟩ = some (.int .i64 d) := fun x => x.h.l.cell 2
  have hl3 : ∀ x : Wld (fun w' => Two w w' #[.int .i64 n, .int .i64 a, .int .i64 k, .int .i64 m] #[.int .i64 kn, .int .i64 s, .int .i64 d, .int .i64 h, .int .i64 da, .int .i64 wo]), x.v.cell? ⟨w.heap.size + 1, 3, none⟩ = some (.int .i64 h) := fun x => x.h.l.cell 3
  have hl4 : ∀ x : Wld (fun w' => Two w w' #[.int .i64 n, .int .i64 a, .int .i64 k, .int .i64 m] #[.int .i64 kn, .int .i64 s, .int .i64 d, .int .i64 h, .int .i64 da, .int .i64 wo]), x.v.cell? ⟨w.heap.size + 1, 4, none⟩ = some (.int .i64 da) := fun x => x.h.l.cell 4
  have hl5 : ∀ x : Wld (fun w' => Two w w' #[.int .i64 n, .int .i64 a, .int .i64 k, .int .i64 m] #[.int .i64 kn, .int .i64 s, .int .i64 d, .int .i64 h, .int .i64 da, .int .i64 wo]), x.v.cell? ⟨w.heap.size + 1, 5, none⟩ = some (.int .i64 wo) := fun x => x.h.l.cell 5
  go_enter Try.func38, Try.ntmps38
  go_wp2
  refine wp_region_heldq (fun w' => Two w w' #[.int .i64 n, .int .i64 a, .int .i64 k, .int .i64 m] #[.int .i64 kn, .int .i64 s, .int .i64 d, .int .i64 h, .int .i64 da, .int .i64 wo]) (by kernel_rfl) (by kernel_rfl) (Two.new w _ _).drew ?_
  repeat (go_big_quiet_step (first | (with_reducible exact held_same (H1.out _))))
  refine wpQuiet_nil ?_
  rintro _ ⟨x, rfl⟩
  go_wp2
  go_ret
  exact ⟨rfl, x.h.b⟩
set_option maxHeartbeats 1600000 in
theorem ivl_2 (n a k m kn s d h da wo : Int) (w : World) (hb : 2 ≤ n ∧ n ≤ 4 ∧ 1 ≤ a ∧ a ≤ 4 ∧ 1 ≤ k ∧ k ≤ 4 ∧ 1 ≤ m ∧ m ≤ 5) (c1 : wi kn 0 m = true) (c2 : wi s kn (min m (kn + a)) = false) :
    Calls Try.prog 38 #[(.agg #[.int .i64 n, .int .i64 a, .int .i64 k, .int .i64 m]), (.agg #[.int .i64 kn, .int .i64 s, .int .i64 d, .int .i64 h, .int .i64 da, .int .i64 wo])] w fun e w' => e = .returned (.bool false) ∧ Below w.heap.size w w' := by
  have b1 := wi_yes c1
  have H1 := Lib.hid (fun W => c1 ▸ wit_any kn 0 m W)
  have H2 := Lib.hid (fun W => c2 ▸ wit_any s kn (min m (kn + a)) W)
  have HM := Lib.hid (fun W => below_alloc1 (ims_any n a k m kn W (by omega) (by omega) (by omega)))
  clear hb c1 c2 b1
  have ne := Wld.ne (S := fun w' => Two w w' #[.int .i64 n, .int .i64 a, .int .i64 k, .int .i64 m] #[.int .i64 kn, .int .i64 s, .int .i64 d, .int .i64 h, .int .i64 da, .int .i64 wo]) (Two.new w #[.int .i64 n, .int .i64 a, .int .i64 k, .int .i64 m] #[.int .i64 kn, .int .i64 s, .int .i64 d, .int .i64 h, .int .i64 da, .int .i64 wo])
  have hp0 : ∀ x : Wld (fun w' => Two w w' #[.int .i64 n, .int .i64 a, .int .i64 k, .int .i64 m] #[.int .i64 kn, .int .i64 s, .int .i64 d, .int .i64 h, .int .i64 da, .int .i64 wo]), x.v.cell? ⟨w.heap.size, 0, none⟩ = some (.int .i64 n) := fun x => x.h.p.cell 0
  have hp1 : ∀ x : Wld (fun w' => Two w w' #[.int .i64 n, .int .i64 a, .int .i64 k, .int .i64 m] #[.int .i64 kn, .int .i64 s, .int .i64 d, .int .i64 h, .int .i64 da, .int .i64 wo]), x.v.cell? ⟨w.heap.size, 1, none⟩ = some (.int .i64 a) := fun x => x.h.p.cell 1
  have hp2 : ∀ x : Wld (fun w' => Two w w' #[.int .i64 n, .int .i64 a, .int .i64 k, .int .i64 m] #[.int .i64 kn, .int .i64 s, .int .i64 d, .int .i64 h, .int .i64 da, .int .i64 wo]), x.v.cell? ⟨w.heap.size, 2, none⟩ = some (.int .i64 k) := fun x => x.h.p.cell 2
  have hp3 : ∀ x : Wld (fun w' => Two w w' #[.int .i64 n, .int .i64 a, .int .i64 k, .int .i64 m] #[.int .i64 kn, .int .i64 s, .int .i64 d, .int .i64 h, .int .i64 da, .int .i64 wo]), x.v.cell? ⟨w.heap.size, 3, none⟩ = some (.int .i64 m) := fun x => x.h.p.cell 3
  have hl0 : ∀ x : Wld (fun w' => Two w w' #[.int .i64 n, .int .i64 a, .int .i64 k, .int .i64 m] #[.int .i64 kn, .int .i64 s, .int .i64 d, .int .i64 h, .int .i64 da, .int .i64 wo]), x.v.cell? ⟨w.heap.size + 1, 0, none⟩ = some (.int .i64 kn) := fun x => x.h.l.cell 0
  have hl1 : ∀ x : Wld (fun w' => Two w w' #[.int .i64 n, .int .i64 a, .int .i64 k, .int .i64 m] #[.int .i64 kn, .int .i64 s, .int .i64 d, .int .i64 h, .int .i64 da, .int .i64 wo]), x.v.cell? ⟨w.heap.size + 1, 1, none⟩ = some (.int .i64 s) := fun x => x.h.l.cell 1
  have hl2 : ∀ x : Wld (fun w' => Two w w' #[.int .i64 n, .int .i64 a, .int .i64 k, .int .i64 m] #[.int .i64 kn, .int .i64 s, .int .i64 d, .int .i64 h, .int .i64 da, .int .i64 wo]), x.v.cell? ⟨w.heap.size + 1, 2, none⟩ = some (.int .i64 d) := fun x => x.h.l.cell 2
  have hl3 : ∀ x : Wld (fun w' => Two w w' #[.int .i64 n, .int .i64 a, .int .i64 k, .int .i64 m] #[.int .i64 kn, .int .i64 s, .int .i64 d, .int .i64 h, .int .i64 da, .int .i64 wo]), x.v.cell? ⟨w.heap.size + 1, 3, none⟩ = some (.int .i64 h) := fun x => x.h.l.cell 3
  have hl4 : ∀ x : Wld (fun w' => Two w w' #[.int .i64 n, .int .i64 a, .int .i64 k, .int .i64 m] #[.int .i64 kn, .int .i64 s, .int .i64 d, .int .i64 h, .int .i64 da, .int .i64 wo]), x.v.cell? ⟨w.heap.size + 1, 4, none⟩ = some (.int .i64 da) := fun x => x.h.l.cell 4
  have hl5 : ∀ x : Wld (fun w' => Two w w' #[.int .i64 n, .int .i64 a, .int .i64 k, .int .i64 m] #[.int .i64 kn, .int .i64 s, .int .i64 d, .int .i64 h, .int .i64 da, .int .i64 wo]), x.v.cell? ⟨w.heap.size + 1, 5, none⟩ = some (.int .i64 wo) := fun x => x.h.l.cell 5
  go_enter Try.func38, Try.ntmps38
  go_wp2
  refine wp_region_heldq (fun w' => Two w w' #[.int .i64 n, .int .i64 a, .int .i64 k, .int .i64 m] #[.int .i64 kn, .int .i64 s, .int .i64 d, .int .i64 h, .int .i64 da, .int .i64 wo]) (by kernel_rfl) (by kernel_rfl) (Two.new w _ _).drew ?_
  repeat (go_big_quiet_step (first | (with_reducible exact held_same (H1.out _)) | (with_reducible exact held_same (H2.out _)) | (with_reducible exact held_below (fun _ _ h hb => Two.more h hb) (HM.out _))))
  refine wpQuiet_nil ?_
  rintro _ ⟨x, rfl⟩
  go_wp2
  go_ret
  exact ⟨rfl, x.h.b⟩
set_option maxHeartbeats 1600000 in
theorem ivl_3 (n a k m kn s d h da wo : Int) (w : World) (hb : 2 ≤ n ∧ n ≤ 4 ∧ 1 ≤ a ∧ a ≤ 4 ∧ 1 ≤ k ∧ k ≤ 4 ∧ 1 ≤ m ∧ m ≤ 5) (c1 : wi kn 0 m = true) (c2 : wi s kn (min m (kn + a)) = true) (c3 : wi d kn s = false) :
    Calls Try.prog 38 #[(.agg #[.int .i64 n, .int .i64 a, .int .i64 k, .int .i64 m]), (.agg #[.int .i64 kn, .int .i64 s, .int .i64 d, .int .i64 h, .int .i64 da, .int .i64 wo])] w fun e w' => e = .returned (.bool false) ∧ Below w.heap.size w w' := by
  have b1 := wi_yes c1
  have b2 := wi_yes c2
  have H1 := Lib.hid (fun W => c1 ▸ wit_any kn 0 m W)
  have H2 := Lib.hid (fun W => c2 ▸ wit_any s kn (min m (kn + a)) W)
  have H3 := Lib.hid (fun W => c3 ▸ wit_any d kn s W)
  have HM := Lib.hid (fun W => below_alloc1 (ims_any n a k m kn W (by omega) (by omega) (by omega)))
  clear hb c1 c2 c3 b1 b2
  have ne := Wld.ne (S := fun w' => Two w w' #[.int .i64 n, .int .i64 a, .int .i64 k, .int .i64 m] #[.int .i64 kn, .int .i64 s, .int .i64 d, .int .i64 h, .int .i64 da, .int .i64 wo]) (Two.new w #[.int .i64 n, .int .i64 a, .int .i64 k, .int .i64 m] #[.int .i64 kn, .int .i64 s, .int .i64 d, .int .i64 h, .int .i64 da, .int .i64 wo])
  have hp0 : ∀ x : Wld (fun w' => Two w w' #[.int .i64 n, .int .i64 a, .int .i64 k, .int .i64 m] #[.int .i64 kn, .int .i64 s, .int .i64 d, .int .i64 h, .int .i64 da, .int .i64 wo]), x.v.cell? ⟨w.heap.size, 0, none⟩ = some (.int .i64 n) := fun x => x.h.p.cell 0
  have hp1 : ∀ x : Wld (fun w' => Two w w' #[.int .i64 n, .int .i64 a, .int .i64 k, .int .i64 m] #[.int .i64 kn, .int .i64 s, .int .i64 d, .int .i64 h, .int .i64 da, .int .i64 wo]), x.v.cell? ⟨w.heap.size, 1, none⟩ = some (.int .i64 a) := fun x => x.h.p.cell 1
  have hp2 : ∀ x : Wld (fun w' => Two w w' #[.int .i64 n, .int .i64 a, .int .i64 k, .int .i64 m] #[.int .i64 kn, .int .i64 s, .int .i64 d, .int .i64 h, .int .i64 da, .int .i64 wo]), x.v.cell? ⟨w.heap.size, 2, none⟩ = some (.int .i64 k) := fun x => x.h.p.cell 2
  have hp3 : ∀ x : Wld (fun w' => Two w w' #[.int .i64 n, .int .i64 a, .int .i64 k, .int .i64 m] #[.int .i64 kn, .int .i64 s, .int .i64 d, .int .i64 h, .int .i64 da, .int .i64 wo]), x.v.cell? ⟨w.heap.size, 3, none⟩ = some (.int .i64 m) := fun x => x.h.p.cell 3
  have hl0 : ∀ x : Wld (fun w' => Two w w' #[.int .i64 n, .int .i64 a, .int .i64 k, .int .i64 m] #[.int .i64 kn, .int .i64 s, .int .i64 d, .int .i64 h, .int .i64 da, .int .i64 wo]), x.v.cell? ⟨w.heap.size + 1, 0, none⟩ = some (.int .i64 kn) := fun x => x.h.l.cell 0
  have hl1 : ∀ x : Wld (fun w' => Two w w' #[.int .i64 n, .int .i64 a, .int .i64 k, .int .i64 m] #[.int .i64 kn, .int .i64 s, .int .i64 d, .int .i64 h, .int .i64 da, .int .i64 wo]), x.v.cell? ⟨w.heap.size + 1, 1, none⟩ = some (.int .i64 s) := fun x => x.h.l.cell 1
  have hl2 : ∀ x : Wld (fun w' => Two w w' #[.int .i64 n, .int .i64 a, .int .i64 k, .int .i64 m] #[.int .i64 kn, .int .i64 s, .int .i64 d, .int .i64 h, .int .i64 da, .int .i64 wo]), x.v.cell? ⟨w.heap.size + 1, 2, none⟩ = some (.int .i64 d) := fun x => x.h.l.cell 2
  have hl3 : ∀ x : Wld (fun w' => Two w w' #[.int .i64 n, .int .i64 a, .int .i64 k, .int .i64 m] #[.int .i64 kn, .int .i64 s, .int .i64 d, .int .i64 h, .int .i64 da, .int .i64 wo]), x.v.cell? ⟨w.heap.size + 1, 3, none⟩ = some (.int .i64 h) := fun x => x.h.l.cell 3
  have hl4 : ∀ x : Wld (fun w' => Two w w' #[.int .i64 n, .int .i64 a, .int .i64 k, .int .i64 m] #[.int .i64 kn, .int .i64 s, .int .i64 d, .int .i64 h, .int .i64 da, .int .i64 wo]), x.v.cell? ⟨w.heap.size + 1, 4, none⟩ = some (.int .i64 da) := fun x => x.h.l.cell 4
  have hl5 : ∀ x : Wld (fun w' => Two w w' #[.int .i64 n, .int .i64 a, .int .i64 k, .int .i64 m] #[.int .i64 kn, .int .i64 s, .int .i64 d, .int .i64 h, .int .i64 da, .int .i64 wo]), x.v.cell? ⟨w.heap.size + 1, 5, none⟩ = some (.int .i64 wo) := fun x => x.h.l.cell 5
  go_enter Try.func38, Try.ntmps38
  go_wp2
  refine wp_region_heldq (fun w' => Two w w' #[.int .i64 n, .int .i64 a, .int .i64 k, .int .i64 m] #[.int .i64 kn, .int .i64 s, .int .i64 d, .int .i64 h, .int .i64 da, .int .i64 wo]) (by kernel_rfl) (by kernel_rfl) (Two.new w _ _).drew ?_
  repeat (go_big_quiet_step (first | (with_reducible exact held_same (H1.out _)) | (with_reducible exact held_same (H2.out _)) | (with_reducible exact held_same (H3.out _)) | (with_reducible exact held_below (fun _ _ h hb => Two.more h hb) (HM.out _))))
  refine wpQuiet_nil ?_
  rintro _ ⟨x, rfl⟩
  go_wp2
  go_ret
  exact ⟨rfl, x.h.b⟩
set_option maxHeartbeats 1600000 in
theorem ivl_4 (n a k m kn s d h da wo : Int) (w : World) (hb : 2 ≤ n ∧ n ≤ 4 ∧ 1 ≤ a ∧ a ≤ 4 ∧ 1 ≤ k ∧ k ≤ 4 ∧ 1 ≤ m ∧ m ≤ 5) (c1 : wi kn 0 m = true) (c2 : wi s kn (min m (kn + a)) = true) (c3 : wi d kn s = true) (c4 : (decide (h % 2 = 0) && wi h 0 (2 ^ (min k (s - d)).toNat - 1)) = false) :
    Calls Try.prog 38 #[(.agg #[.int .i64 n, .int .i64 a, .int .i64 k, .int .i64 m]), (.agg #[.int .i64 kn, .int .i64 s, .int .i64 d, .int .i64 h, .int .i64 da, .int .i64 wo])] w fun e w' => e = .returned (.bool false) ∧ Below w.heap.size w w' := by
  have b1 := wi_yes c1
  have b2 := wi_yes c2
  have b3 := wi_yes c3
  have H1 := Lib.hid (fun W => c1 ▸ wit_any kn 0 m W)
  have H2 := Lib.hid (fun W => c2 ▸ wit_any s kn (min m (kn + a)) W)
  have H3 := Lib.hid (fun W => c3 ▸ wit_any d kn s W)
  have HM := Lib.hid (fun W => below_alloc1 (ims_any n a k m kn W (by omega) (by omega) (by omega)))
  have H4 := Lib.hid (fun W => c4 ▸ ivh_any n a k m kn s d h da wo W (by omega) (by omega))
  clear hb c1 c2 c3 c4 b1 b2 b3
  have ne := Wld.ne (S := fun w' => Two w w' #[.int .i64 n, .int .i64 a, .int .i64 k, .int .i64 m] #[.int .i64 kn, .int .i64 s, .int .i64 d, .int .i64 h, .int .i64 da, .int .i64 wo]) (Two.new w #[.int .i64 n, .int .i64 a, .int .i64 k, .int .i64 m] #[.int .i64 kn, .int .i64 s, .int .i64 d, .int .i64 h, .int .i64 da, .int .i64 wo])
  have hp0 : ∀ x : Wld (fun w' => Two w w' #[.int .i64 n, .int .i64 a, .int .i64 k, .int .i64 m] #[.int .i64 kn, .int .i64 s, .int .i64 d, .int .i64 h, .int .i64 da, .int .i64 wo]), x.v.cell? ⟨w.heap.size, 0, none⟩ = some (.int .i64 n) := fun x => x.h.p.cell 0
  have hp1 : ∀ x : Wld (fun w' => Two w w' #[.int .i64 n, .int .i64 a, .int .i64 k, .int .i64 m] #[.int .i64 kn, .int .i64 s, .int .i64 d, .int .i64 h, .int .i64 da, .int .i64 wo]), x.v.cell? ⟨w.heap.size, 1, none⟩ = some (.int .i64 a) := fun x => x.h.p.cell 1
  have hp2 : ∀ x : Wld (fun w' => Two w w' #[.int .i64 n, .int .i64 a, .int .i64 k, .int .i64 m] #[.int .i64 kn, .int .i64 s, .int .i64 d, .int .i64 h, .int .i64 da, .int .i64 wo]), x.v.cell? ⟨w.heap.size, 2, none⟩ = some (.int .i64 k) := fun x => x.h.p.cell 2
  have hp3 : ∀ x : Wld (fun w' => Two w w' #[.int .i64 n, .int .i64 a, .int .i64 k, .int .i64 m] #[.int .i64 kn, .int .i64 s, .int .i64 d, .int .i64 h, .int .i64 da, .int .i64 wo]), x.v.cell? ⟨w.heap.size, 3, none⟩ = some (.int .i64 m) := fun x => x.h.p.cell 3
  have hl0 : ∀ x : Wld (fun w' => Two w w' #[.int .i64 n, .int .i64 a, .int .i64 k, .int .i64 m] #[.int .i64 kn, .int .i64 s, .int .i64 d, .int .i64 h, .int .i64 da, .int .i64 wo]), x.v.cell? ⟨w.heap.size + 1, 0, none⟩ = some (.int .i64 kn) := fun x => x.h.l.cell 0
  have hl1 : ∀ x : Wld (fun w' => Two w w' #[.int .i64 n, .int .i64 a, .int .i64 k, .int .i64 m] #[.int .i64 kn, .int .i64 s, .int .i64 d, .int .i64 h, .int .i64 da, .int .i64 wo]), x.v.cell? ⟨w.heap.size + 1, 1, none⟩ = some (.int .i64 s) := fun x => x.h.l.cell 1
  have hl2 : ∀ x : Wld (fun w' => Two w w' #[.int .i64 n, .int .i64 a, .int .i64 k, .int .i64 m] #[.int .i64 kn, .int .i64 s, .int .i64 d, .int .i64 h, .int .i64 da, .int .i64 wo]), x.v.cell? ⟨w.heap.size + 1, 2, none⟩ = some (.int .i64 d) := fun x => x.h.l.cell 2
  have hl3 : ∀ x : Wld (fun w' => Two w w' #[.int .i64 n, .int .i64 a, .int .i64 k, .int .i64 m] #[.int .i64 kn, .int .i64 s, .int .i64 d, .int .i64 h, .int .i64 da, .int .i64 wo]), x.v.cell? ⟨w.heap.size + 1, 3, none⟩ = some (.int .i64 h) := fun x => x.h.l.cell 3
  have hl4 : ∀ x : Wld (fun w' => Two w w' #[.int .i64 n, .int .i64 a, .int .i64 k, .int .i64 m] #[.int .i64 kn, .int .i64 s, .int .i64 d, .int .i64 h, .int .i64 da, .int .i64 wo]), x.v.cell? ⟨w.heap.size + 1, 4, none⟩ = some (.int .i64 da) := fun x => x.h.l.cell 4
  have hl5 : ∀ x : Wld (fun w' => Two w w' #[.int .i64 n, .int .i64 a, .int .i64 k, .int .i64 m] #[.int .i64 kn, .int .i64 s, .int .i64 d, .int .i64 h, .int .i64 da, .int .i64 wo]), x.v.cell? ⟨w.heap.size + 1, 5, none⟩ = some (.int .i64 wo) := fun x => x.h.l.cell 5
  go_enter Try.func38, Try.ntmps38
  go_wp2
  refine wp_region_heldq (fun w' => Two w w' #[.int .i64 n, .int .i64 a, .int .i64 k, .int .i64 m] #[.int .i64 kn, .int .i64 s, .int .i64 d, .int .i64 h, .int .i64 da, .int .i64 wo]) (by kernel_rfl) (by kernel_rfl) (Two.new w _ _).drew ?_
  repeat (go_big_quiet_step (first | (with_reducible exact held_same (H1.out _)) | (with_reducible exact held_same (H2.out _)) | (with_reducible exact held_same (H3.out _)) | (with_reducible exact held_below (fun _ _ h hb => Two.more h hb) (HM.out _)) | (with_reducible exact held_below (fun _ _ h hb => Two.more h hb) (H4.out _))))
  refine wpQuiet_nil ?_
  rintro _ ⟨x, rfl⟩
  go_wp2
  go_ret
  exact ⟨rfl, x.h.b⟩
set_option maxHeartbeats 1600000 in
theorem ivl_5 (n a k m kn s d h da wo : Int) (w : World) (hb : 2 ≤ n ∧ n ≤ 4 ∧ 1 ≤ a ∧ a ≤ 4 ∧ 1 ≤ k ∧ k ≤ 4 ∧ 1 ≤ m ∧ m ≤ 5) (c1 : wi kn 0 m = true) (c2 : wi s kn (min m (kn + a)) = true) (c3 : wi d kn s = true) (c5 : wi da (-1) (s - 1) = false) (c4 : (decide (h % 2 = 0) && wi h 0 (2 ^ (min k (s - d)).toNat - 1)) = true) :
    Calls Try.prog 38 #[(.agg #[.int .i64 n, .int .i64 a, .int .i64 k, .int .i64 m]), (.agg #[.int .i64 kn, .int .i64 s, .int .i64 d, .int .i64 h, .int .i64 da, .int .i64 wo])] w fun e w' => e = .returned (.bool false) ∧ Below w.heap.size w w' := by
  have b1 := wi_yes c1
  have b2 := wi_yes c2
  have b3 := wi_yes c3
  have H1 := Lib.hid (fun W => c1 ▸ wit_any kn 0 m W)
  have H2 := Lib.hid (fun W => c2 ▸ wit_any s kn (min m (kn + a)) W)
  have H3 := Lib.hid (fun W => c3 ▸ wit_any d kn s W)
  have H5 := Lib.hid (fun W => c5 ▸ wit_any da (-1) (s - 1) W)
  have HM := Lib.hid (fun W => below_alloc1 (ims_any n a k m kn W (by omega) (by omega) (by omega)))
  have H4 := Lib.hid (fun W => c4 ▸ ivh_any n a k m kn s d h da wo W (by omega) (by omega))
  have e5 : IntKind.i64.wrap (s - 1) = s - 1 := IntWalk.i64_in _ (by omega)
  clear hb c1 c2 c3 c5 c4 b1 b2 b3
  have ne := Wld.ne (S := fun w' => Two w w' #[.int .i64 n, .int .i64 a, .int .i64 k, .int .i64 m] #[.int .i64 kn, .int .i64 s, .int .i64 d, .int .i64 h, .int .i64 da, .int .i64 wo]) (Two.new w #[.int .i64 n, .int .i64 a, .int .i64 k, .int .i64 m] #[.int .i64 kn, .int .i64 s, .int .i64 d, .int .i64 h, .int .i64 da, .int .i64 wo])
  have hp0 : ∀ x : Wld (fun w' => Two w w' #[.int .i64 n, .int .i64 a, .int .i64 k, .int .i64 m] #[.int .i64 kn, .int .i64 s, .int .i64 d, .int .i64 h, .int .i64 da, .int .i64 wo]), x.v.cell? ⟨w.heap.size, 0, none⟩ = some (.int .i64 n) := fun x => x.h.p.cell 0
  have hp1 : ∀ x : Wld (fun w' => Two w w' #[.int .i64 n, .int .i64 a, .int .i64 k, .int .i64 m] #[.int .i64 kn, .int .i64 s, .int .i64 d, .int .i64 h, .int .i64 da, .int .i64 wo]), x.v.cell? ⟨w.heap.size, 1, none⟩ = some (.int .i64 a) := fun x => x.h.p.cell 1
  have hp2 : ∀ x : Wld (fun w' => Two w w' #[.int .i64 n, .int .i64 a, .int .i64 k, .int .i64 m] #[.int .i64 kn, .int .i64 s, .int .i64 d, .int .i64 h, .int .i64 da, .int .i64 wo]), x.v.cell? ⟨w.heap.size, 2, none⟩ = some (.int .i64 k) := fun x => x.h.p.cell 2
  have hp3 : ∀ x : Wld (fun w' => Two w w' #[.int .i64 n, .int .i64 a, .int .i64 k, .int .i64 m] #[.int .i64 kn, .int .i64 s, .int .i64 d, .int .i64 h, .int .i64 da, .int .i64 wo]), x.v.cell? ⟨w.heap.size, 3, none⟩ = some (.int .i64 m) := fun x => x.h.p.cell 3
  have hl0 : ∀ x : Wld (fun w' => Two w w' #[.int .i64 n, .int .i64 a, .int .i64 k, .int .i64 m] #[.int .i64 kn, .int .i64 s, .int .i64 d, .int .i64 h, .int .i64 da, .int .i64 wo]), x.v.cell? ⟨w.heap.size + 1, 0, none⟩ = some (.int .i64 kn) := fun x => x.h.l.cell 0
  have hl1 : ∀ x : Wld (fun w' => Two w w' #[.int .i64 n, .int .i64 a, .int .i64 k, .int .i64 m] #[.int .i64 kn, .int .i64 s, .int .i64 d, .int .i64 h, .int .i64 da, .int .i64 wo]), x.v.cell? ⟨w.heap.size + 1, 1, none⟩ = some (.int .i64 s) := fun x => x.h.l.cell 1
  have hl2 : ∀ x : Wld (fun w' => Two w w' #[.int .i64 n, .int .i64 a, .int .i64 k, .int .i64 m] #[.int .i64 kn, .int .i64 s, .int .i64 d, .int .i64 h, .int .i64 da, .int .i64 wo]), x.v.cell? ⟨w.heap.size + 1, 2, none⟩ = some (.int .i64 d) := fun x => x.h.l.cell 2
  have hl3 : ∀ x : Wld (fun w' => Two w w' #[.int .i64 n, .int .i64 a, .int .i64 k, .int .i64 m] #[.int .i64 kn, .int .i64 s, .int .i64 d, .int .i64 h, .int .i64 da, .int .i64 wo]), x.v.cell? ⟨w.heap.size + 1, 3, none⟩ = some (.int .i64 h) := fun x => x.h.l.cell 3
  have hl4 : ∀ x : Wld (fun w' => Two w w' #[.int .i64 n, .int .i64 a, .int .i64 k, .int .i64 m] #[.int .i64 kn, .int .i64 s, .int .i64 d, .int .i64 h, .int .i64 da, .int .i64 wo]), x.v.cell? ⟨w.heap.size + 1, 4, none⟩ = some (.int .i64 da) := fun x => x.h.l.cell 4
  have hl5 : ∀ x : Wld (fun w' => Two w w' #[.int .i64 n, .int .i64 a, .int .i64 k, .int .i64 m] #[.int .i64 kn, .int .i64 s, .int .i64 d, .int .i64 h, .int .i64 da, .int .i64 wo]), x.v.cell? ⟨w.heap.size + 1, 5, none⟩ = some (.int .i64 wo) := fun x => x.h.l.cell 5
  go_enter Try.func38, Try.ntmps38
  go_wp2
  refine wp_region_heldq (fun w' => Two w w' #[.int .i64 n, .int .i64 a, .int .i64 k, .int .i64 m] #[.int .i64 kn, .int .i64 s, .int .i64 d, .int .i64 h, .int .i64 da, .int .i64 wo]) (by kernel_rfl) (by kernel_rfl) (Two.new w _ _).drew ?_
  repeat (go_big_quiet_step (first | (with_reducible exact held_same (H1.out _)) | (with_reducible exact held_same (H2.out _)) | (with_reducible exact held_same (H3.out _)) | (with_reducible exact held_same (H5.out _)) | (with_reducible exact held_below (fun _ _ h hb => Two.more h hb) (HM.out _)) | (with_reducible exact held_below (fun _ _ h hb => Two.more h hb) (H4.out _))))
  refine wpQuiet_nil ?_
  rintro _ ⟨x, rfl⟩
  go_wp2
  go_ret
  exact ⟨rfl, x.h.b⟩
set_option maxHeartbeats 1600000 in
theorem ivl_6 (n a k m kn s d h da wo : Int) (w : World) (hb : 2 ≤ n ∧ n ≤ 4 ∧ 1 ≤ a ∧ a ≤ 4 ∧ 1 ≤ k ∧ k ≤ 4 ∧ 1 ≤ m ∧ m ≤ 5) (c1 : wi kn 0 m = true) (c2 : wi s kn (min m (kn + a)) = true) (c3 : wi d kn s = true) (c5 : wi da (-1) (s - 1) = true) (c6 : wi wo (-1) d = false) (c4 : (decide (h % 2 = 0) && wi h 0 (2 ^ (min k (s - d)).toNat - 1)) = true) :
    Calls Try.prog 38 #[(.agg #[.int .i64 n, .int .i64 a, .int .i64 k, .int .i64 m]), (.agg #[.int .i64 kn, .int .i64 s, .int .i64 d, .int .i64 h, .int .i64 da, .int .i64 wo])] w fun e w' => e = .returned (.bool false) ∧ Below w.heap.size w w' := by
  have b1 := wi_yes c1
  have b2 := wi_yes c2
  have b3 := wi_yes c3
  have H1 := Lib.hid (fun W => c1 ▸ wit_any kn 0 m W)
  have H2 := Lib.hid (fun W => c2 ▸ wit_any s kn (min m (kn + a)) W)
  have H3 := Lib.hid (fun W => c3 ▸ wit_any d kn s W)
  have H5 := Lib.hid (fun W => c5 ▸ wit_any da (-1) (s - 1) W)
  have H6 := Lib.hid (fun W => c6 ▸ wit_any wo (-1) d W)
  have HM := Lib.hid (fun W => below_alloc1 (ims_any n a k m kn W (by omega) (by omega) (by omega)))
  have H4 := Lib.hid (fun W => c4 ▸ ivh_any n a k m kn s d h da wo W (by omega) (by omega))
  have e5 : IntKind.i64.wrap (s - 1) = s - 1 := IntWalk.i64_in _ (by omega)
  clear hb c1 c2 c3 c5 c6 c4 b1 b2 b3
  have ne := Wld.ne (S := fun w' => Two w w' #[.int .i64 n, .int .i64 a, .int .i64 k, .int .i64 m] #[.int .i64 kn, .int .i64 s, .int .i64 d, .int .i64 h, .int .i64 da, .int .i64 wo]) (Two.new w #[.int .i64 n, .int .i64 a, .int .i64 k, .int .i64 m] #[.int .i64 kn, .int .i64 s, .int .i64 d, .int .i64 h, .int .i64 da, .int .i64 wo])
  have hp0 : ∀ x : Wld (fun w' => Two w w' #[.int .i64 n, .int .i64 a, .int .i64 k, .int .i64 m] #[.int .i64 kn, .int .i64 s, .int .i64 d, .int .i64 h, .int .i64 da, .int .i64 wo]), x.v.cell? ⟨w.heap.size, 0, none⟩ = some (.int .i64 n) := fun x => x.h.p.cell 0
  have hp1 : ∀ x : Wld (fun w' => Two w w' #[.int .i64 n, .int .i64 a, .int .i64 k, .int .i64 m] #[.int .i64 kn, .int .i64 s, .int .i64 d, .int .i64 h, .int .i64 da, .int .i64 wo]), x.v.cell? ⟨w.heap.size, 1, none⟩ = some (.int .i64 a) := fun x => x.h.p.cell 1
  have hp2 : ∀ x : Wld (fun w' => Two w w' #[.int .i64 n, .int .i64 a, .int .i64 k, .int .i64 m] #[.int .i64 kn, .int .i64 s, .int .i64 d, .int .i64 h, .int .i64 da, .int .i64 wo]), x.v.cell? ⟨w.heap.size, 2, none⟩ = some (.int .i64 k) := fun x => x.h.p.cell 2
  have hp3 : ∀ x : Wld (fun w' => Two w w' #[.int .i64 n, .int .i64 a, .int .i64 k, .int .i64 m] #[.int .i64 kn, .int .i64 s, .int .i64 d, .int .i64 h, .int .i64 da, .int .i64 wo]), x.v.cell? ⟨w.heap.size, 3, none⟩ = some (.int .i64 m) := fun x => x.h.p.cell 3
  have hl0 : ∀ x : Wld (fun w' => Two w w' #[.int .i64 n, .int .i64 a, .int .i64 k, .int .i64 m] #[.int .i64 kn, .int .i64 s, .int .i64 d, .int .i64 h, .int .i64 da, .int .i64 wo]), x.v.cell? ⟨w.heap.size + 1, 0, none⟩ = some (.int .i64 kn) := fun x => x.h.l.cell 0
  have hl1 : ∀ x : Wld (fun w' => Two w w' #[.int .i64 n, .int .i64 a, .int .i64 k, .int .i64 m] #[.int .i64 kn, .int .i64 s, .int .i64 d, .int .i64 h, .int .i64 da, .int .i64 wo]), x.v.cell? ⟨w.heap.size + 1, 1, none⟩ = some (.int .i64 s) := fun x => x.h.l.cell 1
  have hl2 : ∀ x : Wld (fun w' => Two w w' #[.int .i64 n, .int .i64 a, .int .i64 k, .int .i64 m] #[.int .i64 kn, .int .i64 s, .int .i64 d, .int .i64 h, .int .i64 da, .int .i64 wo]), x.v.cell? ⟨w.heap.size + 1, 2, none⟩ = some (.int .i64 d) := fun x => x.h.l.cell 2
  have hl3 : ∀ x : Wld (fun w' => Two w w' #[.int .i64 n, .int .i64 a, .int .i64 k, .int .i64 m] #[.int .i64 kn, .int .i64 s, .int .i64 d, .int .i64 h, .int .i64 da, .int .i64 wo]), x.v.cell? ⟨w.heap.size + 1, 3, none⟩ = some (.int .i64 h) := fun x => x.h.l.cell 3
  have hl4 : ∀ x : Wld (fun w' => Two w w' #[.int .i64 n, .int .i64 a, .int .i64 k, .int .i64 m] #[.int .i64 kn, .int .i64 s, .int .i64 d, .int .i64 h, .int .i64 da, .int .i64 wo]), x.v.cell? ⟨w.heap.size + 1, 4, none⟩ = some (.int .i64 da) := fun x => x.h.l.cell 4
  have hl5 : ∀ x : Wld (fun w' => Two w w' #[.int .i64 n, .int .i64 a, .int .i64 k, .int .i64 m] #[.int .i64 kn, .int .i64 s, .int .i64 d, .int .i64 h, .int .i64 da, .int .i64 wo]), x.v.cell? ⟨w.heap.size + 1, 5, none⟩ = some (.int .i64 wo) := fun x => x.h.l.cell 5
  go_enter Try.func38, Try.ntmps38
  go_wp2
  refine wp_region_heldq (fun w' => Two w w' #[.int .i64 n, .int .i64 a, .int .i64 k, .int .i64 m] #[.int .i64 kn, .int .i64 s, .int .i64 d, .int .i64 h, .int .i64 da, .int .i64 wo]) (by kernel_rfl) (by kernel_rfl) (Two.new w _ _).drew ?_
  repeat (go_big_quiet_step (first | (with_reducible exact held_same (H1.out _)) | (with_reducible exact held_same (H2.out _)) | (with_reducible exact held_same (H3.out _)) | (with_reducible exact held_same (H5.out _)) | (with_reducible exact held_same (H6.out _)) | (with_reducible exact held_below (fun _ _ h hb => Two.more h hb) (HM.out _)) | (with_reducible exact held_below (fun _ _ h hb => Two.more h hb) (H4.out _))))
  refine wpQuiet_nil ?_
  rintro _ ⟨x, rfl⟩
  go_wp2
  go_ret
  exact ⟨rfl, x.h.b⟩
set_option maxHeartbeats 1600000 in
theorem ivl_7 (n a k m kn s d h da wo : Int) (w : World) (hb : 2 ≤ n ∧ n ≤ 4 ∧ 1 ≤ a ∧ a ≤ 4 ∧ 1 ≤ k ∧ k ≤ 4 ∧ 1 ≤ m ∧ m ≤ 5) (c1 : wi kn 0 m = true) (c2 : wi s kn (min m (kn + a)) = true) (c3 : wi d kn s = true) (c5 : wi da (-1) (s - 1) = true) (c6 : wi wo (-1) d = true) (c4 : (decide (h % 2 = 0) && wi h 0 (2 ^ (min k (s - d)).toNat - 1)) = true) :
    Calls Try.prog 38 #[(.agg #[.int .i64 n, .int .i64 a, .int .i64 k, .int .i64 m]), (.agg #[.int .i64 kn, .int .i64 s, .int .i64 d, .int .i64 h, .int .i64 da, .int .i64 wo])] w fun e w' => e = .returned (.bool true) ∧ Below w.heap.size w w' := by
  have b1 := wi_yes c1
  have b2 := wi_yes c2
  have b3 := wi_yes c3
  have H1 := Lib.hid (fun W => c1 ▸ wit_any kn 0 m W)
  have H2 := Lib.hid (fun W => c2 ▸ wit_any s kn (min m (kn + a)) W)
  have H3 := Lib.hid (fun W => c3 ▸ wit_any d kn s W)
  have H5 := Lib.hid (fun W => c5 ▸ wit_any da (-1) (s - 1) W)
  have H6 := Lib.hid (fun W => c6 ▸ wit_any wo (-1) d W)
  have HM := Lib.hid (fun W => below_alloc1 (ims_any n a k m kn W (by omega) (by omega) (by omega)))
  have H4 := Lib.hid (fun W => c4 ▸ ivh_any n a k m kn s d h da wo W (by omega) (by omega))
  have e5 : IntKind.i64.wrap (s - 1) = s - 1 := IntWalk.i64_in _ (by omega)
  clear hb c1 c2 c3 c5 c6 c4 b1 b2 b3
  have ne := Wld.ne (S := fun w' => Two w w' #[.int .i64 n, .int .i64 a, .int .i64 k, .int .i64 m] #[.int .i64 kn, .int .i64 s, .int .i64 d, .int .i64 h, .int .i64 da, .int .i64 wo]) (Two.new w #[.int .i64 n, .int .i64 a, .int .i64 k, .int .i64 m] #[.int .i64 kn, .int .i64 s, .int .i64 d, .int .i64 h, .int .i64 da, .int .i64 wo])
  have hp0 : ∀ x : Wld (fun w' => Two w w' #[.int .i64 n, .int .i64 a, .int .i64 k, .int .i64 m] #[.int .i64 kn, .int .i64 s, .int .i64 d, .int .i64 h, .int .i64 da, .int .i64 wo]), x.v.cell? ⟨w.heap.size, 0, none⟩ = some (.int .i64 n) := fun x => x.h.p.cell 0
  have hp1 : ∀ x : Wld (fun w' => Two w w' #[.int .i64 n, .int .i64 a, .int .i64 k, .int .i64 m] #[.int .i64 kn, .int .i64 s, .int .i64 d, .int .i64 h, .int .i64 da, .int .i64 wo]), x.v.cell? ⟨w.heap.size, 1, none⟩ = some (.int .i64 a) := fun x => x.h.p.cell 1
  have hp2 : ∀ x : Wld (fun w' => Two w w' #[.int .i64 n, .int .i64 a, .int .i64 k, .int .i64 m] #[.int .i64 kn, .int .i64 s, .int .i64 d, .int .i64 h, .int .i64 da, .int .i64 wo]), x.v.cell? ⟨w.heap.size, 2, none⟩ = some (.int .i64 k) := fun x => x.h.p.cell 2
  have hp3 : ∀ x : Wld (fun w' => Two w w' #[.int .i64 n, .int .i64 a, .int .i64 k, .int .i64 m] #[.int .i64 kn, .int .i64 s, .int .i64 d, .int .i64 h, .int .i64 da, .int .i64 wo]), x.v.cell? ⟨w.heap.size, 3, none⟩ = some (.int .i64 m) := fun x => x.h.p.cell 3
  have hl0 : ∀ x : Wld (fun w' => Two w w' #[.int .i64 n, .int .i64 a, .int .i64 k, .int .i64 m] #[.int .i64 kn, .int .i64 s, .int .i64 d, .int .i64 h, .int .i64 da, .int .i64 wo]), x.v.cell? ⟨w.heap.size + 1, 0, none⟩ = some (.int .i64 kn) := fun x => x.h.l.cell 0
  have hl1 : ∀ x : Wld (fun w' => Two w w' #[.int .i64 n, .int .i64 a, .int .i64 k, .int .i64 m] #[.int .i64 kn, .int .i64 s, .int .i64 d, .int .i64 h, .int .i64 da, .int .i64 wo]), x.v.cell? ⟨w.heap.size + 1, 1, none⟩ = some (.int .i64 s) := fun x => x.h.l.cell 1
  have hl2 : ∀ x : Wld (fun w' => Two w w' #[.int .i64 n, .int .i64 a, .int .i64 k, .int .i64 m] #[.int .i64 kn, .int .i64 s, .int .i64 d, .int .i64 h, .int .i64 da, .int .i64 wo]), x.v.cell? ⟨w.heap.size + 1, 2, none⟩ = some (.int .i64 d) := fun x => x.h.l.cell 2
  have hl3 : ∀ x : Wld (fun w' => Two w w' #[.int .i64 n, .int .i64 a, .int .i64 k, .int .i64 m] #[.int .i64 kn, .int .i64 s, .int .i64 d, .int .i64 h, .int .i64 da, .int .i64 wo]), x.v.cell? ⟨w.heap.size + 1, 3, none⟩ = some (.int .i64 h) := fun x => x.h.l.cell 3
  have hl4 : ∀ x : Wld (fun w' => Two w w' #[.int .i64 n, .int .i64 a, .int .i64 k, .int .i64 m] #[.int .i64 kn, .int .i64 s, .int .i64 d, .int .i64 h, .int .i64 da, .int .i64 wo]), x.v.cell? ⟨w.heap.size + 1, 4, none⟩ = some (.int .i64 da) := fun x => x.h.l.cell 4
  have hl5 : ∀ x : Wld (fun w' => Two w w' #[.int .i64 n, .int .i64 a, .int .i64 k, .int .i64 m] #[.int .i64 kn, .int .i64 s, .int .i64 d, .int .i64 h, .int .i64 da, .int .i64 wo]), x.v.cell? ⟨w.heap.size + 1, 5, none⟩ = some (.int .i64 wo) := fun x => x.h.l.cell 5
  go_enter Try.func38, Try.ntmps38
  go_wp2
  refine wp_region_heldq (fun w' => Two w w' #[.int .i64 n, .int .i64 a, .int .i64 k, .int .i64 m] #[.int .i64 kn, .int .i64 s, .int .i64 d, .int .i64 h, .int .i64 da, .int .i64 wo]) (by kernel_rfl) (by kernel_rfl) (Two.new w _ _).drew ?_
  repeat (go_big_quiet_step (first | (with_reducible exact held_same (H1.out _)) | (with_reducible exact held_same (H2.out _)) | (with_reducible exact held_same (H3.out _)) | (with_reducible exact held_same (H5.out _)) | (with_reducible exact held_same (H6.out _)) | (with_reducible exact held_below (fun _ _ h hb => Two.more h hb) (HM.out _)) | (with_reducible exact held_below (fun _ _ h hb => Two.more h hb) (H4.out _))))
  refine wpQuiet_nil ?_
  rintro _ ⟨x, rfl⟩
  go_wp2
  go_ret
  exact ⟨rfl, x.h.b⟩
theorem ivl_any (n a k m kn s d h da wo : Int) (w : World) (hp : vpB ⟨n, a, k, m⟩ = true) :
    Calls Try.prog 38 #[(.agg #[.int .i64 n, .int .i64 a, .int .i64 k, .int .i64 m]), (.agg #[.int .i64 kn, .int .i64 s, .int .i64 d, .int .i64 h, .int .i64 da, .int .i64 wo])] w fun e w' => e = .returned (.bool (vlB ⟨n, a, k, m⟩ ⟨kn, s, d, h, da, wo⟩)) ∧ Below w.heap.size w w' := by
  have hb : 2 ≤ n ∧ n ≤ 4 ∧ 1 ≤ a ∧ a ≤ 4 ∧ 1 ≤ k ∧ k ≤ 4 ∧ 1 ≤ m ∧ m ≤ 5 := by simpa only [vpB, decide_eq_true_eq] using hp
  rw [vlB_eq]
  cases c1 : wi kn 0 m
  · exact ivl_1 n a k m kn s d h da wo w hb c1
  cases c2 : wi s kn (min m (kn + a))
  · exact ivl_2 n a k m kn s d h da wo w hb c1 c2
  cases c3 : wi d kn s
  · exact ivl_3 n a k m kn s d h da wo w hb c1 c2 c3
  cases c4 : (decide (h % 2 = 0) && wi h 0 (2 ^ (min k (s - d)).toNat - 1))
  · exact ivl_4 n a k m kn s d h da wo w hb c1 c2 c3 c4
  cases c5 : wi da (-1) (s - 1)
  · exact ivl_5 n a k m kn s d h da wo w hb c1 c2 c3 c5 c4
  cases c6 : wi wo (-1) d
  · exact ivl_6 n a k m kn s d h da wo w hb c1 c2 c3 c5 c6 c4
  · exact ivl_7 n a k m kn s d h da wo w hb c1 c2 c3 c5 c6 c4
end Go.Proofs.Ytnbgfffcialfkaa
