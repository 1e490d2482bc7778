/-
  The walks of the program's functions that change links: send, take, learn. Conditions: the bounds that are typed.
  The walks of the program's functions by which words and answers come: take, learn. Conditions: the bounds that are typed.
-/
import Derived.Test.YtnbgfffcialfkaaLn08
import Derived.Deep.LoopGhost
set_option linter.unusedSimpArgs false
set_option linter.unusedVariables false
namespace Go.Proofs.Ytnbgfffcialfkaa
open Go.RowKit
set_option linter.unusedVariables false

/-- A plan and two links lie in the first three blocks behind w. -/
structure Thr (w w' : World) (xs ys zs : Array Value) : Prop where
  p : Blk w' w.heap.size 25 xs
  l : Blk w' (w.heap.size + 1) 35 ys
  r : Blk w' (w.heap.size + 1 + 1) 35 zs
  b : Below w.heap.size w w'
  z : w.heap.size + 3 ≤ w'.heap.size
theorem Thr.new (w : World) (xs ys zs : Array Value) : Thr w (((w.alloc (.cells xs 25)).alloc (.cells ys 35)).alloc (.cells zs 35)) xs ys zs := by
  refine ⟨((Blk.new w _ xs).alloc _).alloc _, ?_, ?_, (((Below.refl _ _).alloc (Nat.le_refl _) _).alloc (by simp) _).alloc (by simp; omega) _, by simp⟩
  · have := (Blk.new (w.alloc (.cells xs 25)) 35 ys).alloc (.cells zs 35); simpa using this
  · have := Blk.new ((w.alloc (.cells xs 25)).alloc (.cells ys 35)) 35 zs; simpa using this
theorem Thr.more {w w1 w2 : World} {xs ys zs : Array Value} (h : Thr w w1 xs ys zs) (hb : Below w1.heap.size w1 w2) : Thr w w2 xs ys zs :=
  ⟨h.p.below hb (by have := h.z; omega), h.l.below hb (by have := h.z; omega), h.r.below hb (by have := h.z; omega), h.b.trans (hb.mono (by have := h.z; omega)), Nat.le_trans h.z hb.size⟩
theorem Thr.drewN {w w1 : World} {xs ys zs : Array Value} (h : Thr w w1 xs ys zs) (q : Nat) : Thr w (w1.drewN q) xs ys zs := ⟨h.p, h.l, h.r, belowD h.b q, h.z⟩
theorem Thr.drew {w w1 : World} {xs ys zs : Array Value} (h : Thr w w1 xs ys zs) : Thr w w1.drew xs ys zs := h.drewN 1
theorem Thr.alloc {w w1 : World} {xs ys zs : Array Value} (h : Thr w w1 xs ys zs) (o : Obj) : Thr w (w1.alloc o) xs ys zs := h.more ((Below.refl _ _).alloc (Nat.le_refl _) _)
theorem Thr.setL {w w1 : World} {xs ys zs : Array Value} (h : Thr w w1 xs ys zs) (i : Nat) (u : Value) : Thr w (w1.setCell ⟨w.heap.size + 1, i, none⟩ u) xs (ys.setIfInBounds i u) zs :=
  ⟨h.p.far (p := ⟨w.heap.size + 1, i, none⟩) (by simp) u, h.l.set_ i u, h.r.far (p := ⟨w.heap.size + 1, i, none⟩) (by simp) u, h.b.setCell (by simp) _, by simpa using h.z⟩

theorem infoL : (Try.prog.info? 35).map (·.size) = some 6 := by kernel_rfl
set_option maxHeartbeats 1600000 in
theorem isd_yes (n a k m kn s d h wo : Int) (w : World) (hb : 1 ≤ a ∧ a ≤ 4 ∧ 1 ≤ m ∧ m ≤ 5 ∧ 0 ≤ kn ∧ kn ≤ 5) (h1 : s < min m (kn + a)) (h2 : 0 ≤ s) :
    Calls Try.prog 46 #[(.agg #[.int .i64 n, .int .i64 a, .int .i64 k, .int .i64 m]), (.agg #[.int .i64 kn, .int .i64 s, .int .i64 d, .int .i64 h, .int .i64 (-1), .int .i64 wo])] w fun e w' => e = .returned (.agg #[.int .i64 kn, .int .i64 (s + 1), .int .i64 d, .int .i64 h, .int .i64 s, .int .i64 wo]) ∧ Below w.heap.size w w' := by
  have ne := Wld.ne (S := (fun w' => Thr w w' #[.int .i64 n, .int .i64 a, .int .i64 k, .int .i64 m] #[.int .i64 kn, .int .i64 s, .int .i64 d, .int .i64 h, .int .i64 (-1), .int .i64 wo] #[.int .i64 0, .int .i64 0, .int .i64 0, .int .i64 0, .int .i64 0, .int .i64 0])) (Thr.new w _ _ _)
  have hp0 : ∀ x : Wld (fun w' => Thr w w' #[.int .i64 n, .int .i64 a, .int .i64 k, .int .i64 m] #[.int .i64 kn, .int .i64 s, .int .i64 d, .int .i64 h, .int .i64 (-1), .int .i64 wo] #[.int .i64 0, .int .i64 0, .int .i64 0, .int .i64 0, .int .i64 0, .int .i64 0]), x.v.cell? ⟨w.heap.size, 0, none⟩ = some (.int .i64 n) := fun x => x.h.p.cell 0
  have hp1 : ∀ x : Wld (fun w' => Thr w w' #[.int .i64 n, .int .i64 a, .int .i64 k, .int .i64 m] #[.int .i64 kn, .int .i64 s, .int .i64 d, .int .i64 h, .int .i64 (-1), .int .i64 wo] #[.int .i64 0, .int .i64 0, .int .i64 0, .int .i64 0, .int .i64 0, .int .i64 0]), x.v.cell? ⟨w.heap.size, 1, none⟩ = some (.int .i64 a) := fun x => x.h.p.cell 1
  have hp2 : ∀ x : Wld (fun w' => Thr w w' #[.int .i64 n, .int .i64 a, .int .i64 k, .int .i64 m] #[.int .i64 kn, .int .i64 s, .int .i64 d, .int .i64 h, .int .i64 (-1), .int .i64 wo] #[.int .i64 0, .int .i64 0, .int .i64 0, .int .i64 0, .int .i64 0, .int .i64 0]), x.v.cell? ⟨w.heap.size, 2, none⟩ = some (.int .i64 k) := fun x => x.h.p.cell 2
  have hp3 : ∀ x : Wld (fun w' => Thr w w' #[.int .i64 n, .int .i64 a, .int .i64 k, .int .i64 m] #[.int .i64 kn, .int .i64 s, .int .i64 d, .int .i64 h, .int .i64 (-1), .int .i64 wo] #[.int .i64 0, .int .i64 0, .int .i64 0, .int .i64 0, .int .i64 0, .int .i64 0]), x.v.cell? ⟨w.heap.size, 3, none⟩ = some (.int .i64 m) := fun x => x.h.p.cell 3
  have hl0 : ∀ x : Wld (fun w' => Thr w w' #[.int .i64 n, .int .i64 a, .int .i64 k, .int .i64 m] #[.int .i64 kn, .int .i64 s, .int .i64 d, .int .i64 h, .int .i64 (-1), .int .i64 wo] #[.int .i64 0, .int .i64 0, .int .i64 0, .int .i64 0, .int .i64 0, .int .i64 0]), x.v.cell? ⟨w.heap.size + 1, 0, none⟩ = some (.int .i64 kn) := fun x => x.h.l.cell 0
  have hl1 : ∀ x : Wld (fun w' => Thr w w' #[.int .i64 n, .int .i64 a, .int .i64 k, .int .i64 m] #[.int .i64 kn, .int .i64 s, .int .i64 d, .int .i64 h, .int .i64 (-1), .int .i64 wo] #[.int .i64 0, .int .i64 0, .int .i64 0, .int .i64 0, .int .i64 0, .int .i64 0]), x.v.cell? ⟨w.heap.size + 1, 1, none⟩ = some (.int .i64 s) := fun x => x.h.l.cell 1
  have hl2 : ∀ x : Wld (fun w' => Thr w w' #[.int .i64 n, .int .i64 a, .int .i64 k, .int .i64 m] #[.int .i64 kn, .int .i64 s, .int .i64 d, .int .i64 h, .int .i64 (-1), .int .i64 wo] #[.int .i64 0, .int .i64 0, .int .i64 0, .int .i64 0, .int .i64 0, .int .i64 0]), x.v.cell? ⟨w.heap.size + 1, 2, none⟩ = some (.int .i64 d) := fun x => x.h.l.cell 2
  have hl3 : ∀ x : Wld (fun w' => Thr w w' #[.int .i64 n, .int .i64 a, .int .i64 k, .int .i64 m] #[.int .i64 kn, .int .i64 s, .int .i64 d, .int .i64 h, .int .i64 (-1), .int .i64 wo] #[.int .i64 0, .int .i64 0, .int .i64 0, .int .i64 0, .int .i64 0, .int .i64 0]), x.v.cell? ⟨w.heap.size + 1, 3, none⟩ = some (.int .i64 h) := fun x => x.h.l.cell 3
  have hl4 : ∀ x : Wld (fun w' => Thr w w' #[.int .i64 n, .int .i64 a, .int .i64 k, .int .i64 m] #[.int .i64 kn, .int .i64 s, .int .i64 d, .int .i64 h, .int .i64 (-1), .int .i64 wo] #[.int .i64 0, .int .i64 0, .int .i64 0, .int .i64 0, .int .i64 0, .int .i64 0]), x.v.cell? ⟨w.heap.size + 1, 4, none⟩ = some (.int .i64 (-1)) := fun x => x.h.l.cell 4
  have hl5 : ∀ x : Wld (fun w' => Thr w w' #[.int .i64 n, .int .i64 a, .int .i64 k, .int .i64 m] #[.int .i64 kn, .int .i64 s, .int .i64 d, .int .i64 h, .int .i64 (-1), .int .i64 wo] #[.int .i64 0, .int .i64 0, .int .i64 0, .int .i64 0, .int .i64 0, .int .i64 0]), x.v.cell? ⟨w.heap.size + 1, 5, none⟩ = some (.int .i64 wo) := fun x => x.h.l.cell 5
  have HM := Lib.hid (fun W => below_alloc1 (ims_any n a k m kn W (by omega) (by omega) (by omega)))
  have h1' : decide (s < min m (kn + a)) = true := by simpa using h1
  have h5 : s < 5 := by omega
  clear hb h1
  go_enter Try.func46, Try.ntmps46
  go_wp2
  refine wp_region_heldq (fun w' => Thr w w' #[.int .i64 n, .int .i64 a, .int .i64 k, .int .i64 m] #[.int .i64 kn, .int .i64 s, .int .i64 d, .int .i64 h, .int .i64 (-1), .int .i64 wo] #[.int .i64 0, .int .i64 0, .int .i64 0, .int .i64 0, .int .i64 0, .int .i64 0]) (by kernel_rfl) (by kernel_rfl) (Thr.new w _ _ _).drew ?_
  repeat (go_big_quiet_step (with_reducible exact held_below (fun _ _ h hb => Thr.more h hb) (HM.out _)))
  refine wpQuiet_nil ?_
  rintro _ ⟨x, rfl⟩
  obtain ⟨W, hW⟩ := x
  simp only
  clear ne hp0 hp1 hp2 hp3 hl0 hl1 hl2 hl3 hl4 hl5
  obtain ⟨c0, c1, c2, c3, c4, c5⟩ := hW.l.c6
  obtain ⟨f0, f1, f2, f3, f4, f5⟩ := hW.l.f6
  obtain ⟨r0, r1, r2, r3, r4, r5⟩ := hW.r.c6
  obtain ⟨g0, g1, g2, g3, g4, g5⟩ := hW.r.f6
  have HB := hW.b
  have hz : w.heap.size + 1 + 1 < W.heap.size := hW.z
  have HW := Lib.hid hW
  clear hW
  go_wp2
  exact bodyPost_ret (results_cell_row (p := 4) (ty := 35) rfl _ _ (w.heap.size + 1 + 1) 35 #[.int .i64 kn, .int .i64 (s + 1), .int .i64 d, .int .i64 h, .int .i64 s, .int .i64 wo] (0, 0) _ rfl (Blk.set6 ((HW.out.setL _ _).setL _ _).r _ _ _ _ _ _) Try.underlying35 rfl infoL) rfl ⟨rfl, (by repeat (first | (with_reducible exact Below.refl _ _) | (with_reducible assumption) | ((with_reducible refine Below.setCell ?_ ?_ _); rotate_left; focus (first | (simp; done) | (simp; omega))) | ((with_reducible refine Below.alloc ?_ ?_ _); rotate_left; focus (first | exact Nat.le_refl _ | (simp; done) | (simp; omega))) | (with_reducible refine belowD ?_ _)))⟩
set_option maxHeartbeats 1600000 in
theorem isd_full (n a k m kn s d h wo : Int) (w : World) (hb : 1 ≤ a ∧ a ≤ 4 ∧ 1 ≤ m ∧ m ≤ 5 ∧ 0 ≤ kn ∧ kn ≤ 5) (h1 : ¬ s < min m (kn + a)) :
    Calls Try.prog 46 #[(.agg #[.int .i64 n, .int .i64 a, .int .i64 k, .int .i64 m]), (.agg #[.int .i64 kn, .int .i64 s, .int .i64 d, .int .i64 h, .int .i64 (-1), .int .i64 wo])] w fun e w' => e = .returned (.agg #[.int .i64 kn, .int .i64 s, .int .i64 d, .int .i64 h, .int .i64 (-1), .int .i64 wo]) ∧ Below w.heap.size w w' := by
  have ne := Wld.ne (S := (fun w' => Thr w w' #[.int .i64 n, .int .i64 a, .int .i64 k, .int .i64 m] #[.int .i64 kn, .int .i64 s, .int .i64 d, .int .i64 h, .int .i64 (-1), .int .i64 wo] #[.int .i64 0, .int .i64 0, .int .i64 0, .int .i64 0, .int .i64 0, .int .i64 0])) (Thr.new w _ _ _)
  have hp0 : ∀ x : Wld (fun w' => Thr w w' #[.int .i64 n, .int .i64 a, .int .i64 k, .int .i64 m] #[.int .i64 kn, .int .i64 s, .int .i64 d, .int .i64 h, .int .i64 (-1), .int .i64 wo] #[.int .i64 0, .int .i64 0, .int .i64 0, .int .i64 0, .int .i64 0, .int .i64 0]), x.v.cell? ⟨w.heap.size, 0, none⟩ = some (.int .i64 n) := fun x => x.h.p.cell 0
  have hp1 : ∀ x : Wld (fun w' => Thr w w' #[.int .i64 n, .int .i64 a, .int .i64 k, .int .i64 m] #[.int .i64 kn, .int .i64 s, .int .i64 d, .int .i64 h, .int .i64 (-1), .int .i64 wo] #[.int .i64 0, .int .i64 0, .int .i64 0, .int .i64 0, .int .i64 0, .int .i64 0]), x.v.cell? ⟨w.heap.size, 1, none⟩ = some (.int .i64 a) := fun x => x.h.p.cell 1
  have hp2 : ∀ x : Wld (fun w' => Thr w w' #[.int .i64 n, .int .i64 a, .int .i64 k, .int .i64 m] #[.int .i64 kn, .int .i64 s, .int .i64 d, .int .i64 h, .int .i64 (-1), .int .i64 wo] #[.int .i64 0, .int .i64 0, .int .i64 0, .int .i64 0, .int .i64 0, .int .i64 0]), x.v.cell? ⟨w.heap.size, 2, none⟩ = some (.int .i64 k) := fun x => x.h.p.cell 2
  have hp3 : ∀ x : Wld (fun w' => Thr w w' #[.int .i64 n, .int .i64 a, .int .i64 k, .int .i64 m] #[.int .i64 kn, .int .i64 s, .int .i64 d, .int .i64 h, .int .i64 (-1), .int .i64 wo] #[.int .i64 0, .int .i64 0, .int .i64 0, .int .i64 0, .int .i64 0, .int .i64 0]), x.v.cell? ⟨w.heap.size, 3, none⟩ = some (.int .i64 m) := fun x => x.h.p.cell 3
  have hl0 : ∀ x : Wld (fun w' => Thr w w' #[.int .i64 n, .int .i64 a, .int .i64 k, .int .i64 m] #[.int .i64 kn, .int .i64 s, .int .i64 d, .int .i64 h, .int .i64 (-1), .int .i64 wo] #[.int .i64 0, .int .i64 0, .int .i64 0, .int .i64 0, .int .i64 0, .int .i64 0]), x.v.cell? ⟨w.heap.size + 1, 0, none⟩ = some (.int .i64 kn) := fun x => x.h.l.cell 0
  have hl1 : ∀ x : Wld (fun w' => Thr w w' #[.int .i64 n, .int .i64 a, .int .i64 k, .int .i64 m] #[.int .i64 kn, .int .i64 s, .int .i64 d, .int .i64 h, .int .i64 (-1), .int .i64 wo] #[.int .i64 0, .int .i64 0, .int .i64 0, .int .i64 0, .int .i64 0, .int .i64 0]), x.v.cell? ⟨w.heap.size + 1, 1, none⟩ = some (.int .i64 s) := fun x => x.h.l.cell 1
  have hl2 : ∀ x : Wld (fun w' => Thr w w' #[.int .i64 n, .int .i64 a, .int .i64 k, .int .i64 m] #[.int .i64 kn, .int .i64 s, .int .i64 d, .int .i64 h, .int .i64 (-1), .int .i64 wo] #[.int .i64 0, .int .i64 0, .int .i64 0, .int .i64 0, .int .i64 0, .int .i64 0]), x.v.cell? ⟨w.heap.size + 1, 2, none⟩ = some (.int .i64 d) := fun x => x.h.l.cell 2
  have hl3 : ∀ x : Wld (fun w' => Thr w w' #[.int .i64 n, .int .i64 a, .int .i64 k, .int .i64 m] #[.int .i64 kn, .int .i64 s, .int .i64 d, .int .i64 h, .int .i64 (-1), .int .i64 wo] #[.int .i64 0, .int .i64 0, .int .i64 0, .int .i64 0, .int .i64 0, .int .i64 0]), x.v.cell? ⟨w.heap.size + 1, 3, none⟩ = some (.int .i64 h) := fun x => x.h.l.cell 3
  have hl4 : ∀ x : Wld (fun w' => Thr w w' #[.int .i64 n, .int .i64 a, .int .i64 k, .int .i64 m] #[.int .i64 kn, .int .i64 s, .int .i64 d, .int .i64 h, .int .i64 (-1), .int .i64 wo] #[.int .i64 0, .int .i64 0, .int .i64 0, .int .i64 0, .int .i64 0, .int .i64 0]), x.v.cell? ⟨w.heap.size + 1, 4, none⟩ = some (.int .i64 (-1)) := fun x => x.h.l.cell 4
  have hl5 : ∀ x : Wld (fun w' => Thr w w' #[.int .i64 n, .int .i64 a, .int .i64 k, .int .i64 m] #[.int .i64 kn, .int .i64 s, .int .i64 d, .int .i64 h, .int .i64 (-1), .int .i64 wo] #[.int .i64 0, .int .i64 0, .int .i64 0, .int .i64 0, .int .i64 0, .int .i64 0]), x.v.cell? ⟨w.heap.size + 1, 5, none⟩ = some (.int .i64 wo) := fun x => x.h.l.cell 5
  have HM := Lib.hid (fun W => below_alloc1 (ims_any n a k m kn W (by omega) (by omega) (by omega)))
  have h1' : decide (s < min m (kn + a)) = false := by simpa using h1
  clear hb h1
  go_enter Try.func46, Try.ntmps46
  go_wp2
  refine wp_region_heldq (fun w' => Thr w w' #[.int .i64 n, .int .i64 a, .int .i64 k, .int .i64 m] #[.int .i64 kn, .int .i64 s, .int .i64 d, .int .i64 h, .int .i64 (-1), .int .i64 wo] #[.int .i64 0, .int .i64 0, .int .i64 0, .int .i64 0, .int .i64 0, .int .i64 0]) (by kernel_rfl) (by kernel_rfl) (Thr.new w _ _ _).drew ?_
  repeat (go_big_quiet_step (with_reducible exact held_below (fun _ _ h hb => Thr.more h hb) (HM.out _)))
  refine wpQuiet_nil ?_
  rintro _ ⟨x, rfl⟩
  obtain ⟨W, hW⟩ := x
  simp only
  clear ne hp0 hp1 hp2 hp3 hl0 hl1 hl2 hl3 hl4 hl5
  obtain ⟨c0, c1, c2, c3, c4, c5⟩ := hW.l.c6
  obtain ⟨f0, f1, f2, f3, f4, f5⟩ := hW.l.f6
  obtain ⟨r0, r1, r2, r3, r4, r5⟩ := hW.r.c6
  obtain ⟨g0, g1, g2, g3, g4, g5⟩ := hW.r.f6
  have HB := hW.b
  have hz : w.heap.size + 1 + 1 < W.heap.size := hW.z
  have HW := Lib.hid hW
  clear hW
  go_wp2
  exact bodyPost_ret (results_cell_row (p := 4) (ty := 35) rfl _ _ (w.heap.size + 1 + 1) 35 #[.int .i64 kn, .int .i64 s, .int .i64 d, .int .i64 h, .int .i64 (-1), .int .i64 wo] (0, 0) _ rfl (Blk.set6 HW.out.r _ _ _ _ _ _) Try.underlying35 rfl infoL) rfl ⟨rfl, (by repeat (first | (with_reducible exact Below.refl _ _) | (with_reducible assumption) | ((with_reducible refine Below.setCell ?_ ?_ _); rotate_left; focus (first | (simp; done) | (simp; omega))) | ((with_reducible refine Below.alloc ?_ ?_ _); rotate_left; focus (first | exact Nat.le_refl _ | (simp; done) | (simp; omega))) | (with_reducible refine belowD ?_ _)))⟩
set_option maxHeartbeats 1600000 in
theorem isd_busy (n a k m kn s d h da wo : Int) (w : World) (h1 : ¬ da = -1) :
    Calls Try.prog 46 #[(.agg #[.int .i64 n, .int .i64 a, .int .i64 k, .int .i64 m]), (.agg #[.int .i64 kn, .int .i64 s, .int .i64 d, .int .i64 h, .int .i64 da, .int .i64 wo])] w fun e w' => e = .returned (.agg #[.int .i64 kn, .int .i64 s, .int .i64 d, .int .i64 h, .int .i64 da, .int .i64 wo]) ∧ Below w.heap.size w w' := by
  have ne := Wld.ne (S := (fun w' => Thr w w' #[.int .i64 n, .int .i64 a, .int .i64 k, .int .i64 m] #[.int .i64 kn, .int .i64 s, .int .i64 d, .int .i64 h, .int .i64 da, .int .i64 wo] #[.int .i64 0, .int .i64 0, .int .i64 0, .int .i64 0, .int .i64 0, .int .i64 0])) (Thr.new w _ _ _)
  have hp0 : ∀ x : Wld (fun w' => Thr w w' #[.int .i64 n, .int .i64 a, .int .i64 k, .int .i64 m] #[.int .i64 kn, .int .i64 s, .int .i64 d, .int .i64 h, .int .i64 da, .int .i64 wo] #[.int .i64 0, .int .i64 0, .int .i64 0, .int .i64 0, .int .i64 0, .int .i64 0]), x.v.cell? ⟨w.heap.size, 0, none⟩ = some (.int .i64 n) := fun x => x.h.p.cell 0
  have hp1 : ∀ x : Wld (fun w' => Thr w w' #[.int .i64 n, .int .i64 a, .int .i64 k, .int .i64 m] #[.int .i64 kn, .int .i64 s, .int .i64 d, .int .i64 h, .int .i64 da, .int .i64 wo] #[.int .i64 0, .int .i64 0, .int .i64 0, .int .i64 0, .int .i64 0, .int .i64 0]), x.v.cell? ⟨w.heap.size, 1, none⟩ = some (.int .i64 a) := fun x => x.h.p.cell 1
  have hp2 : ∀ x : Wld (fun w' => Thr w w' #[.int .i64 n, .int .i64 a, .int .i64 k, .int .i64 m] #[.int .i64 kn, .int .i64 s, .int .i64 d, .int .i64 h, .int .i64 da, .int .i64 wo] #[.int .i64 0, .int .i64 0, .int .i64 0, .int .i64 0, .int .i64 0, .int .i64 0]), x.v.cell? ⟨w.heap.size, 2, none⟩ = some (.int .i64 k) := fun x => x.h.p.cell 2
  have hp3 : ∀ x : Wld (fun w' => Thr w w' #[.int .i64 n, .int .i64 a, .int .i64 k, .int .i64 m] #[.int .i64 kn, .int .i64 s, .int .i64 d, .int .i64 h, .int .i64 da, .int .i64 wo] #[.int .i64 0, .int .i64 0, .int .i64 0, .int .i64 0, .int .i64 0, .int .i64 0]), x.v.cell? ⟨w.heap.size, 3, none⟩ = some (.int .i64 m) := fun x => x.h.p.cell 3
  have hl0 : ∀ x : Wld (fun w' => Thr w w' #[.int .i64 n, .int .i64 a, .int .i64 k, .int .i64 m] #[.int .i64 kn, .int .i64 s, .int .i64 d, .int .i64 h, .int .i64 da, .int .i64 wo] #[.int .i64 0, .int .i64 0, .int .i64 0, .int .i64 0, .int .i64 0, .int .i64 0]), x.v.cell? ⟨w.heap.size + 1, 0, none⟩ = some (.int .i64 kn) := fun x => x.h.l.cell 0
  have hl1 : ∀ x : Wld (fun w' => Thr w w' #[.int .i64 n, .int .i64 a, .int .i64 k, .int .i64 m] #[.int .i64 kn, .int .i64 s, .int .i64 d, .int .i64 h, .int .i64 da, .int .i64 wo] #[.int .i64 0, .int .i64 0, .int .i64 0, .int .i64 0, .int .i64 0, .int .i64 0]), x.v.cell? ⟨w.heap.size + 1, 1, none⟩ = some (.int .i64 s) := fun x => x.h.l.cell 1
  have hl2 : ∀ x : Wld (fun w' => Thr w w' #[.int .i64 n, .int .i64 a, .int .i64 k, .int .i64 m] #[.int .i64 kn, .int .i64 s, .int .i64 d, .int .i64 h, .int .i64 da, .int .i64 wo] #[.int .i64 0, .int .i64 0, .int .i64 0, .int .i64 0, .int .i64 0, .int .i64 0]), x.v.cell? ⟨w.heap.size + 1, 2, none⟩ = some (.int .i64 d) := fun x => x.h.l.cell 2
  have hl3 : ∀ x : Wld (fun w' => Thr w w' #[.int .i64 n, .int .i64 a, .int .i64 k, .int .i64 m] #[.int .i64 kn, .int .i64 s, .int .i64 d, .int .i64 h, .int .i64 da, .int .i64 wo] #[.int .i64 0, .int .i64 0, .int .i64 0, .int .i64 0, .int .i64 0, .int .i64 0]), x.v.cell? ⟨w.heap.size + 1, 3, none⟩ = some (.int .i64 h) := fun x => x.h.l.cell 3
  have hl4 : ∀ x : Wld (fun w' => Thr w w' #[.int .i64 n, .int .i64 a, .int .i64 k, .int .i64 m] #[.int .i64 kn, .int .i64 s, .int .i64 d, .int .i64 h, .int .i64 da, .int .i64 wo] #[.int .i64 0, .int .i64 0, .int .i64 0, .int .i64 0, .int .i64 0, .int .i64 0]), x.v.cell? ⟨w.heap.size + 1, 4, none⟩ = some (.int .i64 da) := fun x => x.h.l.cell 4
  have hl5 : ∀ x : Wld (fun w' => Thr w w' #[.int .i64 n, .int .i64 a, .int .i64 k, .int .i64 m] #[.int .i64 kn, .int .i64 s, .int .i64 d, .int .i64 h, .int .i64 da, .int .i64 wo] #[.int .i64 0, .int .i64 0, .int .i64 0, .int .i64 0, .int .i64 0, .int .i64 0]), x.v.cell? ⟨w.heap.size + 1, 5, none⟩ = some (.int .i64 wo) := fun x => x.h.l.cell 5
  have h1' : (da == -1) = false := by simpa using h1
  go_enter Try.func46, Try.ntmps46
  go_wp2
  refine wp_region_heldq (fun w' => Thr w w' #[.int .i64 n, .int .i64 a, .int .i64 k, .int .i64 m] #[.int .i64 kn, .int .i64 s, .int .i64 d, .int .i64 h, .int .i64 da, .int .i64 wo] #[.int .i64 0, .int .i64 0, .int .i64 0, .int .i64 0, .int .i64 0, .int .i64 0]) (by kernel_rfl) (by kernel_rfl) (Thr.new w _ _ _).drew ?_
  repeat (go_big_quiet_step (fail))
  refine wpQuiet_nil ?_
  rintro _ ⟨x, rfl⟩
  obtain ⟨W, hW⟩ := x
  simp only
  clear ne hp0 hp1 hp2 hp3 hl0 hl1 hl2 hl3 hl4 hl5
  obtain ⟨c0, c1, c2, c3, c4, c5⟩ := hW.l.c6
  obtain ⟨f0, f1, f2, f3, f4, f5⟩ := hW.l.f6
  obtain ⟨r0, r1, r2, r3, r4, r5⟩ := hW.r.c6
  obtain ⟨g0, g1, g2, g3, g4, g5⟩ := hW.r.f6
  have HB := hW.b
  have hz : w.heap.size + 1 + 1 < W.heap.size := hW.z
  have HW := Lib.hid hW
  clear hW
  go_wp2
  exact bodyPost_ret (results_cell_row (p := 4) (ty := 35) rfl _ _ (w.heap.size + 1 + 1) 35 #[.int .i64 kn, .int .i64 s, .int .i64 d, .int .i64 h, .int .i64 da, .int .i64 wo] (0, 0) _ rfl (Blk.set6 HW.out.r _ _ _ _ _ _) Try.underlying35 rfl infoL) rfl ⟨rfl, (by repeat (first | (with_reducible exact Below.refl _ _) | (with_reducible assumption) | ((with_reducible refine Below.setCell ?_ ?_ _); rotate_left; focus (first | (simp; done) | (simp; omega))) | ((with_reducible refine Below.alloc ?_ ?_ _); rotate_left; focus (first | exact Nat.le_refl _ | (simp; done) | (simp; omega))) | (with_reducible refine belowD ?_ _)))⟩

end Go.Proofs.Ytnbgfffcialfkaa

namespace Go.Proofs.Ytnbgfffcialfkaa
open Go.RowKit
set_option linter.unusedVariables false

/-- What the search keeps. -/
def Srch (n d da : Int) (K k : Nat) : Prop := findK n d da (K - k) k = findK n d da K 0
theorem Srch.miss {n d da : Int} {K k : Nat} (h : Srch n d da K k) (hk : k < K) (e : ¬ (d + k) % n = da % n) : Srch n d da K (k + 1) := by
  unfold Srch at *
  rw [← h, show K - k = (K - (k + 1)) + 1 from by omega, findK_miss e]
theorem Srch.hit {n d da : Int} {K k : Nat} (h : Srch n d da K k) (hk : k < K) (e : (d + k) % n = da % n) : findK n d da K 0 = some k := by
  unfold Srch at *
  rw [← h, show K - k = (K - (k + 1)) + 1 from by omega, findK_hit e]
theorem Srch.none_ {n d da : Int} {K k : Nat} (h : Srch n d da K k) (hk : ¬ k < K) : findK n d da K 0 = none := by
  unfold Srch at *
  rw [← h, show K - k = 0 from by omega]; rfl
/-- The value of a link. -/
def lv (l : Lk) : Value := .agg #[.int .i64 l.kn, .int .i64 l.s, .int .i64 l.d, .int .i64 l.h, .int .i64 l.da, .int .i64 l.wo]
theorem orb16 (h : Int) (k : Nat) (h0 : 0 ≤ h) (h1 : h < 16) (hk : k < 4) : 0 ≤ orb h k ∧ orb h k < 16 := by
  have := orb_ok h k 4 h0 (by simpa using h1) hk (by omega)
  simpa using this
theorem or_fin : ∀ (h : Fin 16) (k : Fin 4), bits .or .i64 ((h.val : Nat) : Int) (wrap64 (2 ^ k.val)) = orb ((h.val : Nat) : Int) k.val := by decide +kernel
theorem or_orb (h : Int) (k : Nat) (h0 : 0 ≤ h) (h1 : h < 16) (hk : k < 4) : bits .or .i64 h (wrap64 (2 ^ k)) = orb h k := by
  have := or_fin ⟨h.toNat, by omega⟩ ⟨k, hk⟩
  simpa [Int.toNat_of_nonneg h0] using this
def SrchJ (n kn wo : Int) (N j : Nat) : Prop := findJ n kn wo (N + 1 - j) j = findJ n kn wo N 1
theorem SrchJ.miss {n kn wo : Int} {N j : Nat} (h : SrchJ n kn wo N j) (hj : j ≤ N) (e : ¬ (kn + j) % n = wo % n) : SrchJ n kn wo N (j + 1) := by
  unfold SrchJ at *
  rw [← h, show N + 1 - j = (N + 1 - (j + 1)) + 1 from by omega, findJ_miss e]
theorem SrchJ.hit {n kn wo : Int} {N j : Nat} (h : SrchJ n kn wo N j) (hj : j ≤ N) (e : (kn + j) % n = wo % n) : findJ n kn wo N 1 = some j := by
  unfold SrchJ at *
  rw [← h, show N + 1 - j = (N + 1 - (j + 1)) + 1 from by omega, findJ_hit e]
theorem SrchJ.none_ {n kn wo : Int} {N j : Nat} (h : SrchJ n kn wo N j) (hj : ¬ j ≤ N) : findJ n kn wo N 1 = none := by
  unfold SrchJ at *
  rw [← h, show N + 1 - j = 0 from by omega]; rfl

set_option maxHeartbeats 3200000 in
theorem itk_any (n a m kn s d h da wo : Int) (K : Nat) (r : Lk × Bool) (hr : takeF ⟨n, a, K, m⟩ ⟨kn, s, d, h, da, wo⟩ = r) (w : World) (hn : 2 ≤ n ∧ n ≤ 4) (hK : K ≤ 4) (hd : 0 ≤ d ∧ d ≤ 5) (hh : 0 ≤ h ∧ h < 16) (hda : 0 ≤ da ∧ da ≤ 5) :
    Calls Try.prog 43 #[.agg #[.int .i64 n, .int .i64 a, .int .i64 (K : Int), .int .i64 m], .agg #[.int .i64 kn, .int .i64 s, .int .i64 d, .int .i64 h, .int .i64 da, .int .i64 wo]] w fun e w' => e = .returned (.tuple #[lv r.1, .bool r.2]) ∧ Below w.heap.size w w' := by
  have HSR := Lib.hid (fun W (k : Nat) (hk : k < K) => irs_any n a (K : Int) m (d + k) da W hn (by omega) (by omega))
  have hda' : (da == -1) = false := by simp; omega
  have HR := Lib.hid hr
  clear hr
  go_enter Try.func43, Try.ntmps43
  go_wp2
  go_loopg [16] K (fun g kv wr => ∃ k : Nat, k ≤ K ∧ g = K - k ∧ kv = .int .i64 k ∧ Srch n d da K k ∧ Thr w wr #[.int .i64 n, .int .i64 a, .int .i64 (K : Int), .int .i64 m] #[.int .i64 kn, .int .i64 s, .int .i64 d, .int .i64 h, .int .i64 (-1), .int .i64 wo] #[.int .i64 0, .int .i64 0, .int .i64 0, .int .i64 0, .int .i64 0, .int .i64 0])
  case atStart => exact ⟨0, Nat.zero_le _, rfl, rfl, rfl, Thr.new w _ _ _⟩
  case round =>
    obtain ⟨k, hk, hg, rfl, hs, hT⟩ := hrel
    have HS := Lib.hid hs
    have HT := Lib.hid hT
    have HG := Lib.hid hg
    obtain ⟨p0, p1, p2, p3⟩ := hT.p.c4
    obtain ⟨c0, c1, c2, c3, c4, c5⟩ := hT.l.c6
    obtain ⟨f0, f1, f2, f3, f4, f5⟩ := hT.l.f6
    obtain ⟨r0, r1, r2, r3, r4, r5⟩ := hT.r.c6
    obtain ⟨g0, g1, g2, g3, g4, g5⟩ := hT.r.f6
    have HB := hT.b
    have hz : w.heap.size + 1 + 1 < _ := hT.z
    clear hs hT hg
    by_cases hlt : k < K
    · by_cases e : (d + k) % n = da % n
      · have HC := Lib.hid (fun W => (show decide ((d + k) % n = da % n) = true by simpa using e) ▸ HSR.out W k hlt)
        have HF := Lib.hid (HS.out.hit hlt e)
        clear e
        go_wp2_with fail
        refine (HC.out _).mono ?_
        rintro e w1 ⟨rfl, q, hw1⟩
        have HT1 := Lib.hid (show Thr w w1 #[.int .i64 n, .int .i64 a, .int .i64 (K : Int), .int .i64 m] #[.int .i64 kn, .int .i64 s, .int .i64 d, .int .i64 h, .int .i64 (-1), .int .i64 wo] #[.int .i64 0, .int .i64 0, .int .i64 0, .int .i64 0, .int .i64 0, .int .i64 0] by rw [hw1]; exact (HT.out.alloc _).drewN q)
        clear HB hz p0 p1 p2 p3 c0 c1 c2 c3 c4 c5 f0 f1 f2 f3 f4 f5 r0 r1 r2 r3 r4 r5 g0 g1 g2 g3 g4 g5
        clear hw1
        obtain ⟨p0, p1, p2, p3⟩ := HT1.out.p.c4
        obtain ⟨c0, c1, c2, c3, c4, c5⟩ := HT1.out.l.c6
        obtain ⟨f0, f1, f2, f3, f4, f5⟩ := HT1.out.l.f6
        obtain ⟨r0, r1, r2, r3, r4, r5⟩ := HT1.out.r.c6
        obtain ⟨g0, g1, g2, g3, g4, g5⟩ := HT1.out.r.f6
        have HB := HT1.out.b
        have hz : w.heap.size + 1 + 1 < _ := HT1.out.z
        by_cases q : d + k = da
        · have q1 : (d + (k : Int) == da) = true := by simpa using q
          have q2 : (d + (k : Int) != da) = false := by simpa using q
          have HQ := Lib.hid q
          have HHO := Lib.hid (orb16 h k hh.1 hh.2 (by omega))
          have HOR := Lib.hid (or_orb h k hh.1 hh.2 (by omega))
          clear q
          go_wp2
          go_region
          rw [HOR.out]
          go_wp2
          go_loopg [] 5 (fun g wr => ∃ h' d' : Int, 0 ≤ h' ∧ h' < 2 ^ g ∧ h' ≤ 31 ∧ d ≤ d' ∧ d' + g ≤ d + 5 ∧ (strip g h' d' = strip 5 (orb h k) d) ∧ Thr w wr #[.int .i64 n, .int .i64 a, .int .i64 (K : Int), .int .i64 m] #[.int .i64 kn, .int .i64 s, .int .i64 d', .int .i64 h', .int .i64 (-1), .int .i64 wo] #[.int .i64 0, .int .i64 0, .int .i64 0, .int .i64 0, .int .i64 0, .int .i64 0])
          case atStart => exact ⟨_, d, HHO.out.1, by show _ < (32 : Int); have := HHO.out.2; omega, by have := HHO.out.2; omega, Int.le_refl _, by omega, rfl, ((HT1.out.setL 3 _).drew)⟩
          case round =>
            obtain ⟨h', d', a1, a2, a3, a4, a5, hst, hT⟩ := hrel
            have HST := Lib.hid hst
            have HT2 := Lib.hid hT
            have HP2 := Lib.hid a2
            obtain ⟨c0, c1, c2, c3, c4, c5⟩ := hT.l.c6
            obtain ⟨f0, f1, f2, f3, f4, f5⟩ := hT.l.f6
            obtain ⟨r0, r1, r2, r3, r4, r5⟩ := hT.r.c6
            obtain ⟨g0, g1, g2, g3, g4, g5⟩ := hT.r.f6
            have HB := hT.b
            have hz : w.heap.size + 1 + 1 < _ := hT.z
            clear hst hT a2
            rcases (show h' % 2 = 0 ∨ h' % 2 = 1 from by omega) with o | o
            · go_wp2
              have HE : takeF ⟨n, a, K, m⟩ ⟨kn, s, d, h, da, wo⟩ = (⟨kn, s, d', h', -1, d'⟩, true) := by
                (unfold takeF; simp only [Int.toNat_natCast]; rw [HF.out]; simp only [if_pos HQ.out])
                have := HST.out
                rw [strip_even o] at this
                simp only [took]
                rw [← this]
              exact bodyPost_ret (results_row_tmp (p := 4) (u := 5) (ty := 35) rfl _ _ (w.heap.size + 1 + 1) 35 #[.int .i64 kn, .int .i64 s, .int .i64 d', .int .i64 h', .int .i64 (-1), .int .i64 d'] (0, 0) _ rfl (Blk.set6 (HT2.out.setL _ _).r _ _ _ _ _ _) Try.underlying35 rfl infoL) rfl ⟨by rw [← HR.out, HE]; rfl, (by repeat (first | (with_reducible exact Below.refl _ _) | (with_reducible assumption) | ((with_reducible refine Below.setCell ?_ ?_ _); rotate_left; focus (first | (simp; done) | (simp; omega))) | ((with_reducible refine Below.alloc ?_ ?_ _); rotate_left; focus (first | exact Nat.le_refl _ | (simp; done) | (simp; omega))) | (with_reducible refine belowD ?_ _)))⟩
            · obtain ⟨g', hg'⟩ : ∃ g', gk = g' + 1 := by
                rcases gk with _ | g'
                · have := HP2.out; simp at this; omega
                · exact ⟨g', rfl⟩
              have HG := Lib.hid hg'
              clear hg'
              go_wp2
              go_roundg g'
              case measure => have := HG.out; omega
              case rel => exact ⟨h' / 2, d' + 1, by omega, by have h1 := HP2.out; rw [HG.out, Int.pow_succ] at h1; omega, by omega, by omega, by have := HG.out; omega, by have h1 := HST.out; rw [HG.out, strip_odd o] at h1; exact h1, ((HT2.out.setL 3 _).setL 2 _)⟩
        · have q1 : (d + (k : Int) != da) = true := by simpa using q
          have HE : takeF ⟨n, a, K, m⟩ ⟨kn, s, d, h, da, wo⟩ = (⟨kn, s, d, h, -1, wo⟩, false) := by
            unfold takeF
            simp only [Int.toNat_natCast]
            rw [HF.out]
            simp [q]
          have HE' := Lib.hid HE
          clear HE q
          go_wp2
          exact bodyPost_ret (results_row_tmp (p := 4) (u := 5) (ty := 35) rfl _ _ (w.heap.size + 1 + 1) 35 #[.int .i64 kn, .int .i64 s, .int .i64 d, .int .i64 h, .int .i64 (-1), .int .i64 wo] (0, 0) _ rfl (Blk.set6 HT1.out.r _ _ _ _ _ _) Try.underlying35 rfl infoL) rfl ⟨by rw [← HR.out, HE'.out]; rfl, (by repeat (first | (with_reducible exact Below.refl _ _) | (with_reducible assumption) | ((with_reducible refine Below.setCell ?_ ?_ _); rotate_left; focus (first | (simp; done) | (simp; omega))) | ((with_reducible refine Below.alloc ?_ ?_ _); rotate_left; focus (first | exact Nat.le_refl _ | (simp; done) | (simp; omega))) | (with_reducible refine belowD ?_ _)))⟩
      · have HC := Lib.hid (fun W => (show decide ((d + k) % n = da % n) = false by simpa using e) ▸ HSR.out W k hlt)
        have HF := Lib.hid (HS.out.miss hlt e)
        clear e
        go_wp2_with fail
        refine (HC.out _).mono ?_
        rintro e w1 ⟨rfl, q, hw1⟩
        have HT1 := Lib.hid (show Thr w w1 #[.int .i64 n, .int .i64 a, .int .i64 (K : Int), .int .i64 m] #[.int .i64 kn, .int .i64 s, .int .i64 d, .int .i64 h, .int .i64 (-1), .int .i64 wo] #[.int .i64 0, .int .i64 0, .int .i64 0, .int .i64 0, .int .i64 0, .int .i64 0] by rw [hw1]; exact (HT.out.alloc _).drewN q)
        clear hw1
        go_wp2
        go_roundg (K - (k + 1))
        case measure => have := HG.out; omega
        case rel => exact ⟨k + 1, by omega, rfl, by go_num, HF.out, HT1.out⟩
    · have HN := Lib.hid (HS.out.none_ hlt)
      go_wp2
      go_loopg [] 5 (fun g wr => ∃ h' d' : Int, 0 ≤ h' ∧ h' < 2 ^ g ∧ h' ≤ 31 ∧ d ≤ d' ∧ d' + g ≤ d + 5 ∧ (strip g h' d' = strip 5 (h) d) ∧ Thr w wr #[.int .i64 n, .int .i64 a, .int .i64 (K : Int), .int .i64 m] #[.int .i64 kn, .int .i64 s, .int .i64 d', .int .i64 h', .int .i64 (-1), .int .i64 wo] #[.int .i64 0, .int .i64 0, .int .i64 0, .int .i64 0, .int .i64 0, .int .i64 0])
      case atStart => exact ⟨_, d, hh.1, by show _ < (32 : Int); have := hh.2; omega, by have := hh.2; omega, Int.le_refl _, by omega, rfl, HT.out⟩
      case round =>
        obtain ⟨h', d', a1, a2, a3, a4, a5, hst, hT⟩ := hrel
        have HST := Lib.hid hst
        have HT2 := Lib.hid hT
        have HP2 := Lib.hid a2
        obtain ⟨c0, c1, c2, c3, c4, c5⟩ := hT.l.c6
        obtain ⟨f0, f1, f2, f3, f4, f5⟩ := hT.l.f6
        obtain ⟨r0, r1, r2, r3, r4, r5⟩ := hT.r.c6
        obtain ⟨g0, g1, g2, g3, g4, g5⟩ := hT.r.f6
        have HB := hT.b
        have hz : w.heap.size + 1 + 1 < _ := hT.z
        clear hst hT a2
        rcases (show h' % 2 = 0 ∨ h' % 2 = 1 from by omega) with o | o
        · go_wp2
          have HE : takeF ⟨n, a, K, m⟩ ⟨kn, s, d, h, da, wo⟩ = (⟨kn, s, d', h', -1, d'⟩, true) := by
            (unfold takeF; simp only [Int.toNat_natCast]; rw [HN.out])
            have := HST.out
            rw [strip_even o] at this
            simp only [took]
            rw [← this]
          exact bodyPost_ret (results_row_tmp (p := 4) (u := 5) (ty := 35) rfl _ _ (w.heap.size + 1 + 1) 35 #[.int .i64 kn, .int .i64 s, .int .i64 d', .int .i64 h', .int .i64 (-1), .int .i64 d'] (0, 0) _ rfl (Blk.set6 (HT2.out.setL _ _).r _ _ _ _ _ _) Try.underlying35 rfl infoL) rfl ⟨by rw [← HR.out, HE]; rfl, (by repeat (first | (with_reducible exact Below.refl _ _) | (with_reducible assumption) | ((with_reducible refine Below.setCell ?_ ?_ _); rotate_left; focus (first | (simp; done) | (simp; omega))) | ((with_reducible refine Below.alloc ?_ ?_ _); rotate_left; focus (first | exact Nat.le_refl _ | (simp; done) | (simp; omega))) | (with_reducible refine belowD ?_ _)))⟩
        · obtain ⟨g', hg'⟩ : ∃ g', gk = g' + 1 := by
            rcases gk with _ | g'
            · have := HP2.out; simp at this; omega
            · exact ⟨g', rfl⟩
          have HG := Lib.hid hg'
          clear hg'
          go_wp2
          go_roundg g'
          case measure => have := HG.out; omega
          case rel => exact ⟨h' / 2, d' + 1, by omega, by have h1 := HP2.out; rw [HG.out, Int.pow_succ] at h1; omega, by omega, by omega, by have := HG.out; omega, by have h1 := HST.out; rw [HG.out, strip_odd o] at h1; exact h1, ((HT2.out.setL 3 _).setL 2 _)⟩

set_option maxHeartbeats 3200000 in
theorem iln_any (n a k m kn s d h da wo : Int) (r : Lk) (hr : hearF ⟨n, a, k, m⟩ ⟨kn, s, d, h, da, wo⟩ = r) (w : World) (hn : 2 ≤ n ∧ n ≤ 4) (hk : 0 ≤ kn ∧ kn ≤ s ∧ s ≤ 5) (hwo : 0 ≤ wo ∧ wo ≤ 5) :
    Calls Try.prog 47 #[.agg #[.int .i64 n, .int .i64 a, .int .i64 k, .int .i64 m], .agg #[.int .i64 kn, .int .i64 s, .int .i64 d, .int .i64 h, .int .i64 da, .int .i64 wo]] w fun e w' => e = .returned (lv r) ∧ Below w.heap.size w w' := by
  obtain ⟨N, hN, hN5⟩ : ∃ N : Nat, s = kn + N ∧ N ≤ 5 := ⟨(s - kn).toNat, by omega, by omega⟩
  have hNs : (s - kn).toNat = N := by omega
  have HSR := Lib.hid (fun W (j : Nat) (hj : j ≤ N) => irs_any n a k m (kn + j) wo W hn (by omega) (by omega))
  have hwo' : (wo == -1) = false := by simp; omega
  have HR := Lib.hid hr
  have HN := Lib.hid hNs
  have hNle : kn + (N : Int) ≤ s := by omega
  have hNge : s ≤ kn + (N : Int) := by omega
  clear hr hNs hN
  go_enter Try.func47, Try.ntmps47
  go_wp2
  go_loopg [6] N (fun g kv wr => ∃ j : Nat, 1 ≤ j ∧ j ≤ N + 1 ∧ g = N + 1 - j ∧ kv = .int .i64 (kn + j) ∧ SrchJ n kn wo N j ∧ Thr w wr #[.int .i64 n, .int .i64 a, .int .i64 k, .int .i64 m] #[.int .i64 kn, .int .i64 s, .int .i64 d, .int .i64 h, .int .i64 da, .int .i64 (-1)] #[.int .i64 0, .int .i64 0, .int .i64 0, .int .i64 0, .int .i64 0, .int .i64 0])
  case atStart => exact ⟨1, by omega, by omega, by omega, rfl, rfl, Thr.new w _ _ _⟩
  case round =>
    obtain ⟨j, hj1, hj, hg, rfl, hs, hT⟩ := hrel
    have HS := Lib.hid hs
    have HT := Lib.hid hT
    have HG := Lib.hid hg
    obtain ⟨p0, p1, p2, p3⟩ := hT.p.c4
    obtain ⟨c0, c1, c2, c3, c4, c5⟩ := hT.l.c6
    obtain ⟨f0, f1, f2, f3, f4, f5⟩ := hT.l.f6
    obtain ⟨r0, r1, r2, r3, r4, r5⟩ := hT.r.c6
    obtain ⟨g0, g1, g2, g3, g4, g5⟩ := hT.r.f6
    have HB := hT.b
    have hz : w.heap.size + 1 + 1 < _ := hT.z
    clear hs hT hg
    by_cases hlt : j ≤ N
    · have hle : kn + (j : Int) ≤ s := by omega
      by_cases e : (kn + j) % n = wo % n
      · have HC := Lib.hid (fun W => (show decide ((kn + j) % n = wo % n) = true by simpa using e) ▸ HSR.out W j hlt)
        have HE := Lib.hid (show hearF ⟨n, a, k, m⟩ ⟨kn, s, d, h, da, wo⟩ = ⟨kn + j, s, d, h, da, -1⟩ by unfold hearF; simp only [HN.out]; rw [HS.out.hit hlt e])
        clear e
        go_wp2_with fail
        refine (HC.out _).mono ?_
        rintro e w1 ⟨rfl, q, hw1⟩
        have HT1 := Lib.hid (show Thr w w1 #[.int .i64 n, .int .i64 a, .int .i64 k, .int .i64 m] #[.int .i64 kn, .int .i64 s, .int .i64 d, .int .i64 h, .int .i64 da, .int .i64 (-1)] #[.int .i64 0, .int .i64 0, .int .i64 0, .int .i64 0, .int .i64 0, .int .i64 0] by rw [hw1]; exact (HT.out.alloc _).drewN q)
        clear HB hz p0 p1 p2 p3 c0 c1 c2 c3 c4 c5 f0 f1 f2 f3 f4 f5 r0 r1 r2 r3 r4 r5 g0 g1 g2 g3 g4 g5
        clear hw1
        obtain ⟨p0, p1, p2, p3⟩ := HT1.out.p.c4
        obtain ⟨c0, c1, c2, c3, c4, c5⟩ := HT1.out.l.c6
        obtain ⟨f0, f1, f2, f3, f4, f5⟩ := HT1.out.l.f6
        obtain ⟨r0, r1, r2, r3, r4, r5⟩ := HT1.out.r.c6
        obtain ⟨g0, g1, g2, g3, g4, g5⟩ := HT1.out.r.f6
        have HB := HT1.out.b
        have hz : w.heap.size + 1 + 1 < _ := HT1.out.z
        go_wp2
        exact bodyPost_ret (results_cell_row (p := 4) (ty := 35) rfl _ _ (w.heap.size + 1 + 1) 35 #[.int .i64 (kn + (j : Int)), .int .i64 s, .int .i64 d, .int .i64 h, .int .i64 da, .int .i64 (-1)] (0, 0) _ rfl (Blk.set6 (HT1.out.setL _ _).r _ _ _ _ _ _) Try.underlying35 rfl infoL) rfl ⟨by rw [← HR.out, HE.out]; rfl, (by repeat (first | (with_reducible exact Below.refl _ _) | (with_reducible assumption) | ((with_reducible refine Below.setCell ?_ ?_ _); rotate_left; focus (first | (simp; done) | (simp; omega))) | ((with_reducible refine Below.alloc ?_ ?_ _); rotate_left; focus (first | exact Nat.le_refl _ | (simp; done) | (simp; omega))) | (with_reducible refine belowD ?_ _)))⟩
      · have HC := Lib.hid (fun W => (show decide ((kn + j) % n = wo % n) = false by simpa using e) ▸ HSR.out W j hlt)
        have HF := Lib.hid (HS.out.miss hlt e)
        clear e
        go_wp2_with fail
        refine (HC.out _).mono ?_
        rintro e w1 ⟨rfl, q, hw1⟩
        have HT1 := Lib.hid (show Thr w w1 #[.int .i64 n, .int .i64 a, .int .i64 k, .int .i64 m] #[.int .i64 kn, .int .i64 s, .int .i64 d, .int .i64 h, .int .i64 da, .int .i64 (-1)] #[.int .i64 0, .int .i64 0, .int .i64 0, .int .i64 0, .int .i64 0, .int .i64 0] by rw [hw1]; exact (HT.out.alloc _).drewN q)
        clear hw1
        go_wp2
        go_roundg (N + 1 - (j + 1))
        case measure => have := HG.out; omega
        case rel => exact ⟨j + 1, by omega, by omega, rfl, by rw [show kn + ((j + 1 : Nat) : Int) = kn + j + 1 from by omega], HF.out, HT1.out⟩
    · have hle : ¬ kn + (j : Int) ≤ s := by omega
      have HE := Lib.hid (show hearF ⟨n, a, k, m⟩ ⟨kn, s, d, h, da, wo⟩ = ⟨kn, s, d, h, da, -1⟩ by unfold hearF; simp only [HN.out]; rw [HS.out.none_ hlt])
      go_wp2
      exact bodyPost_ret (results_cell_row (p := 4) (ty := 35) rfl _ _ (w.heap.size + 1 + 1) 35 #[.int .i64 kn, .int .i64 s, .int .i64 d, .int .i64 h, .int .i64 da, .int .i64 (-1)] (0, 0) _ rfl (Blk.set6 HT.out.r _ _ _ _ _ _) Try.underlying35 rfl infoL) rfl ⟨by rw [← HR.out, HE.out]; rfl, (by repeat (first | (with_reducible exact Below.refl _ _) | (with_reducible assumption) | ((with_reducible refine Below.setCell ?_ ?_ _); rotate_left; focus (first | (simp; done) | (simp; omega))) | ((with_reducible refine Below.alloc ?_ ?_ _); rotate_left; focus (first | exact Nat.le_refl _ | (simp; done) | (simp; omega))) | (with_reducible refine belowD ?_ _)))⟩
end Go.Proofs.Ytnbgfffcialfkaa
