/-
  The walks of the program's functions that change links: send, take, learn. Conditions: the bounds that are typed.
-/
import Derived.Test.YtpjefjomihnbhaaWvl
import Derived.Deep.LoopGhost
namespace Go.Proofs.Ytpjefjomihnbhaa
open Go.RowKit
set_option linter.unusedVariables false

/-- A plan and two links lie in the first three blocks behind w. -/
structure Thr (w w' : World) (xs ys zs : Array Value) : Prop where
  p : Blk w' w.heap.size 24 xs
  l : Blk w' (w.heap.size + 1) 26 ys
  r : Blk w' (w.heap.size + 1 + 1) 26 zs
  b : Below w.heap.size w w'
  z : w.heap.size + 3 ≤ w'.heap.size
theorem Thr.new (w : World) (xs ys zs : Array Value) : Thr w (((w.alloc (.cells xs 24)).alloc (.cells ys 26)).alloc (.cells zs 26)) xs ys zs := by
  refine ⟨((Blk.new w _ xs).alloc _).alloc _, ?_, ?_, (((Below.refl _ _).alloc (Nat.le_refl _) _).alloc (by simp) _).alloc (by simp; omega) _, by simp⟩
  · have := (Blk.new (w.alloc (.cells xs 24)) 26 ys).alloc (.cells zs 26); simpa using this
  · have := Blk.new ((w.alloc (.cells xs 24)).alloc (.cells ys 26)) 26 zs; simpa using this
theorem Thr.more {w w1 w2 : World} {xs ys zs : Array Value} (h : Thr w w1 xs ys zs) (hb : Below w1.heap.size w1 w2) : Thr w w2 xs ys zs :=
  ⟨h.p.below hb (by have := h.z; omega), h.l.below hb (by have := h.z; omega), h.r.below hb (by have := h.z; omega), h.b.trans (hb.mono (by have := h.z; omega)), Nat.le_trans h.z hb.size⟩
theorem Thr.drewN {w w1 : World} {xs ys zs : Array Value} (h : Thr w w1 xs ys zs) (q : Nat) : Thr w (w1.drewN q) xs ys zs := ⟨h.p, h.l, h.r, belowD h.b q, h.z⟩
theorem Thr.drew {w w1 : World} {xs ys zs : Array Value} (h : Thr w w1 xs ys zs) : Thr w w1.drew xs ys zs := h.drewN 1
theorem Thr.alloc {w w1 : World} {xs ys zs : Array Value} (h : Thr w w1 xs ys zs) (o : Obj) : Thr w (w1.alloc o) xs ys zs := h.more ((Below.refl _ _).alloc (Nat.le_refl _) _)
theorem Thr.setL {w w1 : World} {xs ys zs : Array Value} (h : Thr w w1 xs ys zs) (i : Nat) (u : Value) : Thr w (w1.setCell ⟨w.heap.size + 1, i, none⟩ u) xs (ys.setIfInBounds i u) zs :=
  ⟨h.p.far (p := ⟨w.heap.size + 1, i, none⟩) (by simp) u, h.l.set_ i u, h.r.far (p := ⟨w.heap.size + 1, i, none⟩) (by simp) u, h.b.setCell (by simp) _, by simpa using h.z⟩

theorem infoL : (Try.prog.info? 26).map (·.size) = some 6 := by kernel_rfl
set_option maxHeartbeats 1600000 in
theorem isd_yes (n a k m kn s d h wo : Int) (w : World) (hb : 1 ≤ a ∧ a ≤ 4 ∧ 1 ≤ m ∧ m ≤ 5 ∧ 0 ≤ kn ∧ kn ≤ 5) (h1 : s < min m (kn + a)) (h2 : 0 ≤ s) :
    Calls Try.prog 25 #[(.agg #[.int .i64 n, .int .i64 a, .int .i64 k, .int .i64 m]), (.agg #[.int .i64 kn, .int .i64 s, .int .i64 d, .int .i64 h, .int .i64 (-1), .int .i64 wo])] w fun e w' => e = .returned (.agg #[.int .i64 kn, .int .i64 (s + 1), .int .i64 d, .int .i64 h, .int .i64 s, .int .i64 wo]) ∧ Below w.heap.size w w' := by
  have ne := Wld.ne (S := (fun w' => Thr w w' #[.int .i64 n, .int .i64 a, .int .i64 k, .int .i64 m] #[.int .i64 kn, .int .i64 s, .int .i64 d, .int .i64 h, .int .i64 (-1), .int .i64 wo] #[.int .i64 0, .int .i64 0, .int .i64 0, .int .i64 0, .int .i64 0, .int .i64 0])) (Thr.new w _ _ _)
  have hp0 : ∀ x : Wld (fun w' => Thr w w' #[.int .i64 n, .int .i64 a, .int .i64 k, .int .i64 m] #[.int .i64 kn, .int .i64 s, .int .i64 d, .int .i64 h, .int .i64 (-1), .int .i64 wo] #[.int .i64 0, .int .i64 0, .int .i64 0, .int .i64 0, .int .i64 0, .int .i64 0]), x.v.cell? ⟨w.heap.size, 0, none⟩ = some (.int .i64 n) := fun x => x.h.p.cell 0
  have hp1 : ∀ x : Wld (fun w' => Thr w w' #[.int .i64 n, .int .i64 a, .int .i64 k, .int .i64 m] #[.int .i64 kn, .int .i64 s, .int .i64 d, .int .i64 h, .int .i64 (-1), .int .i64 wo] #[.int .i64 0, .int .i64 0, .int .i64 0, .int .i64 0, .int .i64 0, .int .i64 0]), x.v.cell? ⟨w.heap.size, 1, none⟩ = some (.int .i64 a) := fun x => x.h.p.cell 1
  have hp2 : ∀ x : Wld (fun w' => Thr w w' #[.int .i64 n, .int .i64 a, .int .i64 k, .int .i64 m] #[.int .i64 kn, .int .i64 s, .int .i64 d, .int .i64 h, .int .i64 (-1), .int .i64 wo] #[.int .i64 0, .int .i64 0, .int .i64 0, .int .i64 0, .int .i64 0, .int .i64 0]), x.v.cell? ⟨w.heap.size, 2, none⟩ = some (.int .i64 k) := fun x => x.h.p.cell 2
  have hp3 : ∀ x : Wld (fun w' => Thr w w' #[.int .i64 n, .int .i64 a, .int .i64 k, .int .i64 m] #[.int .i64 kn, .int .i64 s, .int .i64 d, .int .i64 h, .int .i64 (-1), .int .i64 wo] #[.int .i64 0, .int .i64 0, .int .i64 0, .int .i64 0, .int .i64 0, .int .i64 0]), x.v.cell? ⟨w.heap.size, 3, none⟩ = some (.int .i64 m) := fun x => x.h.p.cell 3
  have hl0 : ∀ x : Wld (fun w' => Thr w w' #[.int .i64 n, .int .i64 a, .int .i64 k, .int .i64 m] #[.int .i64 kn, .int .i64 s, .int .i64 d, .int .i64 h, .int .i64 (-1), .int .i64 wo] #[.int .i64 0, .int .i64 0, .int .i64 0, .int .i64 0, .int .i64 0, .int .i64 0]), x.v.cell? ⟨w.heap.size + 1, 0, none⟩ = some (.int .i64 kn) := fun x => x.h.l.cell 0
  have hl1 : ∀ x : Wld (fun w' => Thr w w' #[.int .i64 n, .int .i64 a, .int .i64 k, .int .i64 m] #[.int .i64 kn, .int .i64 s, .int .i64 d, .int .i64 h, .int .i64 (-1), .int .i64 wo] #[.int .i64 0, .int .i64 0, .int .i64 0, .int .i64 0, .int .i64 0, .int .i64 0]), x.v.cell? ⟨w.heap.size + 1, 1, none⟩ = some (.int .i64 s) := fun x => x.h.l.cell 1
  have hl2 : ∀ x : Wld (fun w' => Thr w w' #[.int .i64 n, .int .i64 a, .int .i64 k, .int .i64 m] #[.int .i64 kn, .int .i64 s, .int .i64 d, .int .i64 h, .int .i64 (-1), .int .i64 wo] #[.int .i64 0, .int .i64 0, .int .i64 0, .int .i64 0, .int .i64 0, .int .i64 0]), x.v.cell? ⟨w.heap.size + 1, 2, none⟩ = some (.int .i64 d) := fun x => x.h.l.cell 2
  have hl3 : ∀ x : Wld (fun w' => Thr w w' #[.int .i64 n, .int .i64 a, .int .i64 k, .int .i64 m] #[.int .i64 kn, .int .i64 s, .int .i64 d, .int .i64 h, .int .i64 (-1), .int .i64 wo] #[.int .i64 0, .int .i64 0, .int .i64 0, .int .i64 0, .int .i64 0, .int .i64 0]), x.v.cell? ⟨w.heap.size + 1, 3, none⟩ = some (.int .i64 h) := fun x => x.h.l.cell 3
  have hl4 : ∀ x : Wld (fun w' => Thr w w' #[.int .i64 n, .int .i64 a, .int .i64 k, .int .i64 m] #[.int .i64 kn, .int .i64 s, .int .i64 d, .int .i64 h, .int .i64 (-1), .int .i64 wo] #[.int .i64 0, .int .i64 0, .int .i64 0, .int .i64 0, .int .i64 0, .int .i64 0]), x.v.cell? ⟨w.heap.size + 1, 4, none⟩ = some (.int .i64 (-1)) := fun x => x.h.l.cell 4
  have hl5 : ∀ x : Wld (fun w' => Thr w w' #[.int .i64 n, .int .i64 a, .int .i64 k, .int .i64 m] #[.int .i64 kn, .int .i64 s, .int .i64 d, .int .i64 h, .int .i64 (-1), .int .i64 wo] #[.int .i64 0, .int .i64 0, .int .i64 0, .int .i64 0, .int .i64 0, .int .i64 0]), x.v.cell? ⟨w.heap.size + 1, 5, none⟩ = some (.int .i64 wo) := fun x => x.h.l.cell 5
  have HM := Lib.hid (fun W => below_alloc1 (ims_any n a k m kn W (by omega) (by omega) (by omega)))
  have h1' : decide (s < min m (kn + a)) = true := by simpa using h1
  have h5 : s < 5 := by omega
  clear hb h1
  go_enter Try.func25, Try.ntmps25
  go_wp2
  refine wp_region_heldq (fun w' => Thr w w' #[.int .i64 n, .int .i64 a, .int .i64 k, .int .i64 m] #[.int .i64 kn, .int .i64 s, .int .i64 d, .int .i64 h, .int .i64 (-1), .int .i64 wo] #[.int .i64 0, .int .i64 0, .int .i64 0, .int .i64 0, .int .i64 0, .int .i64 0]) (by kernel_rfl) (by kernel_rfl) (Thr.new w _ _ _).drew ?_
  repeat (go_big_quiet_step (with_reducible exact held_below (fun _ _ h hb => Thr.more h hb) (HM.out _)))
  refine wpQuiet_nil ?_
  rintro _ ⟨x, rfl⟩
  obtain ⟨W, hW⟩ := x
  simp only
  clear ne hp0 hp1 hp2 hp3 hl0 hl1 hl2 hl3 hl4 hl5
  obtain ⟨c0, c1, c2, c3, c4, c5⟩ := hW.l.c6
  obtain ⟨f0, f1, f2, f3, f4, f5⟩ := hW.l.f6
  obtain ⟨r0, r1, r2, r3, r4, r5⟩ := hW.r.c6
  obtain ⟨g0, g1, g2, g3, g4, g5⟩ := hW.r.f6
  have HB := hW.b
  have hz : w.heap.size + 1 + 1 < W.heap.size := hW.z
  have HW := Lib.hid hW
  clear hW
  go_wp2
  exact bodyPost_ret (results_cell_row (p := 4) (ty := 26) rfl _ _ (w.heap.size + 1 + 1) 26 #[.int .i64 kn, .int .i64 (s + 1), .int .i64 d, .int .i64 h, .int .i64 s, .int .i64 wo] (0, 0) _ rfl (Blk.set6 ((HW.out.setL _ _).setL _ _).r _ _ _ _ _ _) Try.underlying26 rfl infoL) rfl ⟨rfl, (by repeat (first | (with_reducible exact Below.refl _ _) | (with_reducible assumption) | ((with_reducible refine Below.setCell ?_ ?_ _); rotate_left; focus (first | (simp; done) | (simp; omega))) | ((with_reducible refine Below.alloc ?_ ?_ _); rotate_left; focus (first | exact Nat.le_refl _ | (simp; done) | (simp; omega))) | (with_reducible refine belowD ?_ _)))⟩
set_option maxHeartbeats 1600000 in
theorem isd_full (n a k m kn s d h wo : Int) (w : World) (hb : 1 ≤ a ∧ a ≤ 4 ∧ 1 ≤ m ∧ m ≤ 5 ∧ 0 ≤ kn ∧ kn ≤ 5) (h1 : ¬ s < min m (kn + a)) :
    Calls Try.prog 25 #[(.agg #[.int .i64 n, .int .i64 a, .int .i64 k, .int .i64 m]), (.agg #[.int .i64 kn, .int .i64 s, .int .i64 d, .int .i64 h, .int .i64 (-1), .int .i64 wo])] w fun e w' => e = .returned (.agg #[.int .i64 kn, .int .i64 s, .int .i64 d, .int .i64 h, .int .i64 (-1), .int .i64 wo]) ∧ Below w.heap.size w w' := by
  have ne := Wld.ne (S := (fun w' => Thr w w' #[.int .i64 n, .int .i64 a, .int .i64 k, .int .i64 m] #[.int .i64 kn, .int .i64 s, .int .i64 d, .int .i64 h, .int .i64 (-1), .int .i64 wo] #[.int .i64 0, .int .i64 0, .int .i64 0, .int .i64 0, .int .i64 0, .int .i64 0])) (Thr.new w _ _ _)
  have hp0 : ∀ x : Wld (fun w' => Thr w w' #[.int .i64 n, .int .i64 a, .int .i64 k, .int .i64 m] #[.int .i64 kn, .int .i64 s, .int .i64 d, .int .i64 h, .int .i64 (-1), .int .i64 wo] #[.int .i64 0, .int .i64 0, .int .i64 0, .int .i64 0, .int .i64 0, .int .i64 0]), x.v.cell? ⟨w.heap.size, 0, none⟩ = some (.int .i64 n) := fun x => x.h.p.cell 0
  have hp1 : ∀ x : Wld (fun w' => Thr w w' #[.int .i64 n, .int .i64 a, .int .i64 k, .int .i64 m] #[.int .i64 kn, .int .i64 s, .int .i64 d, .int .i64 h, .int .i64 (-1), .int .i64 wo] #[.int .i64 0, .int .i64 0, .int .i64 0, .int .i64 0, .int .i64 0, .int .i64 0]), x.v.cell? ⟨w.heap.size, 1, none⟩ = some (.int .i64 a) := fun x => x.h.p.cell 1
  have hp2 : ∀ x : Wld (fun w' => Thr w w' #[.int .i64 n, .int .i64 a, .int .i64 k, .int .i64 m] #[.int .i64 kn, .int .i64 s, .int .i64 d, .int .i64 h, .int .i64 (-1), .int .i64 wo] #[.int .i64 0, .int .i64 0, .int .i64 0, .int .i64 0, .int .i64 0, .int .i64 0]), x.v.cell? ⟨w.heap.size, 2, none⟩ = some (.int .i64 k) := fun x => x.h.p.cell 2
  have hp3 : ∀ x : Wld (fun w' => Thr w w' #[.int .i64 n, .int .i64 a, .int .i64 k, .int .i64 m] #[.int .i64 kn, .int .i64 s, .int .i64 d, .int .i64 h, .int .i64 (-1), .int .i64 wo] #[.int .i64 0, .int .i64 0, .int .i64 0, .int .i64 0, .int .i64 0, .int .i64 0]), x.v.cell? ⟨w.heap.size, 3, none⟩ = some (.int .i64 m) := fun x => x.h.p.cell 3
  have hl0 : ∀ x : Wld (fun w' => Thr w w' #[.int .i64 n, .int .i64 a, .int .i64 k, .int .i64 m] #[.int .i64 kn, .int .i64 s, .int .i64 d, .int .i64 h, .int .i64 (-1), .int .i64 wo] #[.int .i64 0, .int .i64 0, .int .i64 0, .int .i64 0, .int .i64 0, .int .i64 0]), x.v.cell? ⟨w.heap.size + 1, 0, none⟩ = some (.int .i64 kn) := fun x => x.h.l.cell 0
  have hl1 : ∀ x : Wld (fun w' => Thr w w' #[.int .i64 n, .int .i64 a, .int .i64 k, .int .i64 m] #[.int .i64 kn, .int .i64 s, .int .i64 d, .int .i64 h, .int .i64 (-1), .int .i64 wo] #[.int .i64 0, .int .i64 0, .int .i64 0, .int .i64 0, .int .i64 0, .int .i64 0]), x.v.cell? ⟨w.heap.size + 1, 1, none⟩ = some (.int .i64 s) := fun x => x.h.l.cell 1
  have hl2 : ∀ x : Wld (fun w' => Thr w w' #[.int .i64 n, .int .i64 a, .int .i64 k, .int .i64 m] #[.int .i64 kn, .int .i64 s, .int .i64 d, .int .i64 h, .int .i64 (-1), .int .i64 wo] #[.int .i64 0, .int .i64 0, .int .i64 0, .int .i64 0, .int .i64 0, .int .i64 0]), x.v.cell? ⟨w.heap.size + 1, 2, none⟩ = some (.int .i64 d) := fun x => x.h.l.cell 2
  have hl3 : ∀ x : Wld (fun w' => Thr w w' #[.int .i64 n, .int .i64 a, .int .i64 k, .int .i64 m] #[.int .i64 kn, .int .i64 s, .int .i64 d, .int .i64 h, .int .i64 (-1), .int .i64 wo] #[.int .i64 0, .int .i64 0, .int .i64 0, .int .i64 0, .int .i64 0, .int .i64 0]), x.v.cell? ⟨w.heap.size + 1, 3, none⟩ = some (.int .i64 h) := fun x => x.h.l.cell 3
  have hl4 : ∀ x : Wld (fun w' => Thr w w' #[.int .i64 n, .int .i64 a, .int .i64 k, .int .i64 m] #[.int .i64 kn, .int .i64 s, .int .i64 d, .int .i64 h, .int .i64 (-1), .int .i64 wo] #[.int .i64 0, .int .i64 0, .int .i64 0, .int .i64 0, .int .i64 0, .int .i64 0]), x.v.cell? ⟨w.heap.size + 1, 4, none⟩ = some (.int .i64 (-1)) := fun x => x.h.l.cell 4
  have hl5 : ∀ x : Wld (fun w' => Thr w w' #[.int .i64 n, .int .i64 a, .int .i64 k, .int .i64 m] #[.int .i64 kn, .int .i64 s, .int .i64 d, .int .i64 h, .int .i64 (-1), .int .i64 wo] #[.int .i64 0, .int .i64 0, .int .i64 0, .int .i64 0, .int .i64 0, .int .i64 0]), x.v.cell? ⟨w.heap.size + 1, 5, none⟩ = some (.int .i64 wo) := fun x => x.h.l.cell 5
  have HM := Lib.hid (fun W => below_alloc1 (ims_any n a k m kn W (by omega) (by omega) (by omega)))
  have h1' : decide (s < min m (kn + a)) = false := by simpa using h1
  clear hb h1
  go_enter Try.func25, Try.ntmps25
  go_wp2
  refine wp_region_heldq (fun w' => Thr w w' #[.int .i64 n, .int .i64 a, .int .i64 k, .int .i64 m] #[.int .i64 kn, .int .i64 s, .int .i64 d, .int .i64 h, .int .i64 (-1), .int .i64 wo] #[.int .i64 0, .int .i64 0, .int .i64 0, .int .i64 0, .int .i64 0, .int .i64 0]) (by kernel_rfl) (by kernel_rfl) (Thr.new w _ _ _).drew ?_
  repeat (go_big_quiet_step (with_reducible exact held_below (fun _ _ h hb => Thr.more h hb) (HM.out _)))
  refine wpQuiet_nil ?_
  rintro _ ⟨x, rfl⟩
  obtain ⟨W, hW⟩ := x
  simp only
  clear ne hp0 hp1 hp2 hp3 hl0 hl1 hl2 hl3 hl4 hl5
  obtain ⟨c0, c1, c2, c3, c4, c5⟩ := hW.l.c6
  obtain ⟨f0, f1, f2, f3, f4, f5⟩ := hW.l.f6
  obtain ⟨r0, r1, r2, r3, r4, r5⟩ := hW.r.c6
  obtain ⟨g0, g1, g2, g3, g4, g5⟩ := hW.r.f6
  have HB := hW.b
  have hz : w.heap.size + 1 + 1 < W.heap.size := hW.z
  have HW := Lib.hid hW
  clear hW
  go_wp2
  exact bodyPost_ret (results_cell_row (p := 4) (ty := 26) rfl _ _ (w.heap.size + 1 + 1) 26 #[.int .i64 kn, .int .i64 s, .int .i64 d, .int .i64 h, .int .i64 (-1), .int .i64 wo] (0, 0) _ rfl (Blk.set6 HW.out.r _ _ _ _ _ _) Try.underlying26 rfl infoL) rfl ⟨rfl, (by repeat (first | (with_reducible exact Below.refl _ _) | (with_reducible assumption) | ((with_reducible refine Below.setCell ?_ ?_ _); rotate_left; focus (first | (simp; done) | (simp; omega))) | ((with_reducible refine Below.alloc ?_ ?_ _); rotate_left; focus (first | exact Nat.le_refl _ | (simp; done) | (simp; omega))) | (with_reducible refine belowD ?_ _)))⟩
set_option maxHeartbeats 1600000 in
theorem isd_busy (n a k m kn s d h da wo : Int) (w : World) (h1 : ¬ da = -1) :
    Calls Try.prog 25 #[(.agg #[.int .i64 n, .int .i64 a, .int .i64 k, .int .i64 m]), (.agg #[.int .i64 kn, .int .i64 s, .int .i64 d, .int .i64 h, .int .i64 da, .int .i64 wo])] w fun e w' => e = .returned (.agg #[.int .i64 kn, .int .i64 s, .int .i64 d, .int .i64 h, .int .i64 da, .int .i64 wo]) ∧ Below w.heap.size w w' := by
  have ne := Wld.ne (S := (fun w' => Thr w w' #[.int .i64 n, .int .i64 a, .int .i64 k, .int .i64 m] #[.int .i64 kn, .int .i64 s, .int .i64 d, .int .i64 h, .int .i64 da, .int .i64 wo] #[.int .i64 0, .int .i64 0, .int .i64 0, .int .i64 0, .int .i64 0, .int .i64 0])) (Thr.new w _ _ _)
  have hp0 : ∀ x : Wld (fun w' => Thr w w' #[.int .i64 n, .int .i64 a, .int .i64 k, .int .i64 m] #[.int .i64 kn, .int .i64 s, .int .i64 d, .int .i64 h, .int .i64 da, .int .i64 wo] #[.int .i64 0, .int .i64 0, .int .i64 0, .int .i64 0, .int .i64 0, .int .i64 0]), x.v.cell? ⟨w.heap.size, 0, none⟩ = some (.int .i64 n) := fun x => x.h.p.cell 0
  have hp1 : ∀ x : Wld (fun w' => Thr w w' #[.int .i64 n, .int .i64 a, .int .i64 k, .int .i64 m] #[.int .i64 kn, .int .i64 s, .int .i64 d, .int .i64 h, .int .i64 da, .int .i64 wo] #[.int .i64 0, .int .i64 0, .int .i64 0, .int .i64 0, .int .i64 0, .int .i64 0]), x.v.cell? ⟨w.heap.size, 1, none⟩ = some (.int .i64 a) := fun x => x.h.p.cell 1
  have hp2 : ∀ x : Wld (fun w' => Thr w w' #[.int .i64 n, .int .i64 a, .int .i64 k, .int .i64 m] #[.int .i64 kn, .int .i64 s, .int .i64 d, .int .i64 h, .int .i64 da, .int .i64 wo] #[.int .i64 0, .int .i64 0, .int .i64 0, .int .i64 0, .int .i64 0, .int .i64 0]), x.v.cell? ⟨w.heap.size, 2, none⟩ = some (.int .i64 k) := fun x => x.h.p.cell 2
  have hp3 : ∀ x : Wld (fun w' => Thr w w' #[.int .i64 n, .int .i64 a, .int .i64 k, .int .i64 m] #[.int .i64 kn, .int .i64 s, .int .i64 d, .int .i64 h, .int .i64 da, .int .i64 wo] #[.int .i64 0, .int .i64 0, .int .i64 0, .int .i64 0, .int .i64 0, .int .i64 0]), x.v.cell? ⟨w.heap.size, 3, none⟩ = some (.int .i64 m) := fun x => x.h.p.cell 3
  have hl0 : ∀ x : Wld (fun w' => Thr w w' #[.int .i64 n, .int .i64 a, .int .i64 k, .int .i64 m] #[.int .i64 kn, .int .i64 s, .int .i64 d, .int .i64 h, .int .i64 da, .int .i64 wo] #[.int .i64 0, .int .i64 0, .int .i64 0, .int .i64 0, .int .i64 0, .int .i64 0]), x.v.cell? ⟨w.heap.size + 1, 0, none⟩ = some (.int .i64 kn) := fun x => x.h.l.cell 0
  have hl1 : ∀ x : Wld (fun w' => Thr w w' #[.int .i64 n, .int .i64 a, .int .i64 k, .int .i64 m] #[.int .i64 kn, .int .i64 s, .int .i64 d, .int .i64 h, .int .i64 da, .int .i64 wo] #[.int .i64 0, .int .i64 0, .int .i64 0, .int .i64 0, .int .i64 0, .int .i64 0]), x.v.cell? ⟨w.heap.size + 1, 1, none⟩ = some (.int .i64 s) := fun x => x.h.l.cell 1
  have hl2 : ∀ x : Wld (fun w' => Thr w w' #[.int .i64 n, .int .i64 a, .int .i64 k, .int .i64 m] #[.int .i64 kn, .int .i64 s, .int .i64 d, .int .i64 h, .int .i64 da, .int .i64 wo] #[.int .i64 0, .int .i64 0, .int .i64 0, .int .i64 0, .int .i64 0, .int .i64 0]), x.v.cell? ⟨w.heap.size + 1, 2, none⟩ = some (.int .i64 d) := fun x => x.h.l.cell 2
  have hl3 : ∀ x : Wld (fun w' => Thr w w' #[.int .i64 n, .int .i64 a, .int .i64 k, .int .i64 m] #[.int .i64 kn, .int .i64 s, .int .i64 d, .int .i64 h, .int .i64 da, .int .i64 wo] #[.int .i64 0, .int .i64 0, .int .i64 0, .int .i64 0, .int .i64 0, .int .i64 0]), x.v.cell? ⟨w.heap.size + 1, 3, none⟩ = some (.int .i64 h) := fun x => x.h.l.cell 3
  have hl4 : ∀ x : Wld (fun w' => Thr w w' #[.int .i64 n, .int .i64 a, .int .i64 k, .int .i64 m] #[.int .i64 kn, .int .i64 s, .int .i64 d, .int .i64 h, .int .i64 da, .int .i64 wo] #[.int .i64 0, .int .i64 0, .int .i64 0, .int .i64 0, .int .i64 0, .int .i64 0]), x.v.cell? ⟨w.heap.size + 1, 4, none⟩ = some (.int .i64 da) := fun x => x.h.l.cell 4
  have hl5 : ∀ x : Wld (fun w' => Thr w w' #[.int .i64 n, .int .i64 a, .int .i64 k, .int .i64 m] #[.int .i64 kn, .int .i64 s, .int .i64 d, .int .i64 h, .int .i64 da, .int .i64 wo] #[.int .i64 0, .int .i64 0, .int .i64 0, .int .i64 0, .int .i64 0, .int .i64 0]), x.v.cell? ⟨w.heap.size + 1, 5, none⟩ = some (.int .i64 wo) := fun x => x.h.l.cell 5
  have h1' : (da == -1) = false := by simpa using h1
  go_enter Try.func25, Try.ntmps25
  go_wp2
  refine wp_region_heldq (fun w' => Thr w w' #[.int .i64 n, .int .i64 a, .int .i64 k, .int .i64 m] #[.int .i64 kn, .int .i64 s, .int .i64 d, .int .i64 h, .int .i64 da, .int .i64 wo] #[.int .i64 0, .int .i64 0, .int .i64 0, .int .i64 0, .int .i64 0, .int .i64 0]) (by kernel_rfl) (by kernel_rfl) (Thr.new w _ _ _).drew ?_
  repeat (go_big_quiet_step (fail))
  refine wpQuiet_nil ?_
  rintro _ ⟨x, rfl⟩
  obtain ⟨W, hW⟩ := x
  simp only
  clear ne hp0 hp1 hp2 hp3 hl0 hl1 hl2 hl3 hl4 hl5
  obtain ⟨c0, c1, c2, c3, c4, c5⟩ := hW.l.c6
  obtain ⟨f0, f1, f2, f3, f4, f5⟩ := hW.l.f6
  obtain ⟨r0, r1, r2, r3, r4, r5⟩ := hW.r.c6
  obtain ⟨g0, g1, g2, g3, g4, g5⟩ := hW.r.f6
  have HB := hW.b
  have hz : w.heap.size + 1 + 1 < W.heap.size := hW.z
  have HW := Lib.hid hW
  clear hW
  go_wp2
  exact bodyPost_ret (results_cell_row (p := 4) (ty := 26) rfl _ _ (w.heap.size + 1 + 1) 26 #[.int .i64 kn, .int .i64 s, .int .i64 d, .int .i64 h, .int .i64 da, .int .i64 wo] (0, 0) _ rfl (Blk.set6 HW.out.r _ _ _ _ _ _) Try.underlying26 rfl infoL) rfl ⟨rfl, (by repeat (first | (with_reducible exact Below.refl _ _) | (with_reducible assumption) | ((with_reducible refine Below.setCell ?_ ?_ _); rotate_left; focus (first | (simp; done) | (simp; omega))) | ((with_reducible refine Below.alloc ?_ ?_ _); rotate_left; focus (first | exact Nat.le_refl _ | (simp; done) | (simp; omega))) | (with_reducible refine belowD ?_ _)))⟩

end Go.Proofs.Ytpjefjomihnbhaa
