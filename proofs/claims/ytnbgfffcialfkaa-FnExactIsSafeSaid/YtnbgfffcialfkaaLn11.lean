/-
  The walk of what an act does on a link, in the program. Conditions: a valid plan, and a link behind acts without a wrong word.
-/
import Derived.Test.YtnbgfffcialfkaaLn10
import Derived.BigRegion
set_option linter.unusedSimpArgs false
set_option linter.unusedVariables false
namespace Go.Proofs.Ytnbgfffcialfkaa
open Go.RowKit
set_option linter.unusedVariables false

/-- A plan and three links lie in the first four blocks behind w. -/
structure Fou (w w' : World) (xs ys zs us : Array Value) : Prop where
  p : Blk w' w.heap.size 25 xs
  l : Blk w' (w.heap.size + 1) 35 ys
  r : Blk w' (w.heap.size + 1 + 1) 35 zs
  q : Blk w' (w.heap.size + 1 + 1 + 1) 35 us
  b : Below w.heap.size w w'
  z : w.heap.size + 4 ≤ w'.heap.size
theorem Fou.new (w : World) (xs ys zs us : Array Value) : Fou w ((((w.alloc (.cells xs 25)).alloc (.cells ys 35)).alloc (.cells zs 35)).alloc (.cells us 35)) xs ys zs us := by
  refine ⟨(((Blk.new w _ xs).alloc _).alloc _).alloc _, ?_, ?_, ?_, ((((Below.refl _ _).alloc (Nat.le_refl _) _).alloc (by simp) _).alloc (by simp; omega) _).alloc (by simp; omega) _, by simp⟩
  · have := ((Blk.new (w.alloc (.cells xs 25)) 35 ys).alloc (.cells zs 35)).alloc (.cells us 35); simpa using this
  · have := (Blk.new ((w.alloc (.cells xs 25)).alloc (.cells ys 35)) 35 zs).alloc (.cells us 35); simpa using this
  · have := Blk.new (((w.alloc (.cells xs 25)).alloc (.cells ys 35)).alloc (.cells zs 35)) 35 us; simpa using this
theorem Fou.more {w w1 w2 : World} {xs ys zs us : Array Value} (h : Fou w w1 xs ys zs us) (hb : Below w1.heap.size w1 w2) : Fou w w2 xs ys zs us :=
  ⟨h.p.below hb (by have := h.z; omega), h.l.below hb (by have := h.z; omega), h.r.below hb (by have := h.z; omega), h.q.below hb (by have := h.z; omega), h.b.trans (hb.mono (by have := h.z; omega)), Nat.le_trans h.z hb.size⟩
theorem Fou.drewN {w w1 : World} {xs ys zs us : Array Value} (h : Fou w w1 xs ys zs us) (q : Nat) : Fou w (w1.drewN q) xs ys zs us := ⟨h.p, h.l, h.r, h.q, belowD h.b q, h.z⟩
theorem neq_links (r l : Lk) (W : World) : (binOp .neq 35 (.agg #[.int .i64 r.kn, .int .i64 r.s, .int .i64 r.d, .int .i64 r.h, .int .i64 r.da, .int .i64 r.wo]) (.agg #[.int .i64 l.kn, .int .i64 l.s, .int .i64 l.d, .int .i64 l.h, .int .i64 l.da, .int .i64 l.wo])).run Try.prog W = .ok (.bool (decide (r ≠ l))) W := by
  obtain ⟨x0, x1, x2, x3, x4, x5⟩ := r
  obtain ⟨y0, y1, y2, y3, y4, y5⟩ := l
  simp only
  go_simp
  by_cases h0 : x0 = y0
  · by_cases h1 : x1 = y1
    · by_cases h2 : x2 = y2
      · by_cases h3 : x3 = y3
        · by_cases h4 : x4 = y4
          · by_cases h5 : x5 = y5
            · simp [h0, h1, h2, h3, h4, h5]
            · simp [h0, h1, h2, h3, h4, h5]
          · simp [h0, h1, h2, h3, h4]
        · simp [h0, h1, h2, h3]
      · simp [h0, h1, h2]
    · simp [h0, h1]
  · simp [h0]
theorem wit_at (x lo hi : Int) (b : Bool) (hb : wi x lo hi = b) (w : World) : Calls Try.prog 31 #[.int .i64 x, .int .i64 lo, .int .i64 hi] w fun e w' => e = .returned (.bool b) ∧ w = w' := by
  rw [← hb]; exact wit_any x lo hi w

set_option maxHeartbeats 1600000 in
theorem ibh_s (n a k m kn s d h da wo : Int) (r : Lk) (w : World) (hc : ∀ W, Calls Try.prog 46 #[(.agg #[.int .i64 n, .int .i64 a, .int .i64 k, .int .i64 m]), (.agg #[.int .i64 kn, .int .i64 s, .int .i64 d, .int .i64 h, .int .i64 da, .int .i64 wo])] W fun e w' => e = .returned (.agg #[.int .i64 r.kn, .int .i64 r.s, .int .i64 r.d, .int .i64 r.h, .int .i64 r.da, .int .i64 r.wo]) ∧ Below W.heap.size W w') :
    Calls Try.prog 34 #[(.agg #[.int .i64 n, .int .i64 a, .int .i64 k, .int .i64 m]), (.agg #[.int .i64 kn, .int .i64 s, .int .i64 d, .int .i64 h, .int .i64 da, .int .i64 wo]), .int .u8 115] w fun e w' => e = .returned (.tuple #[.agg #[.int .i64 r.kn, .int .i64 r.s, .int .i64 r.d, .int .i64 r.h, .int .i64 r.da, .int .i64 r.wo], .bool (decide (r ≠ ⟨kn, s, d, h, da, wo⟩)), .bool true]) ∧ Below w.heap.size w w' := by
  have HC := Lib.hid hc
  clear hc
  have hcm := fun W => neq_links r ⟨kn, s, d, h, da, wo⟩ W
  simp only at hcm
  generalize decide (r ≠ ⟨kn, s, d, h, da, wo⟩) = b at *
  go_enter Try.func34, Try.ntmps34
  go_wp2_with fail
  refine (HC.out _).mono ?_
  rintro e w1 ⟨rfl, hb1⟩
  have hF := (Fou.new w #[.int .i64 n, .int .i64 a, .int .i64 k, .int .i64 m] #[.int .i64 kn, .int .i64 s, .int .i64 d, .int .i64 h, .int .i64 da, .int .i64 wo] #[.int .i64 0, .int .i64 0, .int .i64 0, .int .i64 0, .int .i64 0, .int .i64 0] #[.int .i64 kn, .int .i64 s, .int .i64 d, .int .i64 h, .int .i64 da, .int .i64 wo]).more hb1
  obtain ⟨c0, c1, c2, c3, c4, c5⟩ := hF.l.c6
  obtain ⟨r0, r1, r2, r3, r4, r5⟩ := hF.r.c6
  obtain ⟨g0, g1, g2, g3, g4, g5⟩ := hF.r.f6
  obtain ⟨q0, q1, q2, q3, q4, q5⟩ := hF.q.c6
  obtain ⟨k0, k1, k2, k3, k4, k5⟩ := hF.q.f6
  have HB := hF.b
  have hz : w.heap.size + 1 + 1 + 1 < _ := hF.z
  have HF := Lib.hid hF
  clear hF hb1
  go_wp2
  go_region
  go_wp2
  exact bodyPost_ret (results_row_tmp2 (p := 6) (u := 7) (v := 8) (ty := 35) rfl _ _ (w.heap.size + 1 + 1) 35 #[.int .i64 r.kn, .int .i64 r.s, .int .i64 r.d, .int .i64 r.h, .int .i64 r.da, .int .i64 r.wo] (0, 0) _ rfl (Blk.set6 (Blk.far6 HF.out.r (by simp) _ _ _ _ _ _) _ _ _ _ _ _).drew Try.underlying35 rfl infoL) rfl ⟨rfl, (by repeat (first | (with_reducible exact Below.refl _ _) | (with_reducible assumption) | ((with_reducible refine Below.setCell ?_ ?_ _); rotate_left; focus (first | (simp; done) | (simp; omega))) | ((with_reducible refine Below.alloc ?_ ?_ _); rotate_left; focus (first | (with_reducible exact Nat.le_refl _) | (simp; done) | (simp; omega))) | (with_reducible refine belowD ?_ _) | (with_reducible refine belowDr ?_)))⟩

set_option maxHeartbeats 1600000 in
theorem ibh_d (n a k m kn s d h da wo : Int) (r : Lk) (rb : Bool) (w : World) (hc : ∀ W, Calls Try.prog 43 #[(.agg #[.int .i64 n, .int .i64 a, .int .i64 k, .int .i64 m]), (.agg #[.int .i64 kn, .int .i64 s, .int .i64 d, .int .i64 h, .int .i64 da, .int .i64 wo])] W fun e w' => e = .returned (.tuple #[.agg #[.int .i64 r.kn, .int .i64 r.s, .int .i64 r.d, .int .i64 r.h, .int .i64 r.da, .int .i64 r.wo], .bool rb]) ∧ Below W.heap.size W w') :
    Calls Try.prog 34 #[(.agg #[.int .i64 n, .int .i64 a, .int .i64 k, .int .i64 m]), (.agg #[.int .i64 kn, .int .i64 s, .int .i64 d, .int .i64 h, .int .i64 da, .int .i64 wo]), .int .u8 100] w fun e w' => e = .returned (.tuple #[.agg #[.int .i64 r.kn, .int .i64 r.s, .int .i64 r.d, .int .i64 r.h, .int .i64 r.da, .int .i64 r.wo], .bool (decide (r ≠ ⟨kn, s, d, h, da, wo⟩)), .bool rb]) ∧ Below w.heap.size w w' := by
  have HC := Lib.hid hc
  clear hc
  have hcm := fun W => neq_links r ⟨kn, s, d, h, da, wo⟩ W
  simp only at hcm
  generalize decide (r ≠ ⟨kn, s, d, h, da, wo⟩) = b at *
  go_enter Try.func34, Try.ntmps34
  go_wp2_with fail
  refine (HC.out _).mono ?_
  rintro e w1 ⟨rfl, hb1⟩
  have hF := (Fou.new w #[.int .i64 n, .int .i64 a, .int .i64 k, .int .i64 m] #[.int .i64 kn, .int .i64 s, .int .i64 d, .int .i64 h, .int .i64 da, .int .i64 wo] #[.int .i64 0, .int .i64 0, .int .i64 0, .int .i64 0, .int .i64 0, .int .i64 0] #[.int .i64 kn, .int .i64 s, .int .i64 d, .int .i64 h, .int .i64 da, .int .i64 wo]).more hb1
  obtain ⟨c0, c1, c2, c3, c4, c5⟩ := hF.l.c6
  obtain ⟨r0, r1, r2, r3, r4, r5⟩ := hF.r.c6
  obtain ⟨g0, g1, g2, g3, g4, g5⟩ := hF.r.f6
  obtain ⟨q0, q1, q2, q3, q4, q5⟩ := hF.q.c6
  obtain ⟨k0, k1, k2, k3, k4, k5⟩ := hF.q.f6
  have HB := hF.b
  have hz : w.heap.size + 1 + 1 + 1 < _ := hF.z
  have HF := Lib.hid hF
  clear hF hb1
  go_wp2
  go_region
  go_wp2
  exact bodyPost_ret (results_row_tmp2 (p := 6) (u := 7) (v := 8) (ty := 35) rfl _ _ (w.heap.size + 1 + 1) 35 #[.int .i64 r.kn, .int .i64 r.s, .int .i64 r.d, .int .i64 r.h, .int .i64 r.da, .int .i64 r.wo] (0, 0) _ rfl (Blk.set6 (Blk.far6 HF.out.r (by simp) _ _ _ _ _ _) _ _ _ _ _ _).drew Try.underlying35 rfl infoL) rfl ⟨rfl, (by repeat (first | (with_reducible exact Below.refl _ _) | (with_reducible assumption) | ((with_reducible refine Below.setCell ?_ ?_ _); rotate_left; focus (first | (simp; done) | (simp; omega))) | ((with_reducible refine Below.alloc ?_ ?_ _); rotate_left; focus (first | (with_reducible exact Nat.le_refl _) | (simp; done) | (simp; omega))) | (with_reducible refine belowD ?_ _) | (with_reducible refine belowDr ?_)))⟩

set_option maxHeartbeats 1600000 in
theorem ibh_a (n a k m kn s d h da wo : Int) (r : Lk) (w : World) (hc : ∀ W, Calls Try.prog 47 #[(.agg #[.int .i64 n, .int .i64 a, .int .i64 k, .int .i64 m]), (.agg #[.int .i64 kn, .int .i64 s, .int .i64 d, .int .i64 h, .int .i64 da, .int .i64 wo])] W fun e w' => e = .returned (.agg #[.int .i64 r.kn, .int .i64 r.s, .int .i64 r.d, .int .i64 r.h, .int .i64 r.da, .int .i64 r.wo]) ∧ Below W.heap.size W w') :
    Calls Try.prog 34 #[(.agg #[.int .i64 n, .int .i64 a, .int .i64 k, .int .i64 m]), (.agg #[.int .i64 kn, .int .i64 s, .int .i64 d, .int .i64 h, .int .i64 da, .int .i64 wo]), .int .u8 97] w fun e w' => e = .returned (.tuple #[.agg #[.int .i64 r.kn, .int .i64 r.s, .int .i64 r.d, .int .i64 r.h, .int .i64 r.da, .int .i64 r.wo], .bool (decide (r ≠ ⟨kn, s, d, h, da, wo⟩)), .bool true]) ∧ Below w.heap.size w w' := by
  have HC := Lib.hid hc
  clear hc
  have hcm := fun W => neq_links r ⟨kn, s, d, h, da, wo⟩ W
  simp only at hcm
  generalize decide (r ≠ ⟨kn, s, d, h, da, wo⟩) = b at *
  go_enter Try.func34, Try.ntmps34
  go_wp2_with fail
  refine (HC.out _).mono ?_
  rintro e w1 ⟨rfl, hb1⟩
  have hF := (Fou.new w #[.int .i64 n, .int .i64 a, .int .i64 k, .int .i64 m] #[.int .i64 kn, .int .i64 s, .int .i64 d, .int .i64 h, .int .i64 da, .int .i64 wo] #[.int .i64 0, .int .i64 0, .int .i64 0, .int .i64 0, .int .i64 0, .int .i64 0] #[.int .i64 kn, .int .i64 s, .int .i64 d, .int .i64 h, .int .i64 da, .int .i64 wo]).more hb1
  obtain ⟨c0, c1, c2, c3, c4, c5⟩ := hF.l.c6
  obtain ⟨r0, r1, r2, r3, r4, r5⟩ := hF.r.c6
  obtain ⟨g0, g1, g2, g3, g4, g5⟩ := hF.r.f6
  obtain ⟨q0, q1, q2, q3, q4, q5⟩ := hF.q.c6
  obtain ⟨k0, k1, k2, k3, k4, k5⟩ := hF.q.f6
  have HB := hF.b
  have hz : w.heap.size + 1 + 1 + 1 < _ := hF.z
  have HF := Lib.hid hF
  clear hF hb1
  go_wp2
  go_region
  go_wp2
  exact bodyPost_ret (results_row_tmp2 (p := 6) (u := 7) (v := 8) (ty := 35) rfl _ _ (w.heap.size + 1 + 1) 35 #[.int .i64 r.kn, .int .i64 r.s, .int .i64 r.d, .int .i64 r.h, .int .i64 r.da, .int .i64 r.wo] (0, 0) _ rfl (Blk.set6 (Blk.far6 HF.out.r (by simp) _ _ _ _ _ _) _ _ _ _ _ _).drew Try.underlying35 rfl infoL) rfl ⟨rfl, (by repeat (first | (with_reducible exact Below.refl _ _) | (with_reducible assumption) | ((with_reducible refine Below.setCell ?_ ?_ _); rotate_left; focus (first | (simp; done) | (simp; omega))) | ((with_reducible refine Below.alloc ?_ ?_ _); rotate_left; focus (first | (with_reducible exact Nat.le_refl _) | (simp; done) | (simp; omega))) | (with_reducible refine belowD ?_ _) | (with_reducible refine belowDr ?_)))⟩

set_option maxHeartbeats 1600000 in
theorem ibh_g (n a k m kn s d h da wo : Int) (r : Lk) (c : Int) (h1 : 48 ≤ c) (h2 : c ≤ 57) (w : World) (hc : ∀ W, Calls Try.prog 48 #[(.agg #[.int .i64 kn, .int .i64 s, .int .i64 d, .int .i64 h, .int .i64 da, .int .i64 wo]), .int .i64 (c - 48)] W fun e w' => e = .returned (.agg #[.int .i64 r.kn, .int .i64 r.s, .int .i64 r.d, .int .i64 r.h, .int .i64 r.da, .int .i64 r.wo]) ∧ Below W.heap.size W w') :
    Calls Try.prog 34 #[(.agg #[.int .i64 n, .int .i64 a, .int .i64 k, .int .i64 m]), (.agg #[.int .i64 kn, .int .i64 s, .int .i64 d, .int .i64 h, .int .i64 da, .int .i64 wo]), .int .u8 c] w fun e w' => e = .returned (.tuple #[.agg #[.int .i64 r.kn, .int .i64 r.s, .int .i64 r.d, .int .i64 r.h, .int .i64 r.da, .int .i64 r.wo], .bool (decide (r ≠ ⟨kn, s, d, h, da, wo⟩)), .bool true]) ∧ Below w.heap.size w w' := by
  have HC := Lib.hid hc
  clear hc
  have hcm := fun W => neq_links r ⟨kn, s, d, h, da, wo⟩ W
  simp only at hcm
  generalize decide (r ≠ ⟨kn, s, d, h, da, wo⟩) = b at *
  have e1 : (c == 115) = false := by simp; omega
  have e2 : (c == 100) = false := by simp; omega
  have e3 : (c == 120) = false := by simp; omega
  have e4 : (c == 97) = false := by simp; omega
  have e5 : (c == 121) = false := by simp; omega
  have HWI := Lib.hid (fun W => wit_at c 48 57 true (by simp [wi]; omega) W)
  go_enter Try.func34, Try.ntmps34
  go_wp2_with fail
  refine (HWI.out _).mono ?_
  rintro e w0 ⟨rfl, rfl⟩
  go_wp2_with fail
  refine (HC.out _).mono ?_
  rintro e w1 ⟨rfl, hb1⟩
  have hF := (Fou.new w #[.int .i64 n, .int .i64 a, .int .i64 k, .int .i64 m] #[.int .i64 kn, .int .i64 s, .int .i64 d, .int .i64 h, .int .i64 da, .int .i64 wo] #[.int .i64 0, .int .i64 0, .int .i64 0, .int .i64 0, .int .i64 0, .int .i64 0] #[.int .i64 kn, .int .i64 s, .int .i64 d, .int .i64 h, .int .i64 da, .int .i64 wo]).more hb1
  obtain ⟨c0, c1, c2, c3, c4, c5⟩ := hF.l.c6
  obtain ⟨r0, r1, r2, r3, r4, r5⟩ := hF.r.c6
  obtain ⟨g0, g1, g2, g3, g4, g5⟩ := hF.r.f6
  obtain ⟨q0, q1, q2, q3, q4, q5⟩ := hF.q.c6
  obtain ⟨k0, k1, k2, k3, k4, k5⟩ := hF.q.f6
  have HB := hF.b
  have hz : w.heap.size + 1 + 1 + 1 < _ := hF.z
  have HF := Lib.hid hF
  clear hF hb1
  go_wp2
  go_region
  go_wp2
  exact bodyPost_ret (results_row_tmp2 (p := 6) (u := 7) (v := 8) (ty := 35) rfl _ _ (w.heap.size + 1 + 1) 35 #[.int .i64 r.kn, .int .i64 r.s, .int .i64 r.d, .int .i64 r.h, .int .i64 r.da, .int .i64 r.wo] (0, 0) _ rfl (Blk.set6 (Blk.far6 HF.out.r (by simp) _ _ _ _ _ _) _ _ _ _ _ _).drew Try.underlying35 rfl infoL) rfl ⟨rfl, (by repeat (first | (with_reducible exact Below.refl _ _) | (with_reducible assumption) | ((with_reducible refine Below.setCell ?_ ?_ _); rotate_left; focus (first | (simp; done) | (simp; omega))) | ((with_reducible refine Below.alloc ?_ ?_ _); rotate_left; focus (first | (with_reducible exact Nat.le_refl _) | (simp; done) | (simp; omega))) | (with_reducible refine belowD ?_ _) | (with_reducible refine belowDr ?_)))⟩

set_option maxHeartbeats 1600000 in
theorem ibh_x (n a k m kn s d h da wo : Int) (r : Lk) (hr : r = ⟨kn, s, d, h, (-1), wo⟩) (w : World) :
    Calls Try.prog 34 #[(.agg #[.int .i64 n, .int .i64 a, .int .i64 k, .int .i64 m]), (.agg #[.int .i64 kn, .int .i64 s, .int .i64 d, .int .i64 h, .int .i64 da, .int .i64 wo]), .int .u8 120] w fun e w' => e = .returned (.tuple #[.agg #[.int .i64 kn, .int .i64 s, .int .i64 d, .int .i64 h, .int .i64 (-1), .int .i64 wo], .bool (decide (r ≠ ⟨kn, s, d, h, da, wo⟩)), .bool true]) ∧ Below w.heap.size w w' := by
  have hcm := fun W => neq_links r ⟨kn, s, d, h, da, wo⟩ W
  have hd : decide (r ≠ ⟨kn, s, d, h, da, wo⟩) = decide (r ≠ ⟨kn, s, d, h, da, wo⟩) := rfl
  generalize hbb : decide (r ≠ ⟨kn, s, d, h, da, wo⟩) = b at *
  rw [hr] at hcm
  simp only at hcm
  clear hbb hd hr
  obtain ⟨W0, hW0⟩ : ∃ W0, W0 = ((((w.alloc (.cells #[.int .i64 n, .int .i64 a, .int .i64 k, .int .i64 m] 25)).alloc (.cells #[.int .i64 kn, .int .i64 s, .int .i64 d, .int .i64 h, .int .i64 da, .int .i64 wo] 35)).alloc (.cells #[.int .i64 0, .int .i64 0, .int .i64 0, .int .i64 0, .int .i64 0, .int .i64 0] 35)).alloc (.cells #[.int .i64 kn, .int .i64 s, .int .i64 d, .int .i64 h, .int .i64 (-1), .int .i64 wo] 35)) := ⟨_, rfl⟩
  have HF := Lib.hid (show Fou w W0 #[.int .i64 n, .int .i64 a, .int .i64 k, .int .i64 m] #[.int .i64 kn, .int .i64 s, .int .i64 d, .int .i64 h, .int .i64 da, .int .i64 wo] #[.int .i64 0, .int .i64 0, .int .i64 0, .int .i64 0, .int .i64 0, .int .i64 0] #[.int .i64 kn, .int .i64 s, .int .i64 d, .int .i64 h, .int .i64 (-1), .int .i64 wo] by rw [hW0]; exact Fou.new w _ _ _ _)
  have HW0 := Lib.hid hW0
  clear hW0
  go_enter Try.func34, Try.ntmps34
  go_wp2
  rw [← HW0.out]
  obtain ⟨c0, c1, c2, c3, c4, c5⟩ := HF.out.l.c6
  obtain ⟨r0, r1, r2, r3, r4, r5⟩ := HF.out.r.c6
  obtain ⟨g0, g1, g2, g3, g4, g5⟩ := HF.out.r.f6
  obtain ⟨q0, q1, q2, q3, q4, q5⟩ := HF.out.q.c6
  obtain ⟨k0, k1, k2, k3, k4, k5⟩ := HF.out.q.f6
  have HB := HF.out.b
  have hz : w.heap.size + 1 + 1 + 1 < _ := HF.out.z
  clear HW0
  go_region
  go_wp2
  exact bodyPost_ret (results_row_tmp2 (p := 6) (u := 7) (v := 8) (ty := 35) rfl _ _ (w.heap.size + 1 + 1) 35 #[.int .i64 kn, .int .i64 s, .int .i64 d, .int .i64 h, .int .i64 (-1), .int .i64 wo] (0, 0) _ rfl (Blk.set6 HF.out.r _ _ _ _ _ _).drew Try.underlying35 rfl infoL) rfl ⟨rfl, (by repeat (first | (with_reducible exact Below.refl _ _) | (with_reducible assumption) | ((with_reducible refine Below.setCell ?_ ?_ _); rotate_left; focus (first | (simp; done) | (simp; omega))) | ((with_reducible refine Below.alloc ?_ ?_ _); rotate_left; focus (first | (with_reducible exact Nat.le_refl _) | (simp; done) | (simp; omega))) | (with_reducible refine belowD ?_ _) | (with_reducible refine belowDr ?_)))⟩

set_option maxHeartbeats 1600000 in
theorem ibh_y (n a k m kn s d h da wo : Int) (r : Lk) (hr : r = ⟨kn, s, d, h, da, (-1)⟩) (w : World) :
    Calls Try.prog 34 #[(.agg #[.int .i64 n, .int .i64 a, .int .i64 k, .int .i64 m]), (.agg #[.int .i64 kn, .int .i64 s, .int .i64 d, .int .i64 h, .int .i64 da, .int .i64 wo]), .int .u8 121] w fun e w' => e = .returned (.tuple #[.agg #[.int .i64 kn, .int .i64 s, .int .i64 d, .int .i64 h, .int .i64 da, .int .i64 (-1)], .bool (decide (r ≠ ⟨kn, s, d, h, da, wo⟩)), .bool true]) ∧ Below w.heap.size w w' := by
  have hcm := fun W => neq_links r ⟨kn, s, d, h, da, wo⟩ W
  have hd : decide (r ≠ ⟨kn, s, d, h, da, wo⟩) = decide (r ≠ ⟨kn, s, d, h, da, wo⟩) := rfl
  generalize hbb : decide (r ≠ ⟨kn, s, d, h, da, wo⟩) = b at *
  rw [hr] at hcm
  simp only at hcm
  clear hbb hd hr
  obtain ⟨W0, hW0⟩ : ∃ W0, W0 = ((((w.alloc (.cells #[.int .i64 n, .int .i64 a, .int .i64 k, .int .i64 m] 25)).alloc (.cells #[.int .i64 kn, .int .i64 s, .int .i64 d, .int .i64 h, .int .i64 da, .int .i64 wo] 35)).alloc (.cells #[.int .i64 0, .int .i64 0, .int .i64 0, .int .i64 0, .int .i64 0, .int .i64 0] 35)).alloc (.cells #[.int .i64 kn, .int .i64 s, .int .i64 d, .int .i64 h, .int .i64 da, .int .i64 (-1)] 35)) := ⟨_, rfl⟩
  have HF := Lib.hid (show Fou w W0 #[.int .i64 n, .int .i64 a, .int .i64 k, .int .i64 m] #[.int .i64 kn, .int .i64 s, .int .i64 d, .int .i64 h, .int .i64 da, .int .i64 wo] #[.int .i64 0, .int .i64 0, .int .i64 0, .int .i64 0, .int .i64 0, .int .i64 0] #[.int .i64 kn, .int .i64 s, .int .i64 d, .int .i64 h, .int .i64 da, .int .i64 (-1)] by rw [hW0]; exact Fou.new w _ _ _ _)
  have HW0 := Lib.hid hW0
  clear hW0
  go_enter Try.func34, Try.ntmps34
  go_wp2
  rw [← HW0.out]
  obtain ⟨c0, c1, c2, c3, c4, c5⟩ := HF.out.l.c6
  obtain ⟨r0, r1, r2, r3, r4, r5⟩ := HF.out.r.c6
  obtain ⟨g0, g1, g2, g3, g4, g5⟩ := HF.out.r.f6
  obtain ⟨q0, q1, q2, q3, q4, q5⟩ := HF.out.q.c6
  obtain ⟨k0, k1, k2, k3, k4, k5⟩ := HF.out.q.f6
  have HB := HF.out.b
  have hz : w.heap.size + 1 + 1 + 1 < _ := HF.out.z
  clear HW0
  go_region
  go_wp2
  exact bodyPost_ret (results_row_tmp2 (p := 6) (u := 7) (v := 8) (ty := 35) rfl _ _ (w.heap.size + 1 + 1) 35 #[.int .i64 kn, .int .i64 s, .int .i64 d, .int .i64 h, .int .i64 da, .int .i64 (-1)] (0, 0) _ rfl (Blk.set6 HF.out.r _ _ _ _ _ _).drew Try.underlying35 rfl infoL) rfl ⟨rfl, (by repeat (first | (with_reducible exact Below.refl _ _) | (with_reducible assumption) | ((with_reducible refine Below.setCell ?_ ?_ _); rotate_left; focus (first | (simp; done) | (simp; omega))) | ((with_reducible refine Below.alloc ?_ ?_ _); rotate_left; focus (first | (with_reducible exact Nat.le_refl _) | (simp; done) | (simp; omega))) | (with_reducible refine belowD ?_ _) | (with_reducible refine belowDr ?_)))⟩

set_option maxHeartbeats 1600000 in
theorem ibh_o (n a k m kn s d h da wo : Int) (c : Int) (h1 : ¬ c = 115) (h2 : ¬ c = 100) (h3 : ¬ c = 120) (h4 : ¬ c = 97) (h5 : ¬ c = 121) (h6 : ¬ (48 ≤ c ∧ c ≤ 57)) (h7 : 0 ≤ c ∧ c ≤ 255) (w : World) :
    Calls Try.prog 34 #[(.agg #[.int .i64 n, .int .i64 a, .int .i64 k, .int .i64 m]), (.agg #[.int .i64 kn, .int .i64 s, .int .i64 d, .int .i64 h, .int .i64 da, .int .i64 wo]), .int .u8 c] w fun e w' => e = .returned (.tuple #[(.agg #[.int .i64 kn, .int .i64 s, .int .i64 d, .int .i64 h, .int .i64 da, .int .i64 wo]), .bool false, .bool true]) ∧ Below w.heap.size w w' := by
  have HWI := Lib.hid (fun W => wit_at c 48 57 false (by simp [wi]; omega) W)
  have e1 : (c == 115) = false := by simpa using h1
  have e2 : (c == 100) = false := by simpa using h2
  have e3 : (c == 120) = false := by simpa using h3
  have e4 : (c == 97) = false := by simpa using h4
  have e5 : (c == 121) = false := by simpa using h5
  clear h1 h2 h3 h4 h5 h6
  go_enter Try.func34, Try.ntmps34
  go_wp2_with fail
  refine (HWI.out _).mono ?_
  rintro e w0 ⟨rfl, rfl⟩
  go_wp2
  obtain ⟨W0, hW0⟩ : ∃ W0, W0 = ((((w.alloc (.cells #[.int .i64 n, .int .i64 a, .int .i64 k, .int .i64 m] 25)).alloc (.cells #[.int .i64 kn, .int .i64 s, .int .i64 d, .int .i64 h, .int .i64 da, .int .i64 wo] 35)).alloc (.cells #[.int .i64 0, .int .i64 0, .int .i64 0, .int .i64 0, .int .i64 0, .int .i64 0] 35)).alloc (.cells #[.int .i64 kn, .int .i64 s, .int .i64 d, .int .i64 h, .int .i64 da, .int .i64 wo] 35)) := ⟨_, rfl⟩
  have HF := Lib.hid (show Fou w W0 #[.int .i64 n, .int .i64 a, .int .i64 k, .int .i64 m] #[.int .i64 kn, .int .i64 s, .int .i64 d, .int .i64 h, .int .i64 da, .int .i64 wo] #[.int .i64 0, .int .i64 0, .int .i64 0, .int .i64 0, .int .i64 0, .int .i64 0] #[.int .i64 kn, .int .i64 s, .int .i64 d, .int .i64 h, .int .i64 da, .int .i64 wo] by rw [hW0]; exact Fou.new w _ _ _ _)
  rw [← hW0]
  obtain ⟨c0, c1, c2, c3, c4, c5⟩ := HF.out.l.c6
  obtain ⟨r0, r1, r2, r3, r4, r5⟩ := HF.out.r.c6
  obtain ⟨g0, g1, g2, g3, g4, g5⟩ := HF.out.r.f6
  obtain ⟨q0, q1, q2, q3, q4, q5⟩ := HF.out.q.c6
  obtain ⟨k0, k1, k2, k3, k4, k5⟩ := HF.out.q.f6
  have HB := HF.out.b
  have hz : w.heap.size + 1 + 1 + 1 < _ := HF.out.z
  clear hW0
  go_region
  go_wp2
  exact bodyPost_ret (results_row_tmp2 (p := 6) (u := 7) (v := 8) (ty := 35) rfl _ _ (w.heap.size + 1 + 1) 35 #[.int .i64 kn, .int .i64 s, .int .i64 d, .int .i64 h, .int .i64 da, .int .i64 wo] (0, 0) _ rfl (Blk.set6 HF.out.r _ _ _ _ _ _).drew Try.underlying35 rfl infoL) rfl ⟨rfl, (by repeat (first | (with_reducible exact Below.refl _ _) | (with_reducible assumption) | ((with_reducible refine Below.setCell ?_ ?_ _); rotate_left; focus (first | (simp; done) | (simp; omega))) | ((with_reducible refine Below.alloc ?_ ?_ _); rotate_left; focus (first | (with_reducible exact Nat.le_refl _) | (simp; done) | (simp; omega))) | (with_reducible refine belowD ?_ _) | (with_reducible refine belowDr ?_)))⟩
end Go.Proofs.Ytnbgfffcialfkaa
