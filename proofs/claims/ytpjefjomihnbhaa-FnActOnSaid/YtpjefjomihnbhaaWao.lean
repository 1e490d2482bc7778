/-
  The walks of ActOn, the program's and the model's: they give the same. No condition but that the act is a byte.
-/
import Derived.Test.YtpjefjomihnbhaaWcb
import Derived.Test.YtpjefjomihnbhaaWsv
namespace Go.Proofs.Ytpjefjomihnbhaa
open Go.RowKit
set_option linter.unusedVariables false

/-- What ActOn gives, as parts. -/
def aoL (p : Pl) (l : Lk) (act : Nat) : Lk := if vpB p = true ∧ vlB p l = true then stepL p l act else ⟨0, 0, 0, 0, 0, 0⟩
def aoM (p : Pl) (l : Lk) (act : Nat) : Bool := if vpB p = true ∧ vlB p l = true then mayF p l act else false
def aoR (p : Pl) (l : Lk) (act : Nat) : Bool := if vpB p = true ∧ vlB p l = true then stepR p l act else false

set_option maxHeartbeats 1600000 in
theorem iAO_1 (n a k m kn s d h da wo : Int) (w : World) (act : Int) (hp : vpB ⟨n, a, k, m⟩ = false) : Calls Try.prog 5 #[(.agg #[.int .i64 n, .int .i64 a, .int .i64 k, .int .i64 m]), (.agg #[.int .i64 kn, .int .i64 s, .int .i64 d, .int .i64 h, .int .i64 da, .int .i64 wo]), .int .u8 act] w fun e w' => e = .returned (.tuple #[.agg #[.int .i64 0, .int .i64 0, .int .i64 0, .int .i64 0, .int .i64 0, .int .i64 0], .bool false, .bool false]) ∧ Below w.heap.size w w' := by
  have HV := Lib.hid (fun W => hp ▸ ivp_any n a k m W)
  clear hp
  go_enter Try.func5, Try.ntmps5
  go_wp2_with fail
  refine (HV.out _).mono ?_
  rintro e w1 ⟨rfl, hb1⟩
  have hF := (Thr.new w #[.int .i64 n, .int .i64 a, .int .i64 k, .int .i64 m] #[.int .i64 kn, .int .i64 s, .int .i64 d, .int .i64 h, .int .i64 da, .int .i64 wo] #[.int .i64 0, .int .i64 0, .int .i64 0, .int .i64 0, .int .i64 0, .int .i64 0]).more hb1
  have HF := Lib.hid hF
  obtain ⟨p0, p1, p2, p3⟩ := hF.p.c4
  obtain ⟨c0, c1, c2, c3, c4, c5⟩ := hF.l.c6
  obtain ⟨r0, r1, r2, r3, r4, r5⟩ := hF.r.c6
  obtain ⟨g0, g1, g2, g3, g4, g5⟩ := hF.r.f6
  have HB := hF.b
  have hz : w.heap.size + 1 + 1 < _ := hF.z
  clear hF hb1
  go_wp2
  exact bodyPost_ret (results_row_tmp2 (p := 6) (u := 7) (v := 8) (ty := 26) rfl _ _ (w.heap.size + 1 + 1) 26 #[.int .i64 0, .int .i64 0, .int .i64 0, .int .i64 0, .int .i64 0, .int .i64 0] (0, 0) _ rfl (Blk.set6 HF.out.r _ _ _ _ _ _) Try.underlying26 rfl infoL) rfl ⟨rfl, (by repeat (first | (with_reducible exact Below.refl _ _) | (with_reducible assumption) | ((with_reducible refine Below.setCell ?_ ?_ _); rotate_left; focus (first | (simp; done) | (simp; omega))) | ((with_reducible refine Below.alloc ?_ ?_ _); rotate_left; focus (first | (with_reducible exact Nat.le_refl _) | (simp; done) | (simp; omega))) | (with_reducible refine belowD ?_ _) | (with_reducible refine belowDr ?_)))⟩

set_option maxHeartbeats 1600000 in
theorem iAO_2 (n a k m kn s d h da wo : Int) (w : World) (act : Int) (hp : vpB ⟨n, a, k, m⟩ = true) (hl : vlB ⟨n, a, k, m⟩ ⟨kn, s, d, h, da, wo⟩ = false) : Calls Try.prog 5 #[(.agg #[.int .i64 n, .int .i64 a, .int .i64 k, .int .i64 m]), (.agg #[.int .i64 kn, .int .i64 s, .int .i64 d, .int .i64 h, .int .i64 da, .int .i64 wo]), .int .u8 act] w fun e w' => e = .returned (.tuple #[.agg #[.int .i64 0, .int .i64 0, .int .i64 0, .int .i64 0, .int .i64 0, .int .i64 0], .bool false, .bool false]) ∧ Below w.heap.size w w' := by
  have HV := Lib.hid (fun W => hp ▸ ivp_any n a k m W)
  have HL := Lib.hid (fun W => hl ▸ ivl_any n a k m kn s d h da wo W hp)
  clear hp hl
  go_enter Try.func5, Try.ntmps5
  go_wp2_with fail
  refine (HV.out _).mono ?_
  rintro e w1 ⟨rfl, hb1⟩
  have hF := (Thr.new w #[.int .i64 n, .int .i64 a, .int .i64 k, .int .i64 m] #[.int .i64 kn, .int .i64 s, .int .i64 d, .int .i64 h, .int .i64 da, .int .i64 wo] #[.int .i64 0, .int .i64 0, .int .i64 0, .int .i64 0, .int .i64 0, .int .i64 0]).more hb1
  have HF := Lib.hid hF
  obtain ⟨p0, p1, p2, p3⟩ := hF.p.c4
  obtain ⟨c0, c1, c2, c3, c4, c5⟩ := hF.l.c6
  obtain ⟨r0, r1, r2, r3, r4, r5⟩ := hF.r.c6
  obtain ⟨g0, g1, g2, g3, g4, g5⟩ := hF.r.f6
  have HB := hF.b
  have hz : w.heap.size + 1 + 1 < _ := hF.z
  clear hF hb1
  go_wp2_with fail
  refine (HL.out _).mono ?_
  rintro e w2 ⟨rfl, hb2⟩
  have hF := HF.out.more hb2
  clear p0 p1 p2 p3 c0 c1 c2 c3 c4 c5 r0 r1 r2 r3 r4 r5 g0 g1 g2 g3 g4 g5 HB hz
  clear HF
  have HF := Lib.hid hF
  obtain ⟨p0, p1, p2, p3⟩ := hF.p.c4
  obtain ⟨c0, c1, c2, c3, c4, c5⟩ := hF.l.c6
  obtain ⟨r0, r1, r2, r3, r4, r5⟩ := hF.r.c6
  obtain ⟨g0, g1, g2, g3, g4, g5⟩ := hF.r.f6
  have HB := hF.b
  have hz : w.heap.size + 1 + 1 < _ := hF.z
  clear hF hb2
  go_wp2
  exact bodyPost_ret (results_row_tmp2 (p := 6) (u := 7) (v := 8) (ty := 26) rfl _ _ (w.heap.size + 1 + 1) 26 #[.int .i64 0, .int .i64 0, .int .i64 0, .int .i64 0, .int .i64 0, .int .i64 0] (0, 0) _ rfl (Blk.set6 HF.out.r _ _ _ _ _ _) Try.underlying26 rfl infoL) rfl ⟨rfl, (by repeat (first | (with_reducible exact Below.refl _ _) | (with_reducible assumption) | ((with_reducible refine Below.setCell ?_ ?_ _); rotate_left; focus (first | (simp; done) | (simp; omega))) | ((with_reducible refine Below.alloc ?_ ?_ _); rotate_left; focus (first | (with_reducible exact Nat.le_refl _) | (simp; done) | (simp; omega))) | (with_reducible refine belowD ?_ _) | (with_reducible refine belowDr ?_)))⟩

set_option maxHeartbeats 1600000 in
theorem iAO_3 (n a k m kn s d h da wo : Int) (w : World) (act : Int) (hp : vpB ⟨n, a, k, m⟩ = true) (hl : vlB ⟨n, a, k, m⟩ ⟨kn, s, d, h, da, wo⟩ = true) (r : Lk) (b1 b2 : Bool)
    (hc : ∀ W, Calls Try.prog 18 #[(.agg #[.int .i64 n, .int .i64 a, .int .i64 k, .int .i64 m]), (.agg #[.int .i64 kn, .int .i64 s, .int .i64 d, .int .i64 h, .int .i64 da, .int .i64 wo]), .int .u8 act] W fun e w' => e = .returned (.tuple #[.agg #[.int .i64 r.kn, .int .i64 r.s, .int .i64 r.d, .int .i64 r.h, .int .i64 r.da, .int .i64 r.wo], .bool b1, .bool b2]) ∧ Below W.heap.size W w') : Calls Try.prog 5 #[(.agg #[.int .i64 n, .int .i64 a, .int .i64 k, .int .i64 m]), (.agg #[.int .i64 kn, .int .i64 s, .int .i64 d, .int .i64 h, .int .i64 da, .int .i64 wo]), .int .u8 act] w fun e w' => e = .returned (.tuple #[.agg #[.int .i64 r.kn, .int .i64 r.s, .int .i64 r.d, .int .i64 r.h, .int .i64 r.da, .int .i64 r.wo], .bool b1, .bool b2]) ∧ Below w.heap.size w w' := by
  have HV := Lib.hid (fun W => hp ▸ ivp_any n a k m W)
  have HL := Lib.hid (fun W => hl ▸ ivl_any n a k m kn s d h da wo W hp)
  have HC := Lib.hid hc
  clear hp hl hc
  go_enter Try.func5, Try.ntmps5
  go_wp2_with fail
  refine (HV.out _).mono ?_
  rintro e w1 ⟨rfl, hb1⟩
  have hF := (Thr.new w #[.int .i64 n, .int .i64 a, .int .i64 k, .int .i64 m] #[.int .i64 kn, .int .i64 s, .int .i64 d, .int .i64 h, .int .i64 da, .int .i64 wo] #[.int .i64 0, .int .i64 0, .int .i64 0, .int .i64 0, .int .i64 0, .int .i64 0]).more hb1
  have HF := Lib.hid hF
  obtain ⟨p0, p1, p2, p3⟩ := hF.p.c4
  obtain ⟨c0, c1, c2, c3, c4, c5⟩ := hF.l.c6
  obtain ⟨r0, r1, r2, r3, r4, r5⟩ := hF.r.c6
  obtain ⟨g0, g1, g2, g3, g4, g5⟩ := hF.r.f6
  have HB := hF.b
  have hz : w.heap.size + 1 + 1 < _ := hF.z
  clear hF hb1
  go_wp2_with fail
  refine (HL.out _).mono ?_
  rintro e w2 ⟨rfl, hb2⟩
  have hF := HF.out.more hb2
  clear p0 p1 p2 p3 c0 c1 c2 c3 c4 c5 r0 r1 r2 r3 r4 r5 g0 g1 g2 g3 g4 g5 HB hz
  clear HF
  have HF := Lib.hid hF
  obtain ⟨p0, p1, p2, p3⟩ := hF.p.c4
  obtain ⟨c0, c1, c2, c3, c4, c5⟩ := hF.l.c6
  obtain ⟨r0, r1, r2, r3, r4, r5⟩ := hF.r.c6
  obtain ⟨g0, g1, g2, g3, g4, g5⟩ := hF.r.f6
  have HB := hF.b
  have hz : w.heap.size + 1 + 1 < _ := hF.z
  clear hF hb2
  go_wp2_with fail
  refine (HC.out _).mono ?_
  rintro e w3 ⟨rfl, hb3⟩
  have hF := HF.out.more hb3
  clear p0 p1 p2 p3 c0 c1 c2 c3 c4 c5 r0 r1 r2 r3 r4 r5 g0 g1 g2 g3 g4 g5 HB hz
  clear HF
  have HF := Lib.hid hF
  obtain ⟨p0, p1, p2, p3⟩ := hF.p.c4
  obtain ⟨c0, c1, c2, c3, c4, c5⟩ := hF.l.c6
  obtain ⟨r0, r1, r2, r3, r4, r5⟩ := hF.r.c6
  obtain ⟨g0, g1, g2, g3, g4, g5⟩ := hF.r.f6
  have HB := hF.b
  have hz : w.heap.size + 1 + 1 < _ := hF.z
  clear hF hb3
  go_wp2
  exact bodyPost_ret (results_row_tmp2 (p := 6) (u := 7) (v := 8) (ty := 26) rfl _ _ (w.heap.size + 1 + 1) 26 #[.int .i64 r.kn, .int .i64 r.s, .int .i64 r.d, .int .i64 r.h, .int .i64 r.da, .int .i64 r.wo] (0, 0) _ rfl (Blk.set6 HF.out.r _ _ _ _ _ _) Try.underlying26 rfl infoL) rfl ⟨rfl, (by repeat (first | (with_reducible exact Below.refl _ _) | (with_reducible assumption) | ((with_reducible refine Below.setCell ?_ ?_ _); rotate_left; focus (first | (simp; done) | (simp; omega))) | ((with_reducible refine Below.alloc ?_ ?_ _); rotate_left; focus (first | (with_reducible exact Nat.le_refl _) | (simp; done) | (simp; omega))) | (with_reducible refine belowD ?_ _) | (with_reducible refine belowDr ?_)))⟩

theorem iAO_any (n a k m kn s d h da wo : Int) (w : World) (act : Nat) (ha : act ≤ 255) : Calls Try.prog 5 #[(.agg #[.int .i64 n, .int .i64 a, .int .i64 k, .int .i64 m]), (.agg #[.int .i64 kn, .int .i64 s, .int .i64 d, .int .i64 h, .int .i64 da, .int .i64 wo]), .int .u8 (act : Int)] w fun e w' => e = .returned (.tuple #[lv (aoL ⟨n, a, k, m⟩ ⟨kn, s, d, h, da, wo⟩ act), .bool (aoM ⟨n, a, k, m⟩ ⟨kn, s, d, h, da, wo⟩ act), .bool (aoR ⟨n, a, k, m⟩ ⟨kn, s, d, h, da, wo⟩ act)]) ∧ Below w.heap.size w w' := by
  cases hp : vpB ⟨n, a, k, m⟩
  · refine calls_congr ?_ (iAO_1 n a k m kn s d h da wo w act hp)
    simp [aoL, aoM, aoR, hp, lv]
  cases hl : vlB ⟨n, a, k, m⟩ ⟨kn, s, d, h, da, wo⟩
  · refine calls_congr ?_ (iAO_2 n a k m kn s d h da wo w act hp hl)
    simp [aoL, aoM, aoR, hl, lv]
  · have hi : Inv ⟨n, a, k, m⟩ ⟨kn, s, d, h, da, wo⟩ := by
      unfold vlB at hl
      exact (of_decide_eq_true hl).1
    refine calls_congr ?_ (iAO_3 n a k m kn s d h da wo w act hp hl _ _ _ (fun W => ibh_any hp hi W act ha))
    simp [aoL, aoM, aoR, hp, hl, lv]

set_option maxHeartbeats 1600000 in
theorem sAO_1 (n a k m kn s d h da wo : Int) (w : World) (act : Int) (hp : vpB ⟨n, a, k, m⟩ = false) : Calls Try.prog 6 #[(.agg #[.int .i64 n, .int .i64 a, .int .i64 k, .int .i64 m]), (.agg #[.int .i64 kn, .int .i64 s, .int .i64 d, .int .i64 h, .int .i64 da, .int .i64 wo]), .int .u8 act] w fun e w' => e = .returned (.tuple #[.agg #[.int .i64 0, .int .i64 0, .int .i64 0, .int .i64 0, .int .i64 0, .int .i64 0], .bool false, .bool false]) ∧ Below w.heap.size w w' := by
  have HV := Lib.hid (fun W => hp ▸ svp_any n a k m W)
  clear hp
  go_enter Try.func6, Try.ntmps6
  go_wp2_with fail
  refine (HV.out _).mono ?_
  rintro e w1 ⟨rfl, hb1⟩
  have hF := (Thr.new w #[.int .i64 n, .int .i64 a, .int .i64 k, .int .i64 m] #[.int .i64 kn, .int .i64 s, .int .i64 d, .int .i64 h, .int .i64 da, .int .i64 wo] #[.int .i64 0, .int .i64 0, .int .i64 0, .int .i64 0, .int .i64 0, .int .i64 0]).more hb1
  have HF := Lib.hid hF
  obtain ⟨p0, p1, p2, p3⟩ := hF.p.c4
  obtain ⟨c0, c1, c2, c3, c4, c5⟩ := hF.l.c6
  obtain ⟨r0, r1, r2, r3, r4, r5⟩ := hF.r.c6
  obtain ⟨g0, g1, g2, g3, g4, g5⟩ := hF.r.f6
  have HB := hF.b
  have hz : w.heap.size + 1 + 1 < _ := hF.z
  clear hF hb1
  go_wp2
  exact bodyPost_ret (results_row_tmp2 (p := 6) (u := 7) (v := 8) (ty := 26) rfl _ _ (w.heap.size + 1 + 1) 26 #[.int .i64 0, .int .i64 0, .int .i64 0, .int .i64 0, .int .i64 0, .int .i64 0] (0, 0) _ rfl (Blk.set6 HF.out.r _ _ _ _ _ _) Try.underlying26 rfl infoL) rfl ⟨rfl, (by repeat (first | (with_reducible exact Below.refl _ _) | (with_reducible assumption) | ((with_reducible refine Below.setCell ?_ ?_ _); rotate_left; focus (first | (simp; done) | (simp; omega))) | ((with_reducible refine Below.alloc ?_ ?_ _); rotate_left; focus (first | (with_reducible exact Nat.le_refl _) | (simp; done) | (simp; omega))) | (with_reducible refine belowD ?_ _) | (with_reducible refine belowDr ?_)))⟩

set_option maxHeartbeats 1600000 in
theorem sAO_2 (n a k m kn s d h da wo : Int) (w : World) (act : Int) (hp : vpB ⟨n, a, k, m⟩ = true) (hl : vlB ⟨n, a, k, m⟩ ⟨kn, s, d, h, da, wo⟩ = false) : Calls Try.prog 6 #[(.agg #[.int .i64 n, .int .i64 a, .int .i64 k, .int .i64 m]), (.agg #[.int .i64 kn, .int .i64 s, .int .i64 d, .int .i64 h, .int .i64 da, .int .i64 wo]), .int .u8 act] w fun e w' => e = .returned (.tuple #[.agg #[.int .i64 0, .int .i64 0, .int .i64 0, .int .i64 0, .int .i64 0, .int .i64 0], .bool false, .bool false]) ∧ Below w.heap.size w w' := by
  have HV := Lib.hid (fun W => hp ▸ svp_any n a k m W)
  have HL := Lib.hid (fun W => hl ▸ svl_any n a k m kn s d h da wo W hp)
  clear hp hl
  go_enter Try.func6, Try.ntmps6
  go_wp2_with fail
  refine (HV.out _).mono ?_
  rintro e w1 ⟨rfl, hb1⟩
  have hF := (Thr.new w #[.int .i64 n, .int .i64 a, .int .i64 k, .int .i64 m] #[.int .i64 kn, .int .i64 s, .int .i64 d, .int .i64 h, .int .i64 da, .int .i64 wo] #[.int .i64 0, .int .i64 0, .int .i64 0, .int .i64 0, .int .i64 0, .int .i64 0]).more hb1
  have HF := Lib.hid hF
  obtain ⟨p0, p1, p2, p3⟩ := hF.p.c4
  obtain ⟨c0, c1, c2, c3, c4, c5⟩ := hF.l.c6
  obtain ⟨r0, r1, r2, r3, r4, r5⟩ := hF.r.c6
  obtain ⟨g0, g1, g2, g3, g4, g5⟩ := hF.r.f6
  have HB := hF.b
  have hz : w.heap.size + 1 + 1 < _ := hF.z
  clear hF hb1
  go_wp2_with fail
  refine (HL.out _).mono ?_
  rintro e w2 ⟨rfl, hb2⟩
  have hF := HF.out.more hb2
  clear p0 p1 p2 p3 c0 c1 c2 c3 c4 c5 r0 r1 r2 r3 r4 r5 g0 g1 g2 g3 g4 g5 HB hz
  clear HF
  have HF := Lib.hid hF
  obtain ⟨p0, p1, p2, p3⟩ := hF.p.c4
  obtain ⟨c0, c1, c2, c3, c4, c5⟩ := hF.l.c6
  obtain ⟨r0, r1, r2, r3, r4, r5⟩ := hF.r.c6
  obtain ⟨g0, g1, g2, g3, g4, g5⟩ := hF.r.f6
  have HB := hF.b
  have hz : w.heap.size + 1 + 1 < _ := hF.z
  clear hF hb2
  go_wp2
  exact bodyPost_ret (results_row_tmp2 (p := 6) (u := 7) (v := 8) (ty := 26) rfl _ _ (w.heap.size + 1 + 1) 26 #[.int .i64 0, .int .i64 0, .int .i64 0, .int .i64 0, .int .i64 0, .int .i64 0] (0, 0) _ rfl (Blk.set6 HF.out.r _ _ _ _ _ _) Try.underlying26 rfl infoL) rfl ⟨rfl, (by repeat (first | (with_reducible exact Below.refl _ _) | (with_reducible assumption) | ((with_reducible refine Below.setCell ?_ ?_ _); rotate_left; focus (first | (simp; done) | (simp; omega))) | ((with_reducible refine Below.alloc ?_ ?_ _); rotate_left; focus (first | (with_reducible exact Nat.le_refl _) | (simp; done) | (simp; omega))) | (with_reducible refine belowD ?_ _) | (with_reducible refine belowDr ?_)))⟩

set_option maxHeartbeats 1600000 in
theorem sAO_3 (n a k m kn s d h da wo : Int) (w : World) (act : Int) (hp : vpB ⟨n, a, k, m⟩ = true) (hl : vlB ⟨n, a, k, m⟩ ⟨kn, s, d, h, da, wo⟩ = true) (r : Lk) (b1 b2 : Bool)
    (hc : ∀ W, Calls Try.prog 20 #[(.agg #[.int .i64 n, .int .i64 a, .int .i64 k, .int .i64 m]), (.agg #[.int .i64 kn, .int .i64 s, .int .i64 d, .int .i64 h, .int .i64 da, .int .i64 wo]), .int .u8 act] W fun e w' => e = .returned (.tuple #[.agg #[.int .i64 r.kn, .int .i64 r.s, .int .i64 r.d, .int .i64 r.h, .int .i64 r.da, .int .i64 r.wo], .bool b1, .bool b2]) ∧ Below W.heap.size W w') : Calls Try.prog 6 #[(.agg #[.int .i64 n, .int .i64 a, .int .i64 k, .int .i64 m]), (.agg #[.int .i64 kn, .int .i64 s, .int .i64 d, .int .i64 h, .int .i64 da, .int .i64 wo]), .int .u8 act] w fun e w' => e = .returned (.tuple #[.agg #[.int .i64 r.kn, .int .i64 r.s, .int .i64 r.d, .int .i64 r.h, .int .i64 r.da, .int .i64 r.wo], .bool b1, .bool b2]) ∧ Below w.heap.size w w' := by
  have HV := Lib.hid (fun W => hp ▸ svp_any n a k m W)
  have HL := Lib.hid (fun W => hl ▸ svl_any n a k m kn s d h da wo W hp)
  have HC := Lib.hid hc
  clear hp hl hc
  go_enter Try.func6, Try.ntmps6
  go_wp2_with fail
  refine (HV.out _).mono ?_
  rintro e w1 ⟨rfl, hb1⟩
  have hF := (Thr.new w #[.int .i64 n, .int .i64 a, .int .i64 k, .int .i64 m] #[.int .i64 kn, .int .i64 s, .int .i64 d, .int .i64 h, .int .i64 da, .int .i64 wo] #[.int .i64 0, .int .i64 0, .int .i64 0, .int .i64 0, .int .i64 0, .int .i64 0]).more hb1
  have HF := Lib.hid hF
  obtain ⟨p0, p1, p2, p3⟩ := hF.p.c4
  obtain ⟨c0, c1, c2, c3, c4, c5⟩ := hF.l.c6
  obtain ⟨r0, r1, r2, r3, r4, r5⟩ := hF.r.c6
  obtain ⟨g0, g1, g2, g3, g4, g5⟩ := hF.r.f6
  have HB := hF.b
  have hz : w.heap.size + 1 + 1 < _ := hF.z
  clear hF hb1
  go_wp2_with fail
  refine (HL.out _).mono ?_
  rintro e w2 ⟨rfl, hb2⟩
  have hF := HF.out.more hb2
  clear p0 p1 p2 p3 c0 c1 c2 c3 c4 c5 r0 r1 r2 r3 r4 r5 g0 g1 g2 g3 g4 g5 HB hz
  clear HF
  have HF := Lib.hid hF
  obtain ⟨p0, p1, p2, p3⟩ := hF.p.c4
  obtain ⟨c0, c1, c2, c3, c4, c5⟩ := hF.l.c6
  obtain ⟨r0, r1, r2, r3, r4, r5⟩ := hF.r.c6
  obtain ⟨g0, g1, g2, g3, g4, g5⟩ := hF.r.f6
  have HB := hF.b
  have hz : w.heap.size + 1 + 1 < _ := hF.z
  clear hF hb2
  go_wp2_with fail
  refine (HC.out _).mono ?_
  rintro e w3 ⟨rfl, hb3⟩
  have hF := HF.out.more hb3
  clear p0 p1 p2 p3 c0 c1 c2 c3 c4 c5 r0 r1 r2 r3 r4 r5 g0 g1 g2 g3 g4 g5 HB hz
  clear HF
  have HF := Lib.hid hF
  obtain ⟨p0, p1, p2, p3⟩ := hF.p.c4
  obtain ⟨c0, c1, c2, c3, c4, c5⟩ := hF.l.c6
  obtain ⟨r0, r1, r2, r3, r4, r5⟩ := hF.r.c6
  obtain ⟨g0, g1, g2, g3, g4, g5⟩ := hF.r.f6
  have HB := hF.b
  have hz : w.heap.size + 1 + 1 < _ := hF.z
  clear hF hb3
  go_wp2
  exact bodyPost_ret (results_row_tmp2 (p := 6) (u := 7) (v := 8) (ty := 26) rfl _ _ (w.heap.size + 1 + 1) 26 #[.int .i64 r.kn, .int .i64 r.s, .int .i64 r.d, .int .i64 r.h, .int .i64 r.da, .int .i64 r.wo] (0, 0) _ rfl (Blk.set6 HF.out.r _ _ _ _ _ _) Try.underlying26 rfl infoL) rfl ⟨rfl, (by repeat (first | (with_reducible exact Below.refl _ _) | (with_reducible assumption) | ((with_reducible refine Below.setCell ?_ ?_ _); rotate_left; focus (first | (simp; done) | (simp; omega))) | ((with_reducible refine Below.alloc ?_ ?_ _); rotate_left; focus (first | (with_reducible exact Nat.le_refl _) | (simp; done) | (simp; omega))) | (with_reducible refine belowD ?_ _) | (with_reducible refine belowDr ?_)))⟩

theorem sAO_any (n a k m kn s d h da wo : Int) (w : World) (act : Nat) (ha : act ≤ 255) : Calls Try.prog 6 #[(.agg #[.int .i64 n, .int .i64 a, .int .i64 k, .int .i64 m]), (.agg #[.int .i64 kn, .int .i64 s, .int .i64 d, .int .i64 h, .int .i64 da, .int .i64 wo]), .int .u8 (act : Int)] w fun e w' => e = .returned (.tuple #[lv (aoL ⟨n, a, k, m⟩ ⟨kn, s, d, h, da, wo⟩ act), .bool (aoM ⟨n, a, k, m⟩ ⟨kn, s, d, h, da, wo⟩ act), .bool (aoR ⟨n, a, k, m⟩ ⟨kn, s, d, h, da, wo⟩ act)]) ∧ Below w.heap.size w w' := by
  cases hp : vpB ⟨n, a, k, m⟩
  · refine calls_congr ?_ (sAO_1 n a k m kn s d h da wo w act hp)
    simp [aoL, aoM, aoR, hp, lv]
  cases hl : vlB ⟨n, a, k, m⟩ ⟨kn, s, d, h, da, wo⟩
  · refine calls_congr ?_ (sAO_2 n a k m kn s d h da wo w act hp hl)
    simp [aoL, aoM, aoR, hl, lv]
  · have hi : Inv ⟨n, a, k, m⟩ ⟨kn, s, d, h, da, wo⟩ := by
      unfold vlB at hl
      exact (of_decide_eq_true hl).1
    refine calls_congr ?_ (sAO_3 n a k m kn s d h da wo w act hp hl _ _ _ (fun W => sSP_any hp hi W act ha))
    simp [aoL, aoM, aoR, hp, hl, lv]
end Go.Proofs.Ytpjefjomihnbhaa
