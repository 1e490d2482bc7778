/-
  The walks of the laws FnExactValidPlan and FnExactNewLink: they return true at every plan. No condition.
  The walks of ActOn, the program's and the model's: they give the same. No condition but that the act is a byte.
  The walks of RunLink, the program's and the model's: they give the same. Condition: the text is one that can be.
  RunLink, the model's and the program's, and what it says of a safe plan; links compared. No condition.
-/
import Derived.Test.YtnbgfffcialfkaaLn07
import Derived.Test.YtnbgfffcialfkaaLn25
import Derived.Test.YtnbgfffcialfkaaLn24
import Derived.Deep.DeepCutAuto
import Derived.Deep.RegionHeld3
import Derived.OpenShut
import Derived.Test.YtnbgfffcialfkaaLnGa
import Derived.Test.YtnbgfffcialfkaaLn28
set_option linter.unusedSimpArgs false
set_option linter.unusedVariables false
namespace Go.Proofs.Ytnbgfffcialfkaa
open Go.RowKit
set_option linter.unusedVariables false

set_option maxHeartbeats 800000 in
theorem toPD_any (n a k m : Int) (w : World) : Calls Try.prog 11 #[(.agg #[.int .i64 n, .int .i64 a, .int .i64 k, .int .i64 m])] w fun e w' => e = .returned (.agg #[.int .i64 n, .int .i64 a, .int .i64 k, .int .i64 m]) ∧ Below w.heap.size w w' := by
  go_enter Try.func11, Try.ntmps11
  go_wp2
  exact bodyPost_ret (v := (.agg #[.int .i64 n, .int .i64 a, .int .i64 k, .int .i64 m])) (by simp [results, Try.results11, go_sem]) rfl ⟨rfl, (by repeat (first | exact Below.refl _ _ | assumption | refine Below.alloc ?_ (by first | exact Nat.le_refl _ | (simp; done) | (simp; omega)) _ | refine Below.setCell ?_ (by first | (simp; done) | (simp; omega)) _))⟩
theorem sstD_any (w : World) : Calls Try.prog 29 #[] w fun e w' => e = .returned (.agg #[.int .i64 0, .int .i64 0, .int .i64 0, .int .i64 0, .int .i64 (-1), .int .i64 (-1)]) ∧ w' = w.alloc (.cells #[.int .i64 0, .int .i64 0, .int .i64 0, .int .i64 0, .int .i64 (-1), .int .i64 (-1)] 35) := by
  go_enter Try.func29, Try.ntmps29
  go_wp2
  exact bodyPost_ret (v := .agg #[.int .i64 0, .int .i64 0, .int .i64 0, .int .i64 0, .int .i64 (-1), .int .i64 (-1)]) (by simp [results, Try.results29, go_sem]) rfl ⟨rfl, rfl⟩
theorem iNL_any (w : World) : Calls Try.prog 32 #[] w fun e w' => e = .returned (.agg #[.int .i64 0, .int .i64 0, .int .i64 0, .int .i64 0, .int .i64 (-1), .int .i64 (-1)]) ∧ w' = w.alloc (.cells #[.int .i64 0, .int .i64 0, .int .i64 0, .int .i64 0, .int .i64 (-1), .int .i64 (-1)] 35) := by
  go_enter Try.func32, Try.ntmps32
  go_wp2
  exact bodyPost_ret (v := .agg #[.int .i64 0, .int .i64 0, .int .i64 0, .int .i64 0, .int .i64 (-1), .int .i64 (-1)]) (by simp [results, Try.results32, go_sem]) rfl ⟨rfl, rfl⟩
end Go.Proofs.Ytnbgfffcialfkaa

namespace Go.Proofs.Ytnbgfffcialfkaa
open Go.RowKit
set_option linter.unusedVariables false

/-- What ActOn gives, as parts. -/
def aoL (p : Pl) (l : Lk) (act : Nat) : Lk := if vpB p = true ∧ vlB p l = true then stepL p l act else ⟨0, 0, 0, 0, 0, 0⟩
def aoM (p : Pl) (l : Lk) (act : Nat) : Bool := if vpB p = true ∧ vlB p l = true then mayF p l act else false
def aoR (p : Pl) (l : Lk) (act : Nat) : Bool := if vpB p = true ∧ vlB p l = true then stepR p l act else false

set_option maxHeartbeats 1600000 in
theorem iAO_1 (n a k m kn s d h da wo : Int) (w : World) (act : Int) (hp : vpB ⟨n, a, k, m⟩ = false) : Calls Try.prog 20 #[(.agg #[.int .i64 n, .int .i64 a, .int .i64 k, .int .i64 m]), (.agg #[.int .i64 kn, .int .i64 s, .int .i64 d, .int .i64 h, .int .i64 da, .int .i64 wo]), .int .u8 act] w fun e w' => e = .returned (.tuple #[.agg #[.int .i64 0, .int .i64 0, .int .i64 0, .int .i64 0, .int .i64 0, .int .i64 0], .bool false, .bool false]) ∧ Below w.heap.size w w' := by
  have HV := Lib.hid (fun W => hp ▸ ivp_any n a k m W)
  clear hp
  go_enter Try.func20, Try.ntmps20
  go_wp2_with fail
  refine (HV.out _).mono ?_
  rintro e w1 ⟨rfl, hb1⟩
  have hF := (Thr.new w #[.int .i64 n, .int .i64 a, .int .i64 k, .int .i64 m] #[.int .i64 kn, .int .i64 s, .int .i64 d, .int .i64 h, .int .i64 da, .int .i64 wo] #[.int .i64 0, .int .i64 0, .int .i64 0, .int .i64 0, .int .i64 0, .int .i64 0]).more hb1
  have HF := Lib.hid hF
  obtain ⟨p0, p1, p2, p3⟩ := hF.p.c4
  obtain ⟨c0, c1, c2, c3, c4, c5⟩ := hF.l.c6
  obtain ⟨r0, r1, r2, r3, r4, r5⟩ := hF.r.c6
  obtain ⟨g0, g1, g2, g3, g4, g5⟩ := hF.r.f6
  have HB := hF.b
  have hz : w.heap.size + 1 + 1 < _ := hF.z
  clear hF hb1
  go_wp2
  exact bodyPost_ret (results_row_tmp2 (p := 6) (u := 7) (v := 8) (ty := 35) rfl _ _ (w.heap.size + 1 + 1) 35 #[.int .i64 0, .int .i64 0, .int .i64 0, .int .i64 0, .int .i64 0, .int .i64 0] (0, 0) _ rfl (Blk.set6 HF.out.r _ _ _ _ _ _) Try.underlying35 rfl infoL) rfl ⟨rfl, (by repeat (first | (with_reducible exact Below.refl _ _) | (with_reducible assumption) | ((with_reducible refine Below.setCell ?_ ?_ _); rotate_left; focus (first | (simp; done) | (simp; omega))) | ((with_reducible refine Below.alloc ?_ ?_ _); rotate_left; focus (first | (with_reducible exact Nat.le_refl _) | (simp; done) | (simp; omega))) | (with_reducible refine belowD ?_ _) | (with_reducible refine belowDr ?_)))⟩

set_option maxHeartbeats 1600000 in
theorem iAO_2 (n a k m kn s d h da wo : Int) (w : World) (act : Int) (hp : vpB ⟨n, a, k, m⟩ = true) (hl : vlB ⟨n, a, k, m⟩ ⟨kn, s, d, h, da, wo⟩ = false) : Calls Try.prog 20 #[(.agg #[.int .i64 n, .int .i64 a, .int .i64 k, .int .i64 m]), (.agg #[.int .i64 kn, .int .i64 s, .int .i64 d, .int .i64 h, .int .i64 da, .int .i64 wo]), .int .u8 act] w fun e w' => e = .returned (.tuple #[.agg #[.int .i64 0, .int .i64 0, .int .i64 0, .int .i64 0, .int .i64 0, .int .i64 0], .bool false, .bool false]) ∧ Below w.heap.size w w' := by
  have HV := Lib.hid (fun W => hp ▸ ivp_any n a k m W)
  have HL := Lib.hid (fun W => hl ▸ ivl_any n a k m kn s d h da wo W hp)
  clear hp hl
  go_enter Try.func20, Try.ntmps20
  go_wp2_with fail
  refine (HV.out _).mono ?_
  rintro e w1 ⟨rfl, hb1⟩
  have hF := (Thr.new w #[.int .i64 n, .int .i64 a, .int .i64 k, .int .i64 m] #[.int .i64 kn, .int .i64 s, .int .i64 d, .int .i64 h, .int .i64 da, .int .i64 wo] #[.int .i64 0, .int .i64 0, .int .i64 0, .int .i64 0, .int .i64 0, .int .i64 0]).more hb1
  have HF := Lib.hid hF
  obtain ⟨p0, p1, p2, p3⟩ := hF.p.c4
  obtain ⟨c0, c1, c2, c3, c4, c5⟩ := hF.l.c6
  obtain ⟨r0, r1, r2, r3, r4, r5⟩ := hF.r.c6
  obtain ⟨g0, g1, g2, g3, g4, g5⟩ := hF.r.f6
  have HB := hF.b
  have hz : w.heap.size + 1 + 1 < _ := hF.z
  clear hF hb1
  go_wp2_with fail
  refine (HL.out _).mono ?_
  rintro e w2 ⟨rfl, hb2⟩
  have hF := HF.out.more hb2
  clear p0 p1 p2 p3 c0 c1 c2 c3 c4 c5 r0 r1 r2 r3 r4 r5 g0 g1 g2 g3 g4 g5 HB hz
  clear HF
  have HF := Lib.hid hF
  obtain ⟨p0, p1, p2, p3⟩ := hF.p.c4
  obtain ⟨c0, c1, c2, c3, c4, c5⟩ := hF.l.c6
  obtain ⟨r0, r1, r2, r3, r4, r5⟩ := hF.r.c6
  obtain ⟨g0, g1, g2, g3, g4, g5⟩ := hF.r.f6
  have HB := hF.b
  have hz : w.heap.size + 1 + 1 < _ := hF.z
  clear hF hb2
  go_wp2
  exact bodyPost_ret (results_row_tmp2 (p := 6) (u := 7) (v := 8) (ty := 35) rfl _ _ (w.heap.size + 1 + 1) 35 #[.int .i64 0, .int .i64 0, .int .i64 0, .int .i64 0, .int .i64 0, .int .i64 0] (0, 0) _ rfl (Blk.set6 HF.out.r _ _ _ _ _ _) Try.underlying35 rfl infoL) rfl ⟨rfl, (by repeat (first | (with_reducible exact Below.refl _ _) | (with_reducible assumption) | ((with_reducible refine Below.setCell ?_ ?_ _); rotate_left; focus (first | (simp; done) | (simp; omega))) | ((with_reducible refine Below.alloc ?_ ?_ _); rotate_left; focus (first | (with_reducible exact Nat.le_refl _) | (simp; done) | (simp; omega))) | (with_reducible refine belowD ?_ _) | (with_reducible refine belowDr ?_)))⟩

set_option maxHeartbeats 1600000 in
theorem iAO_3 (n a k m kn s d h da wo : Int) (w : World) (act : Int) (hp : vpB ⟨n, a, k, m⟩ = true) (hl : vlB ⟨n, a, k, m⟩ ⟨kn, s, d, h, da, wo⟩ = true) (r : Lk) (b1 b2 : Bool)
    (hc : ∀ W, Calls Try.prog 34 #[(.agg #[.int .i64 n, .int .i64 a, .int .i64 k, .int .i64 m]), (.agg #[.int .i64 kn, .int .i64 s, .int .i64 d, .int .i64 h, .int .i64 da, .int .i64 wo]), .int .u8 act] W fun e w' => e = .returned (.tuple #[.agg #[.int .i64 r.kn, .int .i64 r.s, .int .i64 r.d, .int .i64 r.h, .int .i64 r.da, .int .i64 r.wo], .bool b1, .bool b2]) ∧ Below W.heap.size W w') : Calls Try.prog 20 #[(.agg #[.int .i64 n, .int .i64 a, .int .i64 k, .int .i64 m]), (.agg #[.int .i64 kn, .int .i64 s, .int .i64 d, .int .i64 h, .int .i64 da, .int .i64 wo]), .int .u8 act] w fun e w' => e = .returned (.tuple #[.agg #[.int .i64 r.kn, .int .i64 r.s, .int .i64 r.d, .int .i64 r.h, .int .i64 r.da, .int .i64 r.wo], .bool b1, .bool b2]) ∧ Below w.heap.size w w' := by
  have HV := Lib.hid (fun W => hp ▸ ivp_any n a k m W)
  have HL := Lib.hid (fun W => hl ▸ ivl_any n a k m kn s d h da wo W hp)
  have HC := Lib.hid hc
  clear hp hl hc
  go_enter Try.func20, Try.ntmps20
  go_wp2_with fail
  refine (HV.out _).mono ?_
  rintro e w1 ⟨rfl, hb1⟩
  have hF := (Thr.new w #[.int .i64 n, .int .i64 a, .int .i64 k, .int .i64 m] #[.int .i64 kn, .int .i64 s, .int .i64 d, .int .i64 h, .int .i64 da, .int .i64 wo] #[.int .i64 0, .int .i64 0, .int .i64 0, .int .i64 0, .int .i64 0, .int .i64 0]).more hb1
  have HF := Lib.hid hF
  obtain ⟨p0, p1, p2, p3⟩ := hF.p.c4
  obtain ⟨c0, c1, c2, c3, c4, c5⟩ := hF.l.c6
  obtain ⟨r0, r1, r2, r3, r4, r5⟩ := hF.r.c6
  obtain ⟨g0, g1, g2, g3, g4, g5⟩ := hF.r.f6
  have HB := hF.b
  have hz : w.heap.size + 1 + 1 < _ := hF.z
  clear hF hb1
  go_wp2_with fail
  refine (HL.out _).mono ?_
  rintro e w2 ⟨rfl, hb2⟩
  have hF := HF.out.more hb2
  clear p0 p1 p2 p3 c0 c1 c2 c3 c4 c5 r0 r1 r2 r3 r4 r5 g0 g1 g2 g3 g4 g5 HB hz
  clear HF
  have HF := Lib.hid hF
  obtain ⟨p0, p1, p2, p3⟩ := hF.p.c4
  obtain ⟨c0, c1, c2, c3, c4, c5⟩ := hF.l.c6
  obtain ⟨r0, r1, r2, r3, r4, r5⟩ := hF.r.c6
  obtain ⟨g0, g1, g2, g3, g4, g5⟩ := hF.r.f6
  have HB := hF.b
  have hz : w.heap.size + 1 + 1 < _ := hF.z
  clear hF hb2
  go_wp2_with fail
  refine (HC.out _).mono ?_
  rintro e w3 ⟨rfl, hb3⟩
  have hF := HF.out.more hb3
  clear p0 p1 p2 p3 c0 c1 c2 c3 c4 c5 r0 r1 r2 r3 r4 r5 g0 g1 g2 g3 g4 g5 HB hz
  clear HF
  have HF := Lib.hid hF
  obtain ⟨p0, p1, p2, p3⟩ := hF.p.c4
  obtain ⟨c0, c1, c2, c3, c4, c5⟩ := hF.l.c6
  obtain ⟨r0, r1, r2, r3, r4, r5⟩ := hF.r.c6
  obtain ⟨g0, g1, g2, g3, g4, g5⟩ := hF.r.f6
  have HB := hF.b
  have hz : w.heap.size + 1 + 1 < _ := hF.z
  clear hF hb3
  go_wp2
  exact bodyPost_ret (results_row_tmp2 (p := 6) (u := 7) (v := 8) (ty := 35) rfl _ _ (w.heap.size + 1 + 1) 35 #[.int .i64 r.kn, .int .i64 r.s, .int .i64 r.d, .int .i64 r.h, .int .i64 r.da, .int .i64 r.wo] (0, 0) _ rfl (Blk.set6 HF.out.r _ _ _ _ _ _) Try.underlying35 rfl infoL) rfl ⟨rfl, (by repeat (first | (with_reducible exact Below.refl _ _) | (with_reducible assumption) | ((with_reducible refine Below.setCell ?_ ?_ _); rotate_left; focus (first | (simp; done) | (simp; omega))) | ((with_reducible refine Below.alloc ?_ ?_ _); rotate_left; focus (first | (with_reducible exact Nat.le_refl _) | (simp; done) | (simp; omega))) | (with_reducible refine belowD ?_ _) | (with_reducible refine belowDr ?_)))⟩

theorem iAO_any (n a k m kn s d h da wo : Int) (w : World) (act : Nat) (ha : act ≤ 255) : Calls Try.prog 20 #[(.agg #[.int .i64 n, .int .i64 a, .int .i64 k, .int .i64 m]), (.agg #[.int .i64 kn, .int .i64 s, .int .i64 d, .int .i64 h, .int .i64 da, .int .i64 wo]), .int .u8 (act : Int)] w fun e w' => e = .returned (.tuple #[lv (aoL ⟨n, a, k, m⟩ ⟨kn, s, d, h, da, wo⟩ act), .bool (aoM ⟨n, a, k, m⟩ ⟨kn, s, d, h, da, wo⟩ act), .bool (aoR ⟨n, a, k, m⟩ ⟨kn, s, d, h, da, wo⟩ act)]) ∧ Below w.heap.size w w' := by
  cases hp : vpB ⟨n, a, k, m⟩
  · refine calls_congr ?_ (iAO_1 n a k m kn s d h da wo w act hp)
    simp [aoL, aoM, aoR, hp, lv]
  cases hl : vlB ⟨n, a, k, m⟩ ⟨kn, s, d, h, da, wo⟩
  · refine calls_congr ?_ (iAO_2 n a k m kn s d h da wo w act hp hl)
    simp [aoL, aoM, aoR, hl, lv]
  · have hi : Inv ⟨n, a, k, m⟩ ⟨kn, s, d, h, da, wo⟩ := by
      unfold vlB at hl
      exact (of_decide_eq_true hl).1
    refine calls_congr ?_ (iAO_3 n a k m kn s d h da wo w act hp hl _ _ _ (fun W => ibh_any hp hi W act ha))
    simp [aoL, aoM, aoR, hp, hl, lv]

end Go.Proofs.Ytnbgfffcialfkaa

namespace Go.Proofs.Ytnbgfffcialfkaa
open Go.RowKit
set_option linter.unusedVariables false

/-- A plan, a place for what is given, and the link that stands: behind w. -/
structure RLk (w w' : World) (xs : Array Value) (G : Nat) (ys : Array Value) : Prop where
  p : Blk w' w.heap.size 25 xs
  r : Blk w' (w.heap.size + 1) 35 #[.int .i64 0, .int .i64 0, .int .i64 0, .int .i64 0, .int .i64 0, .int .i64 0]
  l : Blk w' G 35 ys
  b : Below w.heap.size w w'
  z : w.heap.size + 2 ≤ G
section
variable {w w1 w2 : World} {xs ys : Array Value} {G : Nat}
theorem RLk.more (h : RLk w w1 xs G ys) (hb : Below w1.heap.size w1 w2) : RLk w w2 xs G ys :=
  ⟨h.p.below hb h.p.lt, h.r.below hb h.r.lt, h.l.below hb h.l.lt, h.b.trans (hb.mono (by have := h.p.lt; omega)), h.z⟩
theorem RLk.drew (h : RLk w w1 xs G ys) : RLk w w1.drew xs G ys := ⟨h.p, h.r, h.l, belowDr h.b, h.z⟩
theorem RLk.alloc (h : RLk w w1 xs G ys) (o : Obj) : RLk w (w1.alloc o) xs G ys := h.more ((Below.refl _ _).alloc (Nat.le_refl _) _)
theorem RLk.moreA {o : Obj} (h : RLk w w1 xs G ys) (hb : Below (w1.alloc o).heap.size (w1.alloc o) w2) : RLk w w2 xs G ys := (h.alloc o).more hb
theorem RLk.moreAD {o : Obj} (h : RLk w w1 xs G ys) (hb : Below (w1.alloc o).drew.heap.size (w1.alloc o).drew w2) : RLk w w2 xs G ys := (h.alloc o).drew.more hb
theorem RLk.moreD (h : RLk w w1 xs G ys) (hb : Below w1.drew.heap.size w1.drew w2) : RLk w w2 xs G ys := h.drew.more hb
/-- A block of the walk's own that holds noughts. -/
structure OwnR (w w' : World) (G g : Nat) : Prop where
  k : Blk w' g 35 #[.int .i64 0, .int .i64 0, .int .i64 0, .int .i64 0, .int .i64 0, .int .i64 0]
  z : w.heap.size + 2 ≤ g
  ne : G ≠ g
theorem OwnR.new (h : RLk w w1 xs G ys) : OwnR w (w1.alloc (.cells #[.int .i64 0, .int .i64 0, .int .i64 0, .int .i64 0, .int .i64 0, .int .i64 0] 35)) G w1.heap.size :=
  ⟨Blk.new _ _ _, by have := h.l.lt; have := h.z; omega, by have := h.l.lt; omega⟩
theorem OwnR.keep {g : Nat} (h : OwnR w w1 G g) (hb : Below w1.heap.size w1 w2) : OwnR w w2 G g := ⟨h.k.below hb h.k.lt, h.z, h.ne⟩
theorem OwnR.keepNew (h : RLk w w1 xs G ys) (hb : Below (w1.alloc (.cells #[.int .i64 0, .int .i64 0, .int .i64 0, .int .i64 0, .int .i64 0, .int .i64 0] 35)).heap.size (w1.alloc (.cells #[.int .i64 0, .int .i64 0, .int .i64 0, .int .i64 0, .int .i64 0, .int .i64 0] 35)) w2) : OwnR w w2 G w1.heap.size := (OwnR.new h).keep hb
theorem OwnR.keepNewD (h : RLk w w1 xs G ys) (hb : Below (w1.alloc (.cells #[.int .i64 0, .int .i64 0, .int .i64 0, .int .i64 0, .int .i64 0, .int .i64 0] 35)).drew.heap.size (w1.alloc (.cells #[.int .i64 0, .int .i64 0, .int .i64 0, .int .i64 0, .int .i64 0, .int .i64 0] 35)).drew w2) : OwnR w w2 G w1.heap.size :=
  (⟨(OwnR.new h).k.drew, (OwnR.new h).z, (OwnR.new h).ne⟩ : OwnR w (w1.alloc (.cells #[.int .i64 0, .int .i64 0, .int .i64 0, .int .i64 0, .int .i64 0, .int .i64 0] 35)).drew G w1.heap.size).keep hb
theorem below6 {B : Nat} {g : Nat} (h : Below B w w1) (hg : B ≤ g) (a b c d e f : Value) :
    Below B w ((((((w1.setCell ⟨g, 0, none⟩ a).setCell ⟨g, 1, none⟩ b).setCell ⟨g, 2, none⟩ c).setCell ⟨g, 3, none⟩ d).setCell ⟨g, 4, none⟩ e).setCell ⟨g, 5, none⟩ f) :=
  (((((h.setCell (p := ⟨g, 0, none⟩) hg _).setCell (p := ⟨g, 1, none⟩) hg _).setCell (p := ⟨g, 2, none⟩) hg _).setCell (p := ⟨g, 3, none⟩) hg _).setCell (p := ⟨g, 4, none⟩) hg _).setCell (p := ⟨g, 5, none⟩) hg _
theorem RLk.set6 {g : Nat} (h : RLk w w1 xs G ys) (hg : OwnR w w1 G g) (a b c d e f : Value) :
    RLk w ((((((w1.setCell ⟨g, 0, none⟩ a).setCell ⟨g, 1, none⟩ b).setCell ⟨g, 2, none⟩ c).setCell ⟨g, 3, none⟩ d).setCell ⟨g, 4, none⟩ e).setCell ⟨g, 5, none⟩ f) xs G ys :=
  ⟨h.p.far6 (by have := hg.z; omega) _ _ _ _ _ _, h.r.far6 (by have := hg.z; omega) _ _ _ _ _ _, h.l.far6 hg.ne _ _ _ _ _ _, below6 h.b (by have := hg.z; omega) _ _ _ _ _ _, h.z⟩
theorem RLk.setL {x0 x1 x2 x3 x4 x5 : Value} (h : RLk w w1 xs G #[x0, x1, x2, x3, x4, x5]) (a b c d e f : Value) :
    RLk w ((((((w1.setCell ⟨G, 0, none⟩ a).setCell ⟨G, 1, none⟩ b).setCell ⟨G, 2, none⟩ c).setCell ⟨G, 3, none⟩ d).setCell ⟨G, 4, none⟩ e).setCell ⟨G, 5, none⟩ f) xs G #[a, b, c, d, e, f] :=
  ⟨h.p.far6 (by have := h.z; omega) _ _ _ _ _ _, h.r.far6 (by have := h.z; omega) _ _ _ _ _ _, Blk.set6 h.l _ _ _ _ _ _, below6 h.b (by have := h.z; omega) _ _ _ _ _ _, h.z⟩
end
theorem rlk_S {w w' : World} {n a k m : Int} {l : Lk} {G : Nat} (ht : RLk w w' #[.int .i64 n, .int .i64 a, .int .i64 k, .int .i64 m] G #[.int .i64 l.kn, .int .i64 l.s, .int .i64 l.d, .int .i64 l.h, .int .i64 l.da, .int .i64 l.wo]) : (fun w' => RLk w w' #[.int .i64 n, .int .i64 a, .int .i64 k, .int .i64 m] G #[.int .i64 l.kn, .int .i64 l.s, .int .i64 l.d, .int .i64 l.h, .int .i64 l.da, .int .i64 l.wo] ∧ w'.cell? ⟨w.heap.size, 0, none⟩ = some (.int .i64 n) ∧ w'.cell? ⟨w.heap.size, 1, none⟩ = some (.int .i64 a) ∧ w'.cell? ⟨w.heap.size, 2, none⟩ = some (.int .i64 k) ∧ w'.cell? ⟨w.heap.size, 3, none⟩ = some (.int .i64 m) ∧ w'.cell? ⟨G, 0, none⟩ = some (.int .i64 l.kn) ∧ w'.cell? ⟨G, 1, none⟩ = some (.int .i64 l.s) ∧ w'.cell? ⟨G, 2, none⟩ = some (.int .i64 l.d) ∧ w'.cell? ⟨G, 3, none⟩ = some (.int .i64 l.h) ∧ w'.cell? ⟨G, 4, none⟩ = some (.int .i64 l.da) ∧ w'.cell? ⟨G, 5, none⟩ = some (.int .i64 l.wo)) w' :=
  ⟨ht, ht.p.c4.1, ht.p.c4.2.1, ht.p.c4.2.2.1, ht.p.c4.2.2.2, ht.l.c6.1, ht.l.c6.2.1, ht.l.c6.2.2.1, ht.l.c6.2.2.2.1, ht.l.c6.2.2.2.2.1, ht.l.c6.2.2.2.2.2⟩
theorem take_sn (s : ByteArray) (k : Nat) (h : k < s.size) : s.data.toList.take (k + 1) = s.data.toList.take k ++ [s[k]] := by
  rw [List.take_succ_eq_append_getElem (by simpa using h)]; rfl
/-- What the loop keeps. -/
def RunI (p : Pl) (s : ByteArray) (i : Nat) (l : Lk) (q : Nat) : Prop := runF p (s.data.toList.take i) newL 0 = (l, q, true) ∧ Inv p l ∧ q ≤ i
theorem RunI.start (p : Pl) (s : ByteArray) (hp : vpB p = true) : RunI p s 0 newL 0 := ⟨by simp [runF], newL_inv p hp, Nat.le_refl _⟩
theorem RunI.next {p : Pl} {s : ByteArray} {i : Nat} {l : Lk} {q : Nat} (h : RunI p s i l q) (hp : vpB p = true) (hi : i < s.size) (hr : stepR p l s[i].toNat = true) :
    RunI p s (i + 1) (stepL p l s[i].toNat) (if mayF p l s[i].toNat then q + 1 else q) := by
  refine ⟨?_, step_inv p l _ hp h.2.1 hr, by have := h.2.2; split <;> omega⟩
  rw [take_sn s i hi, runF_snoc_ok p _ _ _ _ _ _ h.1]
  simp [runF, hr]
theorem RunI.bad {p : Pl} {s : ByteArray} {i : Nat} {l : Lk} {q : Nat} (h : RunI p s i l q) (hi : i < s.size) (hr : stepR p l s[i].toNat = false) :
    runF p s.data.toList newL 0 = (stepL p l s[i].toNat, q + 1, false) := by
  have e : runF p (s.data.toList.take (i + 1)) newL 0 = (stepL p l s[i].toNat, q + 1, false) := by
    rw [take_sn s i hi, runF_snoc_ok p _ _ _ _ _ _ h.1]
    simp [runF, hr]
  have := runF_bad p (s.data.toList.drop (i + 1)) _ _ _ _ _ e
  rwa [List.take_append_drop] at this
theorem RunI.end_ {p : Pl} {s : ByteArray} {i : Nat} {l : Lk} {q : Nat} (h : RunI p s i l q) (hi : ¬ i < s.size) : runF p s.data.toList newL 0 = (l, q, true) := by
  have := h.1
  rwa [List.take_of_length_le (by simp; omega)] at this

/-- A plan and a link of the program's types lie in the first two blocks behind w. -/
structure Two2 (w w' : World) (xs ys : Array Value) : Prop where
  p : Blk w' w.heap.size 25 xs
  l : Blk w' (w.heap.size + 1) 35 ys
  b : Below w.heap.size w w'
  z : w.heap.size + 2 ≤ w'.heap.size
theorem Two2.new (w : World) (xs ys : Array Value) : Two2 w ((w.alloc (.cells xs 25)).alloc (.cells ys 35)) xs ys :=
  ⟨(Blk.new w _ xs).alloc _, by have := Blk.new (w.alloc (.cells xs 25)) 35 ys; simpa using this, ((Below.refl _ _).alloc (Nat.le_refl _) _).alloc (by simp) _, by simp⟩
theorem Two2.more {w w1 w2 : World} {xs ys : Array Value} (h : Two2 w w1 xs ys) (hb : Below w1.heap.size w1 w2) : Two2 w w2 xs ys :=
  ⟨h.p.below hb (by have := h.z; omega), h.l.below hb (by have := h.z; omega), h.b.trans (hb.mono (by have := h.z; omega)), Nat.le_trans h.z hb.size⟩
theorem RLk.ofTwo {w w1 : World} {xs cs : Array Value} (h : Two2 w w1 xs #[.int .i64 0, .int .i64 0, .int .i64 0, .int .i64 0, .int .i64 0, .int .i64 0]) {o : Obj} : RLk w ((w1.alloc o).alloc (.cells cs 35)) xs (w1.heap.size + 1) cs :=
  ⟨(h.p.alloc _).alloc _, (h.l.alloc _).alloc _, by have := Blk.new (w1.alloc o) 35 cs; simpa using this, (h.b.alloc (by have := h.z; omega) _).alloc (by have := h.z; simp; omega) _, by have := h.z; omega⟩

set_option maxHeartbeats 1600000 in
theorem iRL_no (n a k m : Int) (s : ByteArray) (w : World) (hs : s.size ≤ maxLen) (hn : vpB ⟨n, a, k, m⟩ = false ∨ (vpB ⟨n, a, k, m⟩ = true ∧ 60 < s.size)) : Calls Try.prog 18 #[(.agg #[.int .i64 n, .int .i64 a, .int .i64 k, .int .i64 m]), .string s] w fun e w' => e = .returned (.tuple #[.agg #[.int .i64 0, .int .i64 0, .int .i64 0, .int .i64 0, .int .i64 0, .int .i64 0], .int .i64 (-1), .bool false]) ∧ Below w.heap.size w w' := by
  unfold maxLen at hs
  rcases hn with hp | ⟨hp, hl⟩
  all_goals
    have HV := Lib.hid (fun W => hp ▸ ivp_any n a k m W)
    clear hp
    go_enter Try.func18, Try.ntmps18
    go_wp2_with fail
    refine (HV.out _).mono ?_
    rintro e w1 ⟨rfl, hb1⟩
    have HP := (Two2.new w #[.int .i64 n, .int .i64 a, .int .i64 k, .int .i64 m] #[.int .i64 0, .int .i64 0, .int .i64 0, .int .i64 0, .int .i64 0, .int .i64 0]).more hb1
    obtain ⟨r0, r1, r2, r3, r4, r5⟩ := HP.l.c6
    obtain ⟨g0, g1, g2, g3, g4, g5⟩ := HP.l.f6
    have HB := HP.b
    have HQ := Lib.hid HP
    clear HP hb1
    go_wp2
    exact bodyPost_ret (results_row_tmp2 (p := 4) (u := 5) (v := 6) (ty := 35) rfl _ _ (w.heap.size + 1) 35 #[.int .i64 0, .int .i64 0, .int .i64 0, .int .i64 0, .int .i64 0, .int .i64 0] (0, 0) _ rfl (Blk.set6 HQ.out.l _ _ _ _ _ _) Try.underlying35 rfl infoL) rfl ⟨rfl, (by repeat (first | (with_reducible exact Below.refl _ _) | (with_reducible assumption) | ((with_reducible refine Below.setCell ?_ ?_ _); rotate_left; focus (first | (simp; done) | (simp; omega))) | ((with_reducible refine Below.alloc ?_ ?_ _); rotate_left; focus (first | (with_reducible exact Nat.le_refl _) | (simp; done) | (simp; omega))) | (with_reducible refine belowD ?_ _) | (with_reducible refine belowDr ?_)))⟩

set_option maxRecDepth 100000 in
set_option maxHeartbeats 6400000 in
theorem iRL_yes (n a k m : Int) (s : ByteArray) (w : World) (hs : s.size ≤ maxLen) (hp : vpB ⟨n, a, k, m⟩ = true) (hl : s.size ≤ 60) : Calls Try.prog 18 #[(.agg #[.int .i64 n, .int .i64 a, .int .i64 k, .int .i64 m]), .string s] w fun e w' => e = .returned (.tuple #[lv (runF ⟨n, a, k, m⟩ s.data.toList newL 0).1, .int .i64 ((runF ⟨n, a, k, m⟩ s.data.toList newL 0).2.1 : Int), .bool (runF ⟨n, a, k, m⟩ s.data.toList newL 0).2.2]) ∧ Below w.heap.size w w' := by
  unfold maxLen at hs
  generalize hR : runF ⟨n, a, k, m⟩ s.data.toList newL 0 = R
  have HR := Lib.hid hR
  have HV := Lib.hid (fun W => hp ▸ ivp_any n a k m W)
  have HP := Lib.hid hp
  clear hR hp
  go_enter Try.func18, Try.ntmps18
  go_wp2_with fail
  refine (HV.out _).mono ?_
  rintro e w1 ⟨rfl, hb1⟩
  have HT := (Two2.new w #[.int .i64 n, .int .i64 a, .int .i64 k, .int .i64 m] #[.int .i64 0, .int .i64 0, .int .i64 0, .int .i64 0, .int .i64 0, .int .i64 0]).more hb1
  obtain ⟨r0, r1, r2, r3, r4, r5⟩ := HT.l.c6
  obtain ⟨g0, g1, g2, g3, g4, g5⟩ := HT.l.f6
  have HB := HT.b
  have HQ := Lib.hid HT
  clear HT hb1
  go_wp2_with fail
  refine (iNL_any _).mono ?_
  rintro e w2 ⟨rfl, rfl⟩
  clear r0 r1 r2 r3 r4 r5 g0 g1 g2 g3 g4 g5 HB
  have HT0 := Lib.hid (show RLk w ((w1.alloc (.cells #[.int .i64 0, .int .i64 0, .int .i64 0, .int .i64 0, .int .i64 (-1), .int .i64 (-1)] 35)).alloc (.cells #[.int .i64 0, .int .i64 0, .int .i64 0, .int .i64 0, .int .i64 (-1), .int .i64 (-1)] 35)) #[.int .i64 n, .int .i64 a, .int .i64 k, .int .i64 m] (w1.heap.size + 1) #[.int .i64 newL.kn, .int .i64 newL.s, .int .i64 newL.d, .int .i64 newL.h, .int .i64 newL.da, .int .i64 newL.wo] from RLk.ofTwo HQ.out)
  go_wp2
  go_loopg [8, 25] s.size (fun g s8 si wr => ∃ (i q : Nat) (l : Lk), i ≤ s.size ∧ g = s.size - i ∧ s8 = .int .i64 q ∧ si = .int .i64 i ∧ RunI ⟨n, a, k, m⟩ s i l q ∧ RLk w wr #[.int .i64 n, .int .i64 a, .int .i64 k, .int .i64 m] (w1.heap.size + 1) #[.int .i64 l.kn, .int .i64 l.s, .int .i64 l.d, .int .i64 l.h, .int .i64 l.da, .int .i64 l.wo])
  case atStart => exact ⟨0, 0, newL, Nat.zero_le _, by omega, rfl, rfl, RunI.start _ s HP.out, HT0.out⟩
  case round =>
    obtain ⟨i, q, l, hi, hg, rfl, rfl, hI, hT⟩ := hrel
    have HI := Lib.hid hI
    have HT := Lib.hid hT
    have HG := Lib.hid hg
    have hq : q ≤ i := hI.2.2
    clear hI hT hg
    by_cases hlt : i < s.size
    · have hi0 : (0 : Int) ≤ (i : Int) := by omega
      have hi1 : (i : Int) < (s.size : Int) := by omega
      have hcn : s[i].toNat ≤ 255 := by have := s[i].toNat_lt; omega
      have HC := Lib.hid (fun W => ibh_any (n := n) (a := a) (k := k) (m := m) (kn := l.kn) (s := l.s) (d := l.d) (h := l.h) (da := l.da) (wo := l.wo) HP.out HI.out.2.1 W s[i].toNat hcn)
      unfold actV lv at HC
      have HN := Lib.hid (fun hr => HI.out.next HP.out hlt hr)
      have HX := Lib.hid (fun hr => HI.out.bad hlt hr)
      clear hcn
      generalize hst : stepL ⟨n, a, k, m⟩ l s[i].toNat = r at HC HN HX
      generalize hmt : mayF ⟨n, a, k, m⟩ l s[i].toNat = b1 at HC HN HX
      generalize hrt : stepR ⟨n, a, k, m⟩ l s[i].toNat = b2 at HC HN HX
      have HW : Hid (b2 = false → b1 = true) := Lib.hid (fun hb => by rw [← hmt]; rw [← hrt] at hb; exact may_of_wrong hb)
      clear hst hmt hrt
      go_upto_region 7 with fail
      go_cut [10, 11, 12] (fun s7 s8 s9 wx => ∃ g : Nat, s7 = .pointer (some ⟨g, 0, none⟩) ∧ s8 = .bool b1 ∧ s9 = .bool b2 ∧ Blk wx g 35 #[.int .i64 r.kn, .int .i64 r.s, .int .i64 r.d, .int .i64 r.h, .int .i64 r.da, .int .i64 r.wo] ∧ RLk w wx #[.int .i64 n, .int .i64 a, .int .i64 k, .int .i64 m] (w1.heap.size + 1) #[.int .i64 l.kn, .int .i64 l.s, .int .i64 l.d, .int .i64 l.h, .int .i64 l.da, .int .i64 l.wo])
      case first =>
        have hT' := HT.out
        go_region_held3 (fun w' => RLk w w' #[.int .i64 n, .int .i64 a, .int .i64 k, .int .i64 m] (w1.heap.size + 1) #[.int .i64 l.kn, .int .i64 l.s, .int .i64 l.d, .int .i64 l.h, .int .i64 l.da, .int .i64 l.wo] ∧ w'.cell? ⟨w.heap.size, 0, none⟩ = some (.int .i64 n) ∧ w'.cell? ⟨w.heap.size, 1, none⟩ = some (.int .i64 a) ∧ w'.cell? ⟨w.heap.size, 2, none⟩ = some (.int .i64 k) ∧ w'.cell? ⟨w.heap.size, 3, none⟩ = some (.int .i64 m) ∧ w'.cell? ⟨w1.heap.size + 1, 0, none⟩ = some (.int .i64 l.kn) ∧ w'.cell? ⟨w1.heap.size + 1, 1, none⟩ = some (.int .i64 l.s) ∧ w'.cell? ⟨w1.heap.size + 1, 2, none⟩ = some (.int .i64 l.d) ∧ w'.cell? ⟨w1.heap.size + 1, 3, none⟩ = some (.int .i64 l.h) ∧ w'.cell? ⟨w1.heap.size + 1, 4, none⟩ = some (.int .i64 l.da) ∧ w'.cell? ⟨w1.heap.size + 1, 5, none⟩ = some (.int .i64 l.wo))
          (first
            | (with_reducible exact rlk_S hT')
            | (with_reducible exact rlk_S (RLk.drew hT'))
            | (with_reducible exact rlk_S (RLk.drew (RLk.alloc hT' _)))
            | (with_reducible exact rlk_S (RLk.alloc hT' _))
            | (with_reducible exact rlk_S (RLk.set6 hT' hO _ _ _ _ _ _))
            | fail)
          (first
            | (go_at_call 34; ((with_reducible refine (HC.out _).mono ?_); rintro e w' ⟨rfl, hbb⟩); (first | (with_reducible have hO := OwnR.keepNew hT' hbb) | (with_reducible have hO := OwnR.keepNewD hT' hbb) | (with_reducible have hO := OwnR.keep hO hbb) | skip); (first | (with_reducible have hT' := RLk.more hT' hbb) | (with_reducible have hT' := RLk.moreA hT' hbb) | (with_reducible have hT' := RLk.moreD hT' hbb) | (with_reducible have hT' := RLk.moreAD hT' hbb)); try (obtain ⟨o0, o1, o2, o3, o4, o5⟩ := hO.k.c6; obtain ⟨z0, z1, z2, z3, z4, z5⟩ := hO.k.f6)))
        all_goals
          go_wp2_with fail
          go_meet
          refine ⟨_, rfl, rfl, rfl, ?_, ?_⟩
          · first | (with_reducible exact Blk.set6 hO.k _ _ _ _ _ _) | (with_reducible exact Blk.drew (Blk.set6 hO.k _ _ _ _ _ _)) | (with_reducible exact Blk.new _ _ _) | (with_reducible exact Blk.drew (Blk.new _ _ _)) | fail
          · first | (with_reducible exact RLk.set6 hT' hO _ _ _ _ _ _) | (with_reducible exact RLk.drew (RLk.set6 hT' hO _ _ _ _ _ _)) | (with_reducible exact RLk.alloc hT' _) | (with_reducible exact RLk.drew (RLk.alloc hT' _)) | fail
      case rest =>
        obtain ⟨g, rfl, rfl, rfl, hB, hT⟩ := hcut
        obtain ⟨x0, x1, x2, x3, x4, x5⟩ := hB.c6
        obtain ⟨p0, p1, p2, p3⟩ := hT.p.c4
        obtain ⟨c0, c1, c2, c3, c4, c5⟩ := hT.l.c6
        obtain ⟨f0, f1, f2, f3, f4, f5⟩ := hT.l.f6
        obtain ⟨r0, r1, r2, r3, r4, r5⟩ := hT.r.c6
        obtain ⟨g0, g1, g2, g3, g4, g5⟩ := hT.r.f6
        have HB := hT.b
        have hz := hT.z
        have hGl := hT.l.lt
        have HT2 := Lib.hid hT
        clear hB hT
        cases b2
        · have hb1 := HW.out rfl
          subst hb1
          have HE := Lib.hid (HX.out rfl)
          clear HX HN
          go_wp2
          exact bodyPost_ret (results_row_tmp2 (p := 4) (u := 5) (v := 6) (ty := 35) rfl _ _ (w.heap.size + 1) 35 #[.int .i64 r.kn, .int .i64 r.s, .int .i64 r.d, .int .i64 r.h, .int .i64 r.da, .int .i64 r.wo] (0, 0) _ rfl (Blk.set6 (RLk.setL HT2.out _ _ _ _ _ _).r _ _ _ _ _ _) Try.underlying35 rfl infoL) rfl ⟨by rw [← HR.out, HE.out]; simp [lv], (by repeat (first | (with_reducible exact Below.refl _ _) | (with_reducible assumption) | ((with_reducible refine Below.setCell ?_ ?_ _); rotate_left; focus (first | (simp; done) | (simp; omega))) | ((with_reducible refine Below.alloc ?_ ?_ _); rotate_left; focus (first | (with_reducible exact Nat.le_refl _) | (simp; done) | (simp; omega))) | (with_reducible refine belowD ?_ _) | (with_reducible refine belowDr ?_)))⟩

        · have HN' := Lib.hid (HN.out rfl)
          clear HX HN
          cases b1
          · go_wp2
            go_roundg (s.size - (i + 1))
            case measure => have := HG.out; omega
            case rel => exact ⟨i + 1, q, r, by omega, rfl, rfl, by go_num, by simpa using HN'.out, RLk.setL HT2.out _ _ _ _ _ _⟩
          · go_wp2
            go_roundg (s.size - (i + 1))
            case measure => have := HG.out; omega
            case rel => exact ⟨i + 1, q + 1, r, by omega, rfl, by go_num, by go_num, by simpa using HN'.out, RLk.setL HT2.out _ _ _ _ _ _⟩
    · have HE := Lib.hid (HI.out.end_ hlt)
      have hT := HT.out
      obtain ⟨p0, p1, p2, p3⟩ := hT.p.c4
      obtain ⟨c0, c1, c2, c3, c4, c5⟩ := hT.l.c6
      obtain ⟨f0, f1, f2, f3, f4, f5⟩ := hT.l.f6
      obtain ⟨r0, r1, r2, r3, r4, r5⟩ := hT.r.c6
      obtain ⟨g0, g1, g2, g3, g4, g5⟩ := hT.r.f6
      have HB := hT.b
      have hz := hT.z
      have hGl := hT.l.lt
      clear hT
      go_wp2
      exact bodyPost_ret (results_row_tmp2 (p := 4) (u := 5) (v := 6) (ty := 35) rfl _ _ (w.heap.size + 1) 35 #[.int .i64 l.kn, .int .i64 l.s, .int .i64 l.d, .int .i64 l.h, .int .i64 l.da, .int .i64 l.wo] (0, 0) _ rfl (Blk.set6 HT.out.r _ _ _ _ _ _) Try.underlying35 rfl infoL) rfl ⟨by rw [← HR.out, HE.out]; rfl, (by repeat (first | (with_reducible exact Below.refl _ _) | (with_reducible assumption) | ((with_reducible refine Below.setCell ?_ ?_ _); rotate_left; focus (first | (simp; done) | (simp; omega))) | ((with_reducible refine Below.alloc ?_ ?_ _); rotate_left; focus (first | (with_reducible exact Nat.le_refl _) | (simp; done) | (simp; omega))) | (with_reducible refine belowD ?_ _) | (with_reducible refine belowDr ?_)))⟩


set_option maxHeartbeats 1600000 in
theorem sRL_no (n a k m : Int) (s : ByteArray) (w : World) (hs : s.size ≤ maxLen) (hn : vpB ⟨n, a, k, m⟩ = false ∨ (vpB ⟨n, a, k, m⟩ = true ∧ 60 < s.size)) : Calls Try.prog 19 #[(.agg #[.int .i64 n, .int .i64 a, .int .i64 k, .int .i64 m]), .string s] w fun e w' => e = .returned (.tuple #[.agg #[.int .i64 0, .int .i64 0, .int .i64 0, .int .i64 0, .int .i64 0, .int .i64 0], .int .i64 (-1), .bool false]) ∧ Below w.heap.size w w' := by
  unfold maxLen at hs
  rcases hn with hp | ⟨hp, hl⟩
  all_goals
    have HV := Lib.hid (fun W => hp ▸ svp_any n a k m W)
    clear hp
    go_enter Try.func19, Try.ntmps19
    go_wp2_with fail
    refine (HV.out _).mono ?_
    rintro e w1 ⟨rfl, hb1⟩
    have HP := (Two2.new w #[.int .i64 n, .int .i64 a, .int .i64 k, .int .i64 m] #[.int .i64 0, .int .i64 0, .int .i64 0, .int .i64 0, .int .i64 0, .int .i64 0]).more hb1
    obtain ⟨r0, r1, r2, r3, r4, r5⟩ := HP.l.c6
    obtain ⟨g0, g1, g2, g3, g4, g5⟩ := HP.l.f6
    have HB := HP.b
    have HQ := Lib.hid HP
    clear HP hb1
    go_wp2
    exact bodyPost_ret (results_row_tmp2 (p := 4) (u := 5) (v := 6) (ty := 35) rfl _ _ (w.heap.size + 1) 35 #[.int .i64 0, .int .i64 0, .int .i64 0, .int .i64 0, .int .i64 0, .int .i64 0] (0, 0) _ rfl (Blk.set6 HQ.out.l _ _ _ _ _ _) Try.underlying35 rfl infoL) rfl ⟨rfl, (by repeat (first | (with_reducible exact Below.refl _ _) | (with_reducible assumption) | ((with_reducible refine Below.setCell ?_ ?_ _); rotate_left; focus (first | (simp; done) | (simp; omega))) | ((with_reducible refine Below.alloc ?_ ?_ _); rotate_left; focus (first | (with_reducible exact Nat.le_refl _) | (simp; done) | (simp; omega))) | (with_reducible refine belowD ?_ _) | (with_reducible refine belowDr ?_)))⟩

set_option maxRecDepth 100000 in
set_option maxHeartbeats 6400000 in
theorem sRL_yes (n a k m : Int) (s : ByteArray) (w : World) (hs : s.size ≤ maxLen) (hp : vpB ⟨n, a, k, m⟩ = true) (hl : s.size ≤ 60) : Calls Try.prog 19 #[(.agg #[.int .i64 n, .int .i64 a, .int .i64 k, .int .i64 m]), .string s] w fun e w' => e = .returned (.tuple #[lv (runF ⟨n, a, k, m⟩ s.data.toList newL 0).1, .int .i64 ((runF ⟨n, a, k, m⟩ s.data.toList newL 0).2.1 : Int), .bool (runF ⟨n, a, k, m⟩ s.data.toList newL 0).2.2]) ∧ Below w.heap.size w w' := by
  unfold maxLen at hs
  generalize hR : runF ⟨n, a, k, m⟩ s.data.toList newL 0 = R
  have HR := Lib.hid hR
  have HV := Lib.hid (fun W => hp ▸ svp_any n a k m W)
  have HP := Lib.hid hp
  clear hR hp
  go_enter Try.func19, Try.ntmps19
  go_wp2_with fail
  refine (HV.out _).mono ?_
  rintro e w1 ⟨rfl, hb1⟩
  have HT := (Two2.new w #[.int .i64 n, .int .i64 a, .int .i64 k, .int .i64 m] #[.int .i64 0, .int .i64 0, .int .i64 0, .int .i64 0, .int .i64 0, .int .i64 0]).more hb1
  obtain ⟨r0, r1, r2, r3, r4, r5⟩ := HT.l.c6
  obtain ⟨g0, g1, g2, g3, g4, g5⟩ := HT.l.f6
  have HB := HT.b
  have HQ := Lib.hid HT
  clear HT hb1
  go_wp2_with fail
  refine (sstD_any _).mono ?_
  rintro e w2 ⟨rfl, rfl⟩
  clear r0 r1 r2 r3 r4 r5 g0 g1 g2 g3 g4 g5 HB
  have HT0 := Lib.hid (show RLk w ((w1.alloc (.cells #[.int .i64 0, .int .i64 0, .int .i64 0, .int .i64 0, .int .i64 (-1), .int .i64 (-1)] 35)).alloc (.cells #[.int .i64 0, .int .i64 0, .int .i64 0, .int .i64 0, .int .i64 (-1), .int .i64 (-1)] 35)) #[.int .i64 n, .int .i64 a, .int .i64 k, .int .i64 m] (w1.heap.size + 1) #[.int .i64 newL.kn, .int .i64 newL.s, .int .i64 newL.d, .int .i64 newL.h, .int .i64 newL.da, .int .i64 newL.wo] from RLk.ofTwo HQ.out)
  go_wp2
  go_loopg [8, 9] s.size (fun g s8 si wr => ∃ (i q : Nat) (l : Lk), i ≤ s.size ∧ g = s.size - i ∧ s8 = .int .i64 q ∧ si = .int .i64 i ∧ RunI ⟨n, a, k, m⟩ s i l q ∧ RLk w wr #[.int .i64 n, .int .i64 a, .int .i64 k, .int .i64 m] (w1.heap.size + 1) #[.int .i64 l.kn, .int .i64 l.s, .int .i64 l.d, .int .i64 l.h, .int .i64 l.da, .int .i64 l.wo])
  case atStart => exact ⟨0, 0, newL, Nat.zero_le _, by omega, rfl, rfl, RunI.start _ s HP.out, HT0.out⟩
  case round =>
    obtain ⟨i, q, l, hi, hg, rfl, rfl, hI, hT⟩ := hrel
    have HI := Lib.hid hI
    have HT := Lib.hid hT
    have HG := Lib.hid hg
    have hq : q ≤ i := hI.2.2
    clear hI hT hg
    by_cases hlt : i < s.size
    · have hi0 : (0 : Int) ≤ (i : Int) := by omega
      have hi1 : (i : Int) < (s.size : Int) := by omega
      have hcn : s[i].toNat ≤ 255 := by have := s[i].toNat_lt; omega
      have HC := Lib.hid (fun W => sSP_any (n := n) (a := a) (k := k) (m := m) (kn := l.kn) (s := l.s) (d := l.d) (h := l.h) (da := l.da) (wo := l.wo) HP.out HI.out.2.1 W s[i].toNat hcn)
      unfold actV lv at HC
      have HN := Lib.hid (fun hr => HI.out.next HP.out hlt hr)
      have HX := Lib.hid (fun hr => HI.out.bad hlt hr)
      clear hcn
      generalize hst : stepL ⟨n, a, k, m⟩ l s[i].toNat = r at HC HN HX
      generalize hmt : mayF ⟨n, a, k, m⟩ l s[i].toNat = b1 at HC HN HX
      generalize hrt : stepR ⟨n, a, k, m⟩ l s[i].toNat = b2 at HC HN HX
      have HW : Hid (b2 = false → b1 = true) := Lib.hid (fun hb => by rw [← hmt]; rw [← hrt] at hb; exact may_of_wrong hb)
      clear hst hmt hrt
      go_upto_region 8 with fail
      go_cut [10, 11, 12] (fun s7 s8 s9 wx => ∃ g : Nat, s7 = .pointer (some ⟨g, 0, none⟩) ∧ s8 = .bool b1 ∧ s9 = .bool b2 ∧ Blk wx g 35 #[.int .i64 r.kn, .int .i64 r.s, .int .i64 r.d, .int .i64 r.h, .int .i64 r.da, .int .i64 r.wo] ∧ RLk w wx #[.int .i64 n, .int .i64 a, .int .i64 k, .int .i64 m] (w1.heap.size + 1) #[.int .i64 l.kn, .int .i64 l.s, .int .i64 l.d, .int .i64 l.h, .int .i64 l.da, .int .i64 l.wo])
      case first =>
        have hT' := HT.out
        go_region_held3 (fun w' => RLk w w' #[.int .i64 n, .int .i64 a, .int .i64 k, .int .i64 m] (w1.heap.size + 1) #[.int .i64 l.kn, .int .i64 l.s, .int .i64 l.d, .int .i64 l.h, .int .i64 l.da, .int .i64 l.wo] ∧ w'.cell? ⟨w.heap.size, 0, none⟩ = some (.int .i64 n) ∧ w'.cell? ⟨w.heap.size, 1, none⟩ = some (.int .i64 a) ∧ w'.cell? ⟨w.heap.size, 2, none⟩ = some (.int .i64 k) ∧ w'.cell? ⟨w.heap.size, 3, none⟩ = some (.int .i64 m) ∧ w'.cell? ⟨w1.heap.size + 1, 0, none⟩ = some (.int .i64 l.kn) ∧ w'.cell? ⟨w1.heap.size + 1, 1, none⟩ = some (.int .i64 l.s) ∧ w'.cell? ⟨w1.heap.size + 1, 2, none⟩ = some (.int .i64 l.d) ∧ w'.cell? ⟨w1.heap.size + 1, 3, none⟩ = some (.int .i64 l.h) ∧ w'.cell? ⟨w1.heap.size + 1, 4, none⟩ = some (.int .i64 l.da) ∧ w'.cell? ⟨w1.heap.size + 1, 5, none⟩ = some (.int .i64 l.wo))
          (first
            | (with_reducible exact rlk_S hT')
            | (with_reducible exact rlk_S (RLk.drew hT'))
            | (with_reducible exact rlk_S (RLk.drew (RLk.alloc hT' _)))
            | (with_reducible exact rlk_S (RLk.alloc hT' _))
            | (with_reducible exact rlk_S (RLk.set6 hT' hO _ _ _ _ _ _))
            | fail)
          (first
            | (go_at_call 30; ((with_reducible refine (HC.out _).mono ?_); rintro e w' ⟨rfl, hbb⟩); (first | (with_reducible have hO := OwnR.keepNew hT' hbb) | (with_reducible have hO := OwnR.keepNewD hT' hbb) | (with_reducible have hO := OwnR.keep hO hbb) | skip); (first | (with_reducible have hT' := RLk.more hT' hbb) | (with_reducible have hT' := RLk.moreA hT' hbb) | (with_reducible have hT' := RLk.moreD hT' hbb) | (with_reducible have hT' := RLk.moreAD hT' hbb)); try (obtain ⟨o0, o1, o2, o3, o4, o5⟩ := hO.k.c6; obtain ⟨z0, z1, z2, z3, z4, z5⟩ := hO.k.f6)))
        all_goals
          go_wp2_with fail
          go_meet
          refine ⟨_, rfl, rfl, rfl, ?_, ?_⟩
          · first | (with_reducible exact Blk.set6 hO.k _ _ _ _ _ _) | (with_reducible exact Blk.drew (Blk.set6 hO.k _ _ _ _ _ _)) | (with_reducible exact Blk.new _ _ _) | (with_reducible exact Blk.drew (Blk.new _ _ _)) | fail
          · first | (with_reducible exact RLk.set6 hT' hO _ _ _ _ _ _) | (with_reducible exact RLk.drew (RLk.set6 hT' hO _ _ _ _ _ _)) | (with_reducible exact RLk.alloc hT' _) | (with_reducible exact RLk.drew (RLk.alloc hT' _)) | fail
      case rest =>
        obtain ⟨g, rfl, rfl, rfl, hB, hT⟩ := hcut
        obtain ⟨x0, x1, x2, x3, x4, x5⟩ := hB.c6
        obtain ⟨p0, p1, p2, p3⟩ := hT.p.c4
        obtain ⟨c0, c1, c2, c3, c4, c5⟩ := hT.l.c6
        obtain ⟨f0, f1, f2, f3, f4, f5⟩ := hT.l.f6
        obtain ⟨r0, r1, r2, r3, r4, r5⟩ := hT.r.c6
        obtain ⟨g0, g1, g2, g3, g4, g5⟩ := hT.r.f6
        have HB := hT.b
        have hz := hT.z
        have hGl := hT.l.lt
        have HT2 := Lib.hid hT
        clear hB hT
        cases b2
        · have hb1 := HW.out rfl
          subst hb1
          have HE := Lib.hid (HX.out rfl)
          clear HX HN
          go_wp2
          exact bodyPost_ret (results_row_tmp2 (p := 4) (u := 5) (v := 6) (ty := 35) rfl _ _ (w.heap.size + 1) 35 #[.int .i64 r.kn, .int .i64 r.s, .int .i64 r.d, .int .i64 r.h, .int .i64 r.da, .int .i64 r.wo] (0, 0) _ rfl (Blk.set6 (RLk.setL HT2.out _ _ _ _ _ _).r _ _ _ _ _ _) Try.underlying35 rfl infoL) rfl ⟨by rw [← HR.out, HE.out]; simp [lv], (by repeat (first | (with_reducible exact Below.refl _ _) | (with_reducible assumption) | ((with_reducible refine Below.setCell ?_ ?_ _); rotate_left; focus (first | (simp; done) | (simp; omega))) | ((with_reducible refine Below.alloc ?_ ?_ _); rotate_left; focus (first | (with_reducible exact Nat.le_refl _) | (simp; done) | (simp; omega))) | (with_reducible refine belowD ?_ _) | (with_reducible refine belowDr ?_)))⟩

        · have HN' := Lib.hid (HN.out rfl)
          clear HX HN
          cases b1
          · go_wp2
            go_roundg (s.size - (i + 1))
            case measure => have := HG.out; omega
            case rel => exact ⟨i + 1, q, r, by omega, rfl, rfl, by go_num, by simpa using HN'.out, RLk.setL HT2.out _ _ _ _ _ _⟩
          · go_wp2
            go_roundg (s.size - (i + 1))
            case measure => have := HG.out; omega
            case rel => exact ⟨i + 1, q + 1, r, by omega, rfl, by go_num, by go_num, by simpa using HN'.out, RLk.setL HT2.out _ _ _ _ _ _⟩
    · have HE := Lib.hid (HI.out.end_ hlt)
      have hT := HT.out
      obtain ⟨p0, p1, p2, p3⟩ := hT.p.c4
      obtain ⟨c0, c1, c2, c3, c4, c5⟩ := hT.l.c6
      obtain ⟨f0, f1, f2, f3, f4, f5⟩ := hT.l.f6
      obtain ⟨r0, r1, r2, r3, r4, r5⟩ := hT.r.c6
      obtain ⟨g0, g1, g2, g3, g4, g5⟩ := hT.r.f6
      have HB := hT.b
      have hz := hT.z
      have hGl := hT.l.lt
      clear hT
      go_wp2
      exact bodyPost_ret (results_row_tmp2 (p := 4) (u := 5) (v := 6) (ty := 35) rfl _ _ (w.heap.size + 1) 35 #[.int .i64 l.kn, .int .i64 l.s, .int .i64 l.d, .int .i64 l.h, .int .i64 l.da, .int .i64 l.wo] (0, 0) _ rfl (Blk.set6 HT.out.r _ _ _ _ _ _) Try.underlying35 rfl infoL) rfl ⟨by rw [← HR.out, HE.out]; rfl, (by repeat (first | (with_reducible exact Below.refl _ _) | (with_reducible assumption) | ((with_reducible refine Below.setCell ?_ ?_ _); rotate_left; focus (first | (simp; done) | (simp; omega))) | ((with_reducible refine Below.alloc ?_ ?_ _); rotate_left; focus (first | (with_reducible exact Nat.le_refl _) | (simp; done) | (simp; omega))) | (with_reducible refine belowD ?_ _) | (with_reducible refine belowDr ?_)))⟩

end Go.Proofs.Ytnbgfffcialfkaa

namespace Go.Proofs.Ytnbgfffcialfkaa
open Go Go.Conc Go.RowKit
set_option linter.unusedVariables false

/-! ### what is run stays safe -/
theorem act_else {p : Pl} {l : Lk} (hp : vpB p = true) (hi : Inv p l) {c : Nat} (hc : ¬ (c : Int) ∈ actsL) : stepL p l c = l ∧ stepR p l c = true ∧ mayF p l c = false := by
  have hm : mayF p l c = false := by
    have hc' : ¬ c = 115 ∧ ¬ c = 100 ∧ ¬ c = 120 ∧ ¬ c = 97 ∧ ¬ c = 121 ∧ ¬ c = 48 ∧ ¬ c = 49 ∧ ¬ c = 50 ∧ ¬ c = 51 := by
      simp [actsL] at hc
      omega
    have hb : p.a ≤ 4 := by simp [vpB] at hp; omega
    obtain ⟨i1, i2, i3, i4, i5, i6, i7, i8, i9, i10, i11, i12, i13, i14⟩ := hi
    unfold mayF
    rw [if_neg (by omega)]
    by_cases h : 48 ≤ c ∧ c ≤ 57
    · rw [if_pos h]
      simp
      omega
    · rw [if_neg h, if_neg (by omega), if_neg (by omega)]
  exact ⟨by unfold stepL; rw [hm]; rfl, by unfold stepR; rw [hm]; rfl, hm⟩
theorem step_safe {p : Pl} {l : Lk} (hp : vpB p = true) (hs : minS p + p.k ≤ p.n) (h : SafeI p l) (c : Nat) : SafeI p (stepL p l c) ∧ stepR p l c = true := by
  by_cases hc : (c : Int) ∈ actsL
  · have hb := behF_step p l c h.inv hc
    have ha := h.act hp hs hc
    rw [hb] at ha
    refine ⟨ha, ?_⟩
    cases hr : stepR p l c with
    | true => rfl
    | false =>
      have h2 : (behF p l (c : Int)).2 = false := by rw [hb]; exact hr
      have := beh_wrong h2
      rw [this] at h2
      have h3 := h.right hp hs
      rw [takR_beh, h2] at h3
      cases h3
  · obtain ⟨e1, e2, _⟩ := act_else hp h.inv hc
    rw [e1]
    exact ⟨h, e2⟩
theorem runF_safe {p : Pl} (hp : vpB p = true) (hs : minS p + p.k ≤ p.n) : ∀ (cs : List UInt8) (l : Lk) (n : Nat), SafeI p l → (runF p cs l n).2.2 = true ∧ SafeI p (runF p cs l n).1
  | [], l, n, h => ⟨rfl, h⟩
  | c :: cs, l, n, h => by
    have h1 := step_safe hp hs h c.toNat
    unfold runF
    rw [if_pos h1.2]
    exact runF_safe hp hs cs _ _ h1.1
theorem runF_le {p : Pl} : ∀ (cs : List UInt8) (l : Lk) (n : Nat), (runF p cs l n).2.1 ≤ n + cs.length
  | [], l, n => by simp [runF]
  | c :: cs, l, n => by
    unfold runF
    split
    · have := runF_le (p := p) cs (stepL p l c.toNat) (if mayF p l c.toNat then n + 1 else n)
      have h2 : (if mayF p l c.toNat then n + 1 else n) ≤ n + 1 := by split <;> omega
      simp only [List.length_cons]
      omega
    · simp
theorem rl_said (n a k m : Int) (t : ByteArray) (ht : t.size ≤ 90) : ∃ (L : Lk) (N : Int) (b : Bool),
    (∀ w, Calls Try.prog 18 #[.agg #[.int .i64 n, .int .i64 a, .int .i64 k, .int .i64 m], .string t] w fun e w' => e = .returned (.tuple #[.agg #[.int .i64 L.kn, .int .i64 L.s, .int .i64 L.d, .int .i64 L.h, .int .i64 L.da, .int .i64 L.wo], .int .i64 N, .bool b]) ∧ Below w.heap.size w w') ∧
    (∀ w, Calls Try.prog 19 #[.agg #[.int .i64 n, .int .i64 a, .int .i64 k, .int .i64 m], .string t] w fun e w' => e = .returned (.tuple #[.agg #[.int .i64 L.kn, .int .i64 L.s, .int .i64 L.d, .int .i64 L.h, .int .i64 L.da, .int .i64 L.wo], .int .i64 N, .bool b]) ∧ Below w.heap.size w w') ∧
    (N < 0 ∨ 0 ≤ N ∧ N ≤ t.size ∧ vpB ⟨n, a, k, m⟩ = true ∧ (minS ⟨n, a, k, m⟩ + k ≤ n → b = true ∧ SafeI ⟨n, a, k, m⟩ L)) := by
  have hm : t.size ≤ maxLen := by unfold maxLen; omega
  by_cases h : vpB ⟨n, a, k, m⟩ = false ∨ (vpB ⟨n, a, k, m⟩ = true ∧ 60 < t.size)
  · exact ⟨⟨0, 0, 0, 0, 0, 0⟩, -1, false, fun w => iRL_no n a k m t w hm h, fun w => sRL_no n a k m t w hm h, .inl (by decide)⟩
  · have hp : vpB ⟨n, a, k, m⟩ = true := by
      cases hv : vpB ⟨n, a, k, m⟩ with
      | true => rfl
      | false => exact absurd (.inl hv) h
    have h60 : t.size ≤ 60 := by
      refine Nat.le_of_not_lt fun h2 => h (.inr ⟨hp, h2⟩)
    refine ⟨(runF ⟨n, a, k, m⟩ t.data.toList newL 0).1, ((runF ⟨n, a, k, m⟩ t.data.toList newL 0).2.1 : Int), (runF ⟨n, a, k, m⟩ t.data.toList newL 0).2.2, fun w => iRL_yes n a k m t w hm hp h60, fun w => sRL_yes n a k m t w hm hp h60, .inr ⟨by omega, ?_, hp, fun hs => runF_safe hp hs _ _ _ (.new hp)⟩⟩
    have := runF_le (p := ⟨n, a, k, m⟩) t.data.toList newL 0
    have e : t.data.toList.length = t.size := by simp
    omega
/-- What ActOn says of a link of a safe plan at an act that is none. -/
theorem ao_fine {n a k m : Int} {L : Lk} (hp : vpB ⟨n, a, k, m⟩ = true) (h : SafeI ⟨n, a, k, m⟩ L) : aoR ⟨n, a, k, m⟩ L 122 = true := by
  have hv : vlB ⟨n, a, k, m⟩ L = true := by unfold vlB; exact decide_eq_true ⟨h.inv, h.kd⟩
  unfold aoR
  rw [if_pos ⟨hp, hv⟩]
  exact (act_else hp h.inv (by decide)).2.1
theorem ao_said {n a k m : Int} {L : Lk} (hp : vpB ⟨n, a, k, m⟩ = true) (h : SafeI ⟨n, a, k, m⟩ L) : ∃ (X : Lk) (b : Bool), ∀ w, Calls Try.prog 20 #[.agg #[.int .i64 n, .int .i64 a, .int .i64 k, .int .i64 m], .agg #[.int .i64 L.kn, .int .i64 L.s, .int .i64 L.d, .int .i64 L.h, .int .i64 L.da, .int .i64 L.wo], .int .u8 122] w fun e w' => e = .returned (.tuple #[lv X, .bool b, .bool true]) ∧ Below w.heap.size w w' :=
  ⟨_, _, fun w => calls_congr (by rw [ao_fine hp h]) (iAO_any n a k m L.kn L.s L.d L.h L.da L.wo w 122 (by omega))⟩
section
variable {Low : Nat} {c : Option Nat} {O0 O : OwnP} {a : Act} {w0 w : World} {o : Oper} {L : List (Nat × Obj)} {x y : Operand}
theorem eqb_links (r l : Lk) (W : World) : (binOp .eql 35 (.agg #[.int .i64 r.kn, .int .i64 r.s, .int .i64 r.d, .int .i64 r.h, .int .i64 r.da, .int .i64 r.wo]) (.agg #[.int .i64 l.kn, .int .i64 l.s, .int .i64 l.d, .int .i64 l.h, .int .i64 l.da, .int .i64 l.wo])).run Try.prog W = .ok (.bool (decide (r = l))) W := by
  obtain ⟨x0, x1, x2, x3, x4, x5⟩ := r
  obtain ⟨y0, y1, y2, y3, y4, y5⟩ := l
  simp only
  go_simp
  by_cases h0 : x0 = y0
  · by_cases h1 : x1 = y1
    · by_cases h2 : x2 = y2
      · by_cases h3 : x3 = y3
        · by_cases h4 : x4 = y4
          · by_cases h5 : x5 = y5
            · simp [h0, h1, h2, h3, h4, h5]
            · simp [h0, h1, h2, h3, h4, h5]
          · simp [h0, h1, h2, h3, h4]
        · simp [h0, h1, h2, h3]
      · simp [h0, h1, h2]
    · simp [h0, h1]
  · simp [h0]
theorem rd_eqLb {r l : Lk} {b : Bool} {t' : TypeId} (hop : o.op = .binOp .eql 35 x y t') (hx : a.eval x = .agg #[.int .i64 r.kn, .int .i64 r.s, .int .i64 r.d, .int .i64 r.h, .int .i64 r.da, .int .i64 r.wo]) (hy : a.eval y = .agg #[.int .i64 l.kn, .int .i64 l.s, .int .i64 l.d, .int .i64 l.h, .int .i64 l.da, .int .i64 l.wo]) (hb : decide (r = l) = b) : Rd Low c O0 w0 L a o (.bool b) := rd_pure fun w => by
  subst hb
  have h35 : Try.prog.eqGuardType Try.prog.depth 35 = false := by kernel_rfl
  have hg : ∀ (xs ys : Array Value), Still Try.prog (fun _ => True) (eqGuard .eql 35 x y (.agg xs) (.agg ys)) := fun xs ys => by
    unfold eqGuard
    dsimp only
    refine still_bind (L := fun p => p = Try.prog) (e := program) rfl fun p hp => ?_
    subst hp
    refine still_bind (L := fun p => p = Try.prog) (e := program) rfl fun p hp => ?_
    subst hp
    rw [h35]
    exact trivial
  have hr : ∀ (xs ys : Array Value), (eqGuard .eql 35 x y (.agg xs) (.agg ys)).run Try.prog w = .ok () w := fun xs ys => by
    exact run_eqGuard_agg _ _ _ _ _ _ _ h35
  unfold execOp
  rw [hop]
  simp only [hx, hy]
  constructor
  · have := eqb_links r l w
    simp only [Sem.run_bind, hr, Result.andThen_ok, this]
    rfl
  · refine still_events (P := Try.prog) (L := fun _ => True) ?_ w #[]
    refine still_bind (L := fun _ => True) (still_bind (L := fun _ => True) (hg _ _) fun _ _ => ?_) fun _ _ => ?_
    rotate_left
    · exact trivial
    have hf : ∀ (k s d h da wo : Int), Flat (.agg #[.int .i64 k, .int .i64 s, .int .i64 d, .int .i64 h, .int .i64 da, .int .i64 wo]) := fun k s d h da wo => .inr ⟨_, rfl, fun x hx => by
      simp at hx
      rcases hx with rfl | rfl | rfl | rfl | rfl | rfl <;> exact ⟨_, _, rfl⟩⟩
    exact still_bind (L := fun _ => True) (L' := fun _ => True) (e := Op.equal _ _ _) (f := fun b => pure (Value.bool b)) (still_equalIn _ _ _ _ (hf _ _ _ _ _ _) (hf _ _ _ _ _ _)) fun _ _ => trivial
end
end Go.Proofs.Ytnbgfffcialfkaa
