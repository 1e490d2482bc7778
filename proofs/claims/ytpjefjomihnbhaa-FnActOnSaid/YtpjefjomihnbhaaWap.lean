/-
  The walk of what draws a plan. Conditions: where the reader lies, and the bounds that are typed.
-/
import Derived.Test.YtpjefjomihnbhaaWnr
import Derived.Test.YtpjefjomihnbhaaWvp
namespace Go.Proofs.Ytpjefjomihnbhaa
open Go.RowKit
set_option linter.unusedVariables false

theorem Blk.picked {w : World} {k g p m : Nat} {t : TypeId} {cs : Array Value} (h : Blk w k t cs) (hk : k ≠ g) : Blk (picked w g p m) k t cs := (picked_other w g p m k hk).trans h
/-- Two blocks of the call's own, the second one a plan: behind draws. -/
structure Pln (B : Nat) (w w' : World) (g p : Nat) (xs : Array Value) : Prop where
  r : Blk w' w.heap.size 24 #[.int .i64 0, .int .i64 0, .int .i64 0, .int .i64 0]
  q : ∃ G, Blk w' G 24 xs
  d : Rd B w' g p
  b : Below B w w'
/-- What is drawn so far, ahead of the plan. -/
structure Dr (B : Nat) (w w' : World) (g p : Nat) : Prop where
  r : Blk w' w.heap.size 24 #[.int .i64 0, .int .i64 0, .int .i64 0, .int .i64 0]
  d : Rd B w' g p
  b : Below B w w'
  ne : w.heap.size ≠ g
theorem Dr.z {B g p : Nat} {w w' : World} (h : Dr B w w' g p) : w.heap.size < w'.heap.size := h.r.lt
theorem Dr.start {B g p : Nat} {w : World} (h : Rd B w g p) : Dr B w (w.alloc (.cells #[.int .i64 0, .int .i64 0, .int .i64 0, .int .i64 0] 24)) g p :=
  ⟨Blk.new _ _ _, h.alloc _, (Below.refl _ _).alloc (by have := h.lt; have := h.1; omega) _, by have := h.lt; omega⟩
theorem Dr.alloc {B g p : Nat} {w w' : World} (h : Dr B w w' g p) (o : Obj) : Dr B w (w'.alloc o) g p :=
  ⟨h.r.alloc _, h.d.alloc _, h.b.alloc (by have := h.d.lt; have := h.d.1; omega) _, h.ne⟩
theorem Dr.picked {B g p : Nat} {w w' : World} (h : Dr B w w' g p) (m : Nat) : Dr B w (picked w' g p m) g (p + 1) :=
  ⟨h.r.picked h.ne, h.d.picked m, h.b.trans (picked_below h.d m), h.ne⟩
/-- What draws a plan leaves. -/
def ApPost (B : Nat) (w : World) (g p : Nat) (e : Ending) (w' : World) : Prop :=
  ∃ (n a k m : Int) (p' : Nat), e = .returned (.agg #[.int .i64 n, .int .i64 a, .int .i64 k, .int .i64 m]) ∧ (0 ≤ n ∧ n ≤ 10 ∧ 0 ≤ a ∧ a ≤ 10 ∧ 0 ≤ k ∧ k ≤ 10 ∧ 0 ≤ m ∧ m ≤ 10) ∧ Rd B w' g p' ∧ p' ≤ p + 20 ∧ Below B w w'

theorem mem_bd {x : Int} {xs : List Int} (h : x ∈ xs) (lo hi : Int) (hl : xs.all (fun y => decide (lo ≤ y ∧ y ≤ hi)) = true) : lo ≤ x ∧ x ≤ hi := by
  have := List.all_eq_true.1 hl x h
  simpa using this
theorem infoP : (Try.prog.info? 24).map (·.size) = some 4 := by kernel_rfl
theorem Blk.set4 {w : World} {g : Nat} {t : TypeId} {x0 x1 x2 x3 : Value} (h : Blk w g t #[x0, x1, x2, x3]) (a b c d : Value) :
    Blk ((((w.setCell ⟨g, 0, none⟩ a).setCell ⟨g, 1, none⟩ b).setCell ⟨g, 2, none⟩ c).setCell ⟨g, 3, none⟩ d) g t #[a, b, c, d] := by
  have := (((h.set_ 0 a).set_ 1 b).set_ 2 c).set_ 3 d
  simpa using this
theorem Blk.f4 {w : World} {g : Nat} {t : TypeId} {cs : Array Value} (h : Blk w g t cs) :
    w.frozen? ⟨g, 0, none⟩ = false ∧ w.frozen? ⟨g, 1, none⟩ = false ∧ w.frozen? ⟨g, 2, none⟩ = false ∧ w.frozen? ⟨g, 3, none⟩ = false :=
  ⟨h.frozen 0, h.frozen 1, h.frozen 2, h.frozen 3⟩

/-- What is drawn, with the plan in a block of its own. -/
structure Dp (B : Nat) (w w' : World) (g p G : Nat) (xs : Array Value) : Prop where
  d : Dr B w w' g p
  q : Blk w' G 24 xs
  ne : G ≠ g
  nw : w.heap.size ≠ G
  hB : B ≤ G
theorem Dp.picked {B g p G : Nat} {w w' : World} {xs : Array Value} (h : Dp B w w' g p G xs) (m : Nat) : Dp B w (picked w' g p m) g (p + 1) G xs :=
  ⟨h.d.picked m, h.q.picked h.ne, h.ne, h.nw, h.hB⟩
theorem Dp.alloc {B g p G : Nat} {w w' : World} {xs : Array Value} (h : Dp B w w' g p G xs) (o : Obj) : Dp B w (w'.alloc o) g p G xs := ⟨h.d.alloc o, h.q.alloc o, h.ne, h.nw, h.hB⟩
theorem Dp.new {B g p : Nat} {w w' : World} {xs : Array Value} (h : Dr B w w' g p) : Dp B w (w'.alloc (.cells xs 24)) g p w'.heap.size xs :=
  ⟨h.alloc _, Blk.new _ _ _, by have := h.d.lt; omega, by have := h.z; omega, by have := h.d.lt; have := h.d.1; omega⟩
theorem Dp.set_ {B g p G : Nat} {w w' : World} {xs : Array Value} (h : Dp B w w' g p G xs) (i : Nat) (u : Value) : Dp B w (w'.setCell ⟨G, i, none⟩ u) g p G (xs.setIfInBounds i u) :=
  ⟨⟨h.d.r.far (p := ⟨G, i, none⟩) (by simpa using h.nw) u, h.d.d.keep ((Below.refl B w').setCell (p := ⟨G, i, none⟩) h.hB u) (Below.heap_setCell w' ⟨G, i, none⟩ u g (fun e => h.ne e.symm)), h.d.b.setCell (p := ⟨G, i, none⟩) h.hB u, h.d.ne⟩, h.q.set_ i u, h.ne, h.nw, h.hB⟩
/-- The end of what draws a plan. -/
theorem ap_end {B g p G : Nat} {w w' : World} {n a k m : Int} (h : Dp B w w' g p G #[.int .i64 n, .int .i64 a, .int .i64 k, .int .i64 m]) (hBw : B ≤ w.heap.size) (hgw : g < w.heap.size) :
    Blk ((((w'.setCell ⟨w.heap.size, 0, none⟩ (.int .i64 n)).setCell ⟨w.heap.size, 1, none⟩ (.int .i64 a)).setCell ⟨w.heap.size, 2, none⟩ (.int .i64 k)).setCell ⟨w.heap.size, 3, none⟩ (.int .i64 m)) w.heap.size 24 #[.int .i64 n, .int .i64 a, .int .i64 k, .int .i64 m] ∧
    Rd B ((((w'.setCell ⟨w.heap.size, 0, none⟩ (.int .i64 n)).setCell ⟨w.heap.size, 1, none⟩ (.int .i64 a)).setCell ⟨w.heap.size, 2, none⟩ (.int .i64 k)).setCell ⟨w.heap.size, 3, none⟩ (.int .i64 m)) g p ∧
    Below B w ((((w'.setCell ⟨w.heap.size, 0, none⟩ (.int .i64 n)).setCell ⟨w.heap.size, 1, none⟩ (.int .i64 a)).setCell ⟨w.heap.size, 2, none⟩ (.int .i64 k)).setCell ⟨w.heap.size, 3, none⟩ (.int .i64 m)) := by
  have hb4 := ((((Below.refl w.heap.size w').setCell (p := ⟨w.heap.size, 0, none⟩) (Nat.le_refl _) (.int .i64 n)).setCell (p := ⟨w.heap.size, 1, none⟩) (Nat.le_refl _) (.int .i64 a)).setCell (p := ⟨w.heap.size, 2, none⟩) (Nat.le_refl _) (.int .i64 k)).setCell (p := ⟨w.heap.size, 3, none⟩) (Nat.le_refl _) (.int .i64 m)
  exact ⟨Blk.set4 h.d.r _ _ _ _, h.d.d.keep (hb4.mono hBw) (hb4.block g hgw), h.d.b.trans (hb4.mono hBw)⟩

set_option maxHeartbeats 6400000 in
theorem ap_any {B : Nat} {w : World} {g p : Nat} (h : Rd B w g p) (hp : p ≤ 900000) : Calls Try.prog 8 #[.pointer (some ⟨g, 0, none⟩)] w (ApPost B w g p) := by
  have hgl := h.lt
  have hBg := h.1
  have H0 := Lib.hid (Dr.start h)
  have HG := Lib.hid hgl
  have HBW := Lib.hid (show B ≤ w.heap.size by omega)
  clear h
  go_enter Try.func8, Try.ntmps8
  go_wp2_with fail
  refine (pick_any H0.out.d (by omega) 3 (by omega) (by omega)).mono ?_
  rintro e x1 ⟨rn, mm, rfl, hrn, hw⟩
  have K1 := Lib.hid (show Dr B w x1 g (p + 1) by rw [hw]; exact H0.out.picked mm)
  clear hw
  have zz := K1.out.d.lt
  go_wp2_with fail
  refine (one_any (K1.out.alloc _).d (by omega) x1.heap.size 6 6 [1, 2, 1, 3, 2, 4] rfl (by omega) (by omega) (by omega) (new_ints x1 [1, 2, 1, 3, 2, 4] _)).mono ?_
  rintro e x2 ⟨a, mm, rfl, hmem, hw⟩
  have K2 := Lib.hid (show Dr B w x2 g (p + 1 + 1) by rw [hw]; exact (K1.out.alloc _).picked mm)
  have ba := mem_bd hmem 1 5 (by decide)
  clear hw hmem zz
  have zz := K2.out.d.lt
  go_wp2_with fail
  refine (one_any (K2.out.alloc _).d (by omega) x2.heap.size 7 7 [1, 1, 2, 1, 3, 2, 4] rfl (by omega) (by omega) (by omega) (new_ints x2 [1, 1, 2, 1, 3, 2, 4] _)).mono ?_
  rintro e x3 ⟨k, mm, rfl, hmem, hw⟩
  have K3 := Lib.hid (show Dr B w x3 g (p + 1 + 1 + 1) by rw [hw]; exact (K2.out.alloc _).picked mm)
  have bk := mem_bd hmem 1 5 (by decide)
  clear hw hmem zz
  have zz := K3.out.d.lt
  go_wp2_with fail
  refine (one_any (K3.out.alloc _).d (by omega) x3.heap.size 5 5 [3, 4, 2, 5, 1] rfl (by omega) (by omega) (by omega) (new_ints x3 [3, 4, 2, 5, 1] _)).mono ?_
  rintro e x4 ⟨m, mm, rfl, hmem, hw⟩
  have K4 := Lib.hid (show Dr B w x4 g (p + 1 + 1 + 1 + 1) by rw [hw]; exact (K3.out.alloc _).picked mm)
  have bm := mem_bd hmem 1 5 (by decide)
  clear hw hmem zz
  have KP := Lib.hid (Dp.new (xs := #[.int .i64 (2 + (rn : Int)), .int .i64 a, .int .i64 k, .int .i64 m]) K4.out)
  obtain ⟨G, hG⟩ : ∃ G, G = x4.heap.size := ⟨_, rfl⟩
  have HGE := Lib.hid hG
  clear hG
  go_wp2_with fail
  refine (pick_any KP.out.d.d (by omega) 3 (by omega) (by omega)).mono ?_
  rintro e x5 ⟨rc, mm, rfl, hrc, hw⟩
  have K5 := Lib.hid (show Dp B w x5 g (p + 1 + 1 + 1 + 1 + 1) x4.heap.size #[.int .i64 (2 + (rn : Int)), .int .i64 a, .int .i64 k, .int .i64 m] by rw [hw]; exact KP.out.picked mm)
  clear hw
  by_cases hrc0 : 0 < rc
  · have hrci : (0 : Int) < (rc : Int) := by omega
    obtain ⟨u0, u1, u2, u3⟩ := K5.out.q.c4
    obtain ⟨t0, t1, t2, t3⟩ := K5.out.q.f4
    go_wp2_with fail
    refine (pick_any K5.out.d.d (by omega) (2 + (rn : Int) - 1) (by omega) (by omega)).mono ?_
    rintro e x6 ⟨ra, mm, rfl, hra, hw⟩
    have K6 := Lib.hid (show Dp B w x6 g (p + 1 + 1 + 1 + 1 + 1 + 1) x4.heap.size #[.int .i64 (2 + (rn : Int)), .int .i64 a, .int .i64 k, .int .i64 m] by rw [hw]; exact K5.out.picked mm)
    clear hw
    clear u0 u1 u2 u3 t0 t1 t2 t3
    obtain ⟨u0, u1, u2, u3⟩ := K6.out.q.c4
    obtain ⟨t0, t1, t2, t3⟩ := K6.out.q.f4
    have KB := Lib.hid (show Dp B w (x6.setCell ⟨x4.heap.size, 1, none⟩ (.int .i64 (1 + (ra : Int)))) g (p + 1 + 1 + 1 + 1 + 1 + 1) x4.heap.size #[.int .i64 (2 + (rn : Int)), .int .i64 (1 + (ra : Int)), .int .i64 k, .int .i64 m] from K6.out.set_ 1 _)
    go_wp2_with fail
    refine (pick_any KB.out.d.d (by omega) (2 + (rn : Int) - (1 + (ra : Int))) (by omega) (by omega)).mono ?_
    rintro e x7 ⟨rk, mm, rfl, hrk, hw⟩
    have K7 := Lib.hid (show Dp B w x7 g (p + 1 + 1 + 1 + 1 + 1 + 1 + 1) x4.heap.size #[.int .i64 (2 + (rn : Int)), .int .i64 (1 + (ra : Int)), .int .i64 k, .int .i64 m] by rw [hw]; exact KB.out.picked mm)
    clear hw
    clear u0 u1 u2 u3 t0 t1 t2 t3
    obtain ⟨u0, u1, u2, u3⟩ := K7.out.q.c4
    obtain ⟨t0, t1, t2, t3⟩ := K7.out.q.f4
    have KC := Lib.hid (show Dp B w (x7.setCell ⟨x4.heap.size, 2, none⟩ (.int .i64 (1 + (rk : Int)))) g (p + 1 + 1 + 1 + 1 + 1 + 1 + 1) x4.heap.size #[.int .i64 (2 + (rn : Int)), .int .i64 (1 + (ra : Int)), .int .i64 (1 + (rk : Int)), .int .i64 m] from K7.out.set_ 2 _)
    go_wp2_with fail
    refine (pick_any KC.out.d.d (by omega) 24 (by omega) (by omega)).mono ?_
    rintro e x8 ⟨rs, mm, rfl, hrs, hw⟩
    have K8 := Lib.hid (show Dp B w x8 g (p + 1 + 1 + 1 + 1 + 1 + 1 + 1 + 1) x4.heap.size #[.int .i64 (2 + (rn : Int)), .int .i64 (1 + (ra : Int)), .int .i64 (1 + (rk : Int)), .int .i64 m] by rw [hw]; exact KC.out.picked mm)
    clear hw
    rcases (show rs = 0 ∨ rs = 1 ∨ 2 ≤ rs from by omega) with rfl | rfl | h2
    · have zz := K8.out.d.d.lt
      go_wp2_with fail
      refine (one_any (K8.out.alloc _).d.d (by omega) x8.heap.size 2 2 [1, 5] rfl (by omega) (by omega) (by omega) (new_ints x8 [1, 5] _)).mono ?_
      rintro e x9 ⟨nx, mm, rfl, hmem, hw⟩
      have K9 := Lib.hid (show Dp B w x9 g (p + 1 + 1 + 1 + 1 + 1 + 1 + 1 + 1 + 1) x4.heap.size #[.int .i64 (2 + (rn : Int)), .int .i64 (1 + (ra : Int)), .int .i64 (1 + (rk : Int)), .int .i64 m] by rw [hw]; exact (K8.out.alloc _).picked mm)
      have bnx := mem_bd hmem 1 5 (by decide)
      clear hw hmem zz
      obtain ⟨u0, u1, u2, u3⟩ := K9.out.q.c4
      obtain ⟨t0, t1, t2, t3⟩ := K9.out.q.f4
      have KF := Lib.hid (show Dp B w (x9.setCell ⟨x4.heap.size, 0, none⟩ (.int .i64 nx)) g (p + 1 + 1 + 1 + 1 + 1 + 1 + 1 + 1 + 1) x4.heap.size #[.int .i64 nx, .int .i64 (1 + (ra : Int)), .int .i64 (1 + (rk : Int)), .int .i64 m] from K9.out.set_ 0 _)
      obtain ⟨r0, r1, r2, r3⟩ := K9.out.d.r.c4
      obtain ⟨g0, g1, g2, g3⟩ := K9.out.d.r.f4
      have hn1 : ¬ w.heap.size = x4.heap.size := K9.out.nw
      have hn2 : ¬ x4.heap.size = w.heap.size := fun e => hn1 e.symm
      go_wp2
      have HEND := ap_end KF.out HBW.out HG.out
      exact bodyPost_ret (results_cell_row (p := 2) (ty := 24) rfl _ _ w.heap.size 24 #[.int .i64 nx, .int .i64 (1 + (ra : Int)), .int .i64 (1 + (rk : Int)), .int .i64 m] (0, 0) _ rfl HEND.1 Try.underlying24 rfl infoP) rfl ⟨nx, (1 + (ra : Int)), (1 + (rk : Int)), m, p + 1 + 1 + 1 + 1 + 1 + 1 + 1 + 1 + 1, rfl, by omega, HEND.2.1, by omega, HEND.2.2⟩
    · have zz := K8.out.d.d.lt
      go_wp2_with fail
      refine (one_any (K8.out.alloc _).d.d (by omega) x8.heap.size 2 2 [0, 6] rfl (by omega) (by omega) (by omega) (new_ints x8 [0, 6] _)).mono ?_
      rintro e x10 ⟨nx, mm, rfl, hmem, hw⟩
      have K10 := Lib.hid (show Dp B w x10 g (p + 1 + 1 + 1 + 1 + 1 + 1 + 1 + 1 + 1) x4.heap.size #[.int .i64 (2 + (rn : Int)), .int .i64 (1 + (ra : Int)), .int .i64 (1 + (rk : Int)), .int .i64 m] by rw [hw]; exact (K8.out.alloc _).picked mm)
      have bnx := mem_bd hmem 0 6 (by decide)
      clear hw hmem zz
      obtain ⟨u0, u1, u2, u3⟩ := K10.out.q.c4
      obtain ⟨t0, t1, t2, t3⟩ := K10.out.q.f4
      have KF := Lib.hid (show Dp B w (x10.setCell ⟨x4.heap.size, 3, none⟩ (.int .i64 nx)) g (p + 1 + 1 + 1 + 1 + 1 + 1 + 1 + 1 + 1) x4.heap.size #[.int .i64 (2 + (rn : Int)), .int .i64 (1 + (ra : Int)), .int .i64 (1 + (rk : Int)), .int .i64 nx] from K10.out.set_ 3 _)
      obtain ⟨r0, r1, r2, r3⟩ := K10.out.d.r.c4
      obtain ⟨g0, g1, g2, g3⟩ := K10.out.d.r.f4
      have hn1 : ¬ w.heap.size = x4.heap.size := K10.out.nw
      have hn2 : ¬ x4.heap.size = w.heap.size := fun e => hn1 e.symm
      go_wp2
      have HEND := ap_end KF.out HBW.out HG.out
      exact bodyPost_ret (results_cell_row (p := 2) (ty := 24) rfl _ _ w.heap.size 24 #[.int .i64 (2 + (rn : Int)), .int .i64 (1 + (ra : Int)), .int .i64 (1 + (rk : Int)), .int .i64 nx] (0, 0) _ rfl HEND.1 Try.underlying24 rfl infoP) rfl ⟨(2 + (rn : Int)), (1 + (ra : Int)), (1 + (rk : Int)), nx, p + 1 + 1 + 1 + 1 + 1 + 1 + 1 + 1 + 1, rfl, by omega, HEND.2.1, by omega, HEND.2.2⟩
    · have e0 : ((rs : Int) == 0) = false := by simp; omega
      have e1 : ((rs : Int) == 1) = false := by simp; omega
      obtain ⟨u0, u1, u2, u3⟩ := K8.out.q.c4
      obtain ⟨r0, r1, r2, r3⟩ := K8.out.d.r.c4
      obtain ⟨g0, g1, g2, g3⟩ := K8.out.d.r.f4
      go_wp2
      have HEND := ap_end K8.out HBW.out HG.out
      exact bodyPost_ret (results_cell_row (p := 2) (ty := 24) rfl _ _ w.heap.size 24 #[.int .i64 (2 + (rn : Int)), .int .i64 (1 + (ra : Int)), .int .i64 (1 + (rk : Int)), .int .i64 m] (0, 0) _ rfl HEND.1 Try.underlying24 rfl infoP) rfl ⟨(2 + (rn : Int)), (1 + (ra : Int)), (1 + (rk : Int)), m, p + 1 + 1 + 1 + 1 + 1 + 1 + 1 + 1, rfl, by omega, HEND.2.1, by omega, HEND.2.2⟩
  · obtain rfl : rc = 0 := by omega
    go_wp2_with fail
    refine (pick_any K5.out.d.d (by omega) 24 (by omega) (by omega)).mono ?_
    rintro e x11 ⟨rs, mm, rfl, hrs, hw⟩
    have K11 := Lib.hid (show Dp B w x11 g (p + 1 + 1 + 1 + 1 + 1 + 1) x4.heap.size #[.int .i64 (2 + (rn : Int)), .int .i64 a, .int .i64 k, .int .i64 m] by rw [hw]; exact K5.out.picked mm)
    clear hw
    rcases (show rs = 0 ∨ rs = 1 ∨ 2 ≤ rs from by omega) with rfl | rfl | h2
    · have zz := K11.out.d.d.lt
      go_wp2_with fail
      refine (one_any (K11.out.alloc _).d.d (by omega) x11.heap.size 2 2 [1, 5] rfl (by omega) (by omega) (by omega) (new_ints x11 [1, 5] _)).mono ?_
      rintro e x12 ⟨nx, mm, rfl, hmem, hw⟩
      have K12 := Lib.hid (show Dp B w x12 g (p + 1 + 1 + 1 + 1 + 1 + 1 + 1) x4.heap.size #[.int .i64 (2 + (rn : Int)), .int .i64 a, .int .i64 k, .int .i64 m] by rw [hw]; exact (K11.out.alloc _).picked mm)
      have bnx := mem_bd hmem 1 5 (by decide)
      clear hw hmem zz
      obtain ⟨u0, u1, u2, u3⟩ := K12.out.q.c4
      obtain ⟨t0, t1, t2, t3⟩ := K12.out.q.f4
      have KF := Lib.hid (show Dp B w (x12.setCell ⟨x4.heap.size, 0, none⟩ (.int .i64 nx)) g (p + 1 + 1 + 1 + 1 + 1 + 1 + 1) x4.heap.size #[.int .i64 nx, .int .i64 a, .int .i64 k, .int .i64 m] from K12.out.set_ 0 _)
      obtain ⟨r0, r1, r2, r3⟩ := K12.out.d.r.c4
      obtain ⟨g0, g1, g2, g3⟩ := K12.out.d.r.f4
      have hn1 : ¬ w.heap.size = x4.heap.size := K12.out.nw
      have hn2 : ¬ x4.heap.size = w.heap.size := fun e => hn1 e.symm
      go_wp2
      have HEND := ap_end KF.out HBW.out HG.out
      exact bodyPost_ret (results_cell_row (p := 2) (ty := 24) rfl _ _ w.heap.size 24 #[.int .i64 nx, .int .i64 a, .int .i64 k, .int .i64 m] (0, 0) _ rfl HEND.1 Try.underlying24 rfl infoP) rfl ⟨nx, a, k, m, p + 1 + 1 + 1 + 1 + 1 + 1 + 1, rfl, by omega, HEND.2.1, by omega, HEND.2.2⟩
    · have zz := K11.out.d.d.lt
      go_wp2_with fail
      refine (one_any (K11.out.alloc _).d.d (by omega) x11.heap.size 2 2 [0, 6] rfl (by omega) (by omega) (by omega) (new_ints x11 [0, 6] _)).mono ?_
      rintro e x13 ⟨nx, mm, rfl, hmem, hw⟩
      have K13 := Lib.hid (show Dp B w x13 g (p + 1 + 1 + 1 + 1 + 1 + 1 + 1) x4.heap.size #[.int .i64 (2 + (rn : Int)), .int .i64 a, .int .i64 k, .int .i64 m] by rw [hw]; exact (K11.out.alloc _).picked mm)
      have bnx := mem_bd hmem 0 6 (by decide)
      clear hw hmem zz
      obtain ⟨u0, u1, u2, u3⟩ := K13.out.q.c4
      obtain ⟨t0, t1, t2, t3⟩ := K13.out.q.f4
      have KF := Lib.hid (show Dp B w (x13.setCell ⟨x4.heap.size, 3, none⟩ (.int .i64 nx)) g (p + 1 + 1 + 1 + 1 + 1 + 1 + 1) x4.heap.size #[.int .i64 (2 + (rn : Int)), .int .i64 a, .int .i64 k, .int .i64 nx] from K13.out.set_ 3 _)
      obtain ⟨r0, r1, r2, r3⟩ := K13.out.d.r.c4
      obtain ⟨g0, g1, g2, g3⟩ := K13.out.d.r.f4
      have hn1 : ¬ w.heap.size = x4.heap.size := K13.out.nw
      have hn2 : ¬ x4.heap.size = w.heap.size := fun e => hn1 e.symm
      go_wp2
      have HEND := ap_end KF.out HBW.out HG.out
      exact bodyPost_ret (results_cell_row (p := 2) (ty := 24) rfl _ _ w.heap.size 24 #[.int .i64 (2 + (rn : Int)), .int .i64 a, .int .i64 k, .int .i64 nx] (0, 0) _ rfl HEND.1 Try.underlying24 rfl infoP) rfl ⟨(2 + (rn : Int)), a, k, nx, p + 1 + 1 + 1 + 1 + 1 + 1 + 1, rfl, by omega, HEND.2.1, by omega, HEND.2.2⟩
    · have e0 : ((rs : Int) == 0) = false := by simp; omega
      have e1 : ((rs : Int) == 1) = false := by simp; omega
      obtain ⟨u0, u1, u2, u3⟩ := K11.out.q.c4
      obtain ⟨r0, r1, r2, r3⟩ := K11.out.d.r.c4
      obtain ⟨g0, g1, g2, g3⟩ := K11.out.d.r.f4
      go_wp2
      have HEND := ap_end K11.out HBW.out HG.out
      exact bodyPost_ret (results_cell_row (p := 2) (ty := 24) rfl _ _ w.heap.size 24 #[.int .i64 (2 + (rn : Int)), .int .i64 a, .int .i64 k, .int .i64 m] (0, 0) _ rfl HEND.1 Try.underlying24 rfl infoP) rfl ⟨(2 + (rn : Int)), a, k, m, p + 1 + 1 + 1 + 1 + 1 + 1, rfl, by omega, HEND.2.1, by omega, HEND.2.2⟩

theorem isRow_alloc {k : IntKind} {w : World} {a : Option Addr} {len cap : Nat} {zs : List Int} (h : IsRow k w a len cap zs) (o : Obj) : IsRow k (w.alloc o) a len cap zs := by
  rcases h with h | ⟨x, rfl, h1, h2, h3, h4, h5⟩
  · exact .inl h
  · exact .inr ⟨x, rfl, h1, h2, h3, fun i hi => by rw [World.cell?_alloc_lt _ _ _ (World.block_lt_of_cell? w _ (h4 i hi))]; exact h4 i hi, h5⟩
/-- What draws the argument of ValidPlan leaves. -/
def DvPost (w : World) (e : Ending) (w' : World) : Prop :=
  ∃ (n a k m : Int), e = .returned (.agg #[.int .i64 n, .int .i64 a, .int .i64 k, .int .i64 m]) ∧ (0 ≤ n ∧ n ≤ 10 ∧ 0 ≤ a ∧ a ≤ 10 ∧ 0 ≤ k ∧ k ≤ 10 ∧ 0 ≤ m ∧ m ≤ 10) ∧ Below w.heap.size w w'
end Go.Proofs.Ytpjefjomihnbhaa
