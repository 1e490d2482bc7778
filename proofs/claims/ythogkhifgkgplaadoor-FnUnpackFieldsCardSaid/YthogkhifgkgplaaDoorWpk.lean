/-
  The walks of the functions that pack fields. Conditions: where the lists lie, and the lengths that are typed.
-/
import Derived.Test.YthogkhifgkgplaaDoorFlm
import Derived.Test.YthogkhifgkgplaaDoorWct
import Derived.Deep.RegionWith
namespace Go.Proofs.YthogkhifgkgplaaDoor
open Go.RowKit
set_option linter.unusedVariables false

theorem goR_tag {f : Fd} (h : vfB f = true) : goR f.t = gr f.t.toNat ∧ goR (f.b.length : Int) = gr f.b.length := by
  obtain ⟨h1, h2, _⟩ := vf_parts h
  unfold goR
  rw [if_pos (btw_mk ⟨by omega, by omega⟩), if_pos (btw_mk ⟨by omega, by omega⟩), Int.toNat_natCast]
  exact ⟨rfl, rfl⟩
theorem new3L (w : World) (u1 u2 u3 : Value) (l1 l2 l3 : List Int) (h1 : Rds w u1 l1) (h2 : Rds w u2 l2) (h3 : Rds w u3 l3) (p1 : Proper u1) (p2 : Proper u2) (p3 : Proper u3) :
    RdsL (w.alloc (.cells #[u1, u2, u3] 22)) (.slice (some ⟨w.heap.size, 0, none⟩) 3 3) [l1, l2, l3] := by
  have hb : Below w.heap.size w (w.alloc (.cells #[u1, u2, u3] 22)) := (Below.refl _ _).alloc (Nat.le_refl _) _
  refine ⟨_, 3, rfl, fun _ => ⟨w.heap.size, 0, rfl, by simp, fun j hj => ?_⟩⟩
  have hj3 : j < 3 := hj
  rcases (show j = 0 ∨ j = 1 ∨ j = 2 from by omega) with rfl | rfl | rfl
  · exact ⟨u1, cell_of_row _ _ 0 _ _ (0, 0) (heap_alloc_new w _), h1.more8 hb, p1⟩
  · exact ⟨u2, cell_of_row _ _ 1 _ _ (0, 0) (heap_alloc_new w _), h2.more8 hb, p2⟩
  · exact ⟨u3, cell_of_row _ _ 2 _ _ (0, 0) (heap_alloc_new w _), h3.more8 hb, p3⟩

set_option maxHeartbeats 3200000 in
theorem pkd_any (f : Fd) (u : Value) (w : World) (h : Rds w u f.b) (hp : Proper u) (hv : vfB f = true) :
    Calls Tryd.prog 30 #[.agg #[.int .i64 f.t, u]] w (RowPost (pk1 f) w) := by
  obtain ⟨hv1, hv2, _⟩ := vf_parts hv
  obtain ⟨e1, e2⟩ := goR_tag hv
  have hb0 := (Below.refl w.heap.size w).alloc (Nat.le_refl _) (.cells #[.int .i64 f.t, u] 55)
  obtain ⟨c0, c1⟩ := two_blk (Blk.new w 55 #[.int .i64 f.t, u]).drew
  have HK := Lib.hid (Blk.new w 55 #[.int .i64 f.t, u])
  have HB := Lib.hid hb0
  have hr := h.more8 hb0
  have HG1 := Lib.hid (fun W => grs_any f.t W)
  have HG2 := Lib.hid (fun W => iGO_any (f.b.length : Int) W)
  rw [e1] at HG1
  rw [e2] at HG2
  have HPK : Hid (pk1 f = gr f.t.toNat ++ (gr f.b.length ++ f.b)) := Lib.hid rfl
  have l1 := gr_len3 (n := f.t.toNat) (by omega)
  have l2 := gr_len3 (n := f.b.length) (by omega)
  have HU := Lib.hid hr
  have HPU := Lib.hid hp
  have hz : w.heap.size < (w.alloc (.cells #[.int .i64 f.t, u] 55)).heap.size := by simp
  obtain ⟨Au, cu, rfl, _⟩ := h
  generalize gr f.t.toNat = G1 at *
  generalize gr f.b.length = G2 at *
  generalize pk1 f = PK at *
  obtain ⟨t, bs⟩ := f
  simp only at *
  clear e1 e2 hv hv1 hb0 hr hp
  go_enter Tryd.func30, Tryd.ntmps30
  go_upto_region 1 with fail
  generalize w.alloc (.cells #[.int .i64 t, .slice Au bs.length cu] 55) = w1 at *
  have hrd : ∀ W, Below w1.drew.heap.size w1.drew W → W.cell? ⟨w.heap.size, 0, none⟩ = some (.int .i64 t) ∧ W.cell? ⟨w.heap.size, 1, none⟩ = some (.slice Au bs.length cu) := fun W hb => two_blk (HK.out.drew.below hb hz)
  have HRD := Lib.hid hrd
  clear hrd
  go_region_with (first
    | (go_at_call 46; (with_reducible refine (HG1.out w1.drew).mono ?_); rintro e w2 ⟨u2, rfl, hu2, hb2⟩; obtain ⟨A2, c2, hf2⟩ := hu2.form; subst hf2; clear c0 c1; obtain ⟨c0, c1⟩ := HRD.out w2 hb2; have HB2 := Lib.hid hb2; have HO2 := Lib.hid hu2; clear hu2 hb2)
    | (go_at_call 47; (with_reducible refine (HG2.out w2).mono ?_); rintro e w3 ⟨u3, rfl, hu3, hb3⟩; obtain ⟨A3, c3, hf3⟩ := hu3.form; subst hf3; clear c0 c1; obtain ⟨c0, c1⟩ := HRD.out w3 (HB2.out.trans (hb3.mono HB2.out.size)); have HB3 := Lib.hid (HB2.out.trans (hb3.mono HB2.out.size)); have HO23 := Lib.hid (OwnL.rds (OwnL.below HO2.out hb3 (Nat.le_refl _))); have HP2 := Lib.hid (OwnL.proper HO2.out); have HO3 := Lib.hid hu3; have HU3 := Lib.hid (Rds.more8 (show Rds w1.drew _ bs from HU.out) HB3.out); clear hu3 hb3)
    | (go_at_call 45; (with_reducible refine (cct_any _ _ [G1, G2, bs] (new3L w3 (.slice A2 G1.length c2) (.slice A3 G2.length c3) (.slice Au bs.length cu) G1 G2 bs HO23.out (OwnL.rds HO3.out) HU3.out HP2.out (OwnL.proper HO3.out) HPU.out) (by simp) (by simp [allP, sumF]; omega)).mono ?_); rintro e w5 ⟨u5, rfl, hu5, hb5⟩; have HB5 := Lib.hid hb5; have HO5 := Lib.hid hu5; clear hu5 hb5))
  all_goals go_wp2
  all_goals
    go_ret
    have hb3 : Below w3.heap.size w3 (w3.alloc (.cells #[.slice A2 G1.length c2, .slice A3 G2.length c3, .slice Au bs.length cu] 22)) := (Below.refl _ _).alloc (Nat.le_refl _) _
    have hz3 : w.heap.size ≤ w3.heap.size := by have := HB3.out.size; have h9 : w1.drew.heap.size = w1.heap.size := rfl; omega
    exact rowPost_mk (S := flat [G1, G2, bs]) (by rw [HPK.out]; simp [flat]) (HO5.out.base (by have := hb3.size; omega)) (((show Below w.heap.size w w1.drew from below_drewN HB.out 1).trans (HB3.out.mono (by show w.heap.size ≤ w1.heap.size; omega))).trans ((hb3.trans (HB5.out.mono hb3.size)).mono hz3))
end Go.Proofs.YthogkhifgkgplaaDoor
