/-
  The walk of the draw of two offers. Conditions: the list is one that can be.
-/
import Derived.Test.YtgoafhmmaepcjaaWdof
namespace Go.Proofs.Ytgoafhmmaepcjaa
open Go.RowKit
set_option linter.unusedVariables false

theorem results_row_cc {P : Program} {fn : Func} {p q : Tmp} {ty : TypeId} (h : fn.results = #[.cell p ty, .cell q ty]) (tmps : Array Value) (w : World) (g g' : Nat) (t : TypeId) (cs ds : Array Value) (fr fr' : Nat × Nat) (d : TypeDesc)
    (hp : tmps.getD p undef = .pointer (some ⟨g, 0, none⟩)) (hq : tmps.getD q undef = .pointer (some ⟨g', 0, none⟩)) (hg : w.heap[g]? = some (.cells cs t fr)) (hg' : w.heap[g']? = some (.cells ds t fr'))
    (hu : P.underlying ty = some d) (hd : (match d with | .struct _ | .array _ _ => true | _ => false) = true) (hi : (P.info? ty).map (·.size) = some cs.size) (hi' : (P.info? ty).map (·.size) = some ds.size) :
    (results fn tmps).run P w = .ok (.tuple #[.agg cs, .agg ds]) w := by
  have hp' : tmps[p]?.getD undef = .pointer (some ⟨g, 0, none⟩) := by simpa using hp
  have hq' : tmps[q]?.getD undef = .pointer (some ⟨g', 0, none⟩) := by simpa using hq
  simp [results, h, hp', hq', asAddr, Sem.run_bind, Result.andThen, run_loadVar_row w g t ty cs fr d hg hu hd hi, run_loadVar_row w g' t ty ds fr' d hg' hu hd hi']
/-- What the draw of two offers leaves. -/
def DagPost (w : World) (e : Ending) (w' : World) : Prop :=
  ∃ (lo hi ca : Int) (A : Option Addr) (c : Nat) (xs : List Int) (lo2 hi2 ca2 : Int) (A2 : Option Addr) (c2 : Nat) (ys : List Int),
    e = .returned (.tuple #[.agg #[.int .i64 lo, .int .i64 hi, .int .i64 ca, .slice A xs.length c], .agg #[.int .i64 lo2, .int .i64 hi2, .int .i64 ca2, .slice A2 ys.length c2]]) ∧
    Rds w' (.slice A xs.length c) xs ∧ xs.length ≤ 5 ∧ Rds w' (.slice A2 ys.length c2) ys ∧ ys.length ≤ 5 ∧ Below w.heap.size w w'

set_option maxHeartbeats 1600000 in
theorem dag_any (w : World) (a : Option Addr) (len cap : Nat) (zs : List Int) (h : IsRow .u8 w a len cap zs) :
    Calls Try.prog 25 #[.slice a len cap] w (DagPost w) := by
  have hb0 := ((Below.refl w.heap.size w).alloc (Nat.le_refl _) (.cells #[.int .i64 0, .int .i64 0, .int .i64 0, .slice none 0 0] 34)).alloc (by simp) (.cells #[.int .i64 0, .int .i64 0, .int .i64 0, .slice none 0 0] 34)
  have k0 : Blk ((w.alloc (.cells #[.int .i64 0, .int .i64 0, .int .i64 0, .slice none 0 0] 34)).alloc (.cells #[.int .i64 0, .int .i64 0, .int .i64 0, .slice none 0 0] 34)) w.heap.size 34 #[.int .i64 0, .int .i64 0, .int .i64 0, .slice none 0 0] := (Blk.new w 34 _).alloc _
  have k1 : Blk ((w.alloc (.cells #[.int .i64 0, .int .i64 0, .int .i64 0, .slice none 0 0] 34)).alloc (.cells #[.int .i64 0, .int .i64 0, .int .i64 0, .slice none 0 0] 34)) (w.heap.size + 1) 34 #[.int .i64 0, .int .i64 0, .int .i64 0, .slice none 0 0] := by
    have := Blk.new (w.alloc (.cells #[.int .i64 0, .int .i64 0, .int .i64 0, .slice none 0 0] 34)) 34 #[.int .i64 0, .int .i64 0, .int .i64 0, .slice none 0 0]
    rw [World.size_alloc] at this
    exact this
  have z0 : ((w.alloc (.cells #[.int .i64 0, .int .i64 0, .int .i64 0, .slice none 0 0] 34)).alloc (.cells #[.int .i64 0, .int .i64 0, .int .i64 0, .slice none 0 0] 34)).heap.size = w.heap.size + 2 := by rw [World.size_alloc, World.size_alloc]
  have H := Lib.hid (nr_any ((w.alloc (.cells #[.int .i64 0, .int .i64 0, .int .i64 0, .slice none 0 0] 34)).alloc (.cells #[.int .i64 0, .int .i64 0, .int .i64 0, .slice none 0 0] 34)) a len cap zs (isRow_alloc (isRow_alloc h _) _))
  have HB0 := Lib.hid hb0
  have HK0 := Lib.hid k0
  have HL0 := Lib.hid k1
  have HZ0 := Lib.hid z0
  clear h hb0 k0 k1 z0
  go_enter Try.func25, Try.ntmps25
  go_upto_region 1 with fail
  generalize ((w.alloc (.cells #[.int .i64 0, .int .i64 0, .int .i64 0, .slice none 0 0] 34)).alloc (.cells #[.int .i64 0, .int .i64 0, .int .i64 0, .slice none 0 0] 34)) = w1 at *
  go_wp2_with fail
  refine H.out.mono ?_
  rintro e w2 ⟨rfl, hr2, hb2, hsz⟩
  have HR2 := Lib.hid hr2
  have HB2 := Lib.hid (HB0.out.trans (hb2.mono (by rw [HZ0.out]; omega)))
  have HK2 := Lib.hid (HK0.out.below hb2 (by rw [HZ0.out]; omega))
  have HL2 := Lib.hid (HL0.out.below hb2 (by rw [HZ0.out]; omega))
  have HSZ := Lib.hid hsz
  clear hr2 hb2 H HK0 HL0 HB0 hsz
  go_wp2_with fail
  refine (ano_any HR2.out (by omega)).mono ?_
  rintro e w3 ⟨lo, hi, ca, A, c, xs, p', rfl, hrd, hvk, hx5, hr3, hp3, hb3⟩
  have HB3 := Lib.hid (HB2.out.trans (hb3.b.mono (by rw [HZ0.out]; omega)))
  have HK3 := Lib.hid (HK2.out.below hb3.b (by rw [HZ0.out]; omega))
  have HL3 := Lib.hid (HL2.out.below hb3.b (by rw [HZ0.out]; omega))
  have HD3 := Lib.hid hrd
  have HR3 := Lib.hid hr3
  have HV3 := Lib.hid (fun k hk => (show w1.heap.size < k from by have := hvk k hk; have := HSZ.out; omega))
  have HZ3 := Lib.hid hb3.k.z
  clear hrd hvk hr3 hb3 HK2 HL2 HB2 HR2
  go_wp2_with fail
  refine (ano_any HR3.out (by omega)).mono ?_
  rintro e w4 ⟨lo2, hi2, ca2, A2, c2, ys, p2, rfl, hrd, hvk, hy5, hr4, hp4, hb4⟩
  have HB4 := Lib.hid (HB3.out.trans (hb4.b.mono (by rw [HZ0.out]; omega)))
  have HK4 := Lib.hid (HK3.out.below hb4.b (by rw [HZ0.out]; omega))
  have HL4 := Lib.hid (HL3.out.below hb4.b (by rw [HZ0.out]; omega))
  have HD4 := Lib.hid (HD3.out.keeps hb4.k (fun e => by have := HV3.out _ e; omega))
  have HE4 := Lib.hid hrd
  have HW4 := Lib.hid (fun k hk => (show w1.heap.size < k from by have := hvk k hk; have := HSZ.out; have := HZ3.out; omega))
  clear hrd hvk hr4 hp4 hb4 HK3 HL3 HB3 HR3 HD3
  obtain ⟨b0, b1, b2, b3⟩ := HK4.out.c4
  have g0 := HK4.out.frozen 0
  have g1 := HK4.out.frozen 1
  have g2 := HK4.out.frozen 2
  have g3 := HK4.out.frozen 3
  obtain ⟨d0, d1, d2, d3⟩ := HL4.out.c4
  have e0 := HL4.out.frozen 0
  have e1 := HL4.out.frozen 1
  have e2 := HL4.out.frozen 2
  have e3 := HL4.out.frozen 3
  go_wp2
  have hg := fin4_grown w4 w.heap.size lo hi ca (.slice A xs.length c)
  have hg' := fin4_grown (fin4 w4 w.heap.size lo hi ca (.slice A xs.length c)) (w.heap.size + 1) lo2 hi2 ca2 (.slice A2 ys.length c2)
  have kk : ∀ (W W' : World) (q : Nat) (v : Value) (l : List Int), W.grownBy W' (some q) → Rds W v l → v.ownBlock ≠ some q → Rds W' v l := fun W W' q v l hg hr hne => hr.keeps (g := q) ⟨hg.size, fun k hk hne => hg.block k hk (fun e => hne (by cases e; rfl))⟩ hne
  have hz0 := HZ0.out
  exact bodyPost_ret (results_row_cc (p := 2) (q := 3) (ty := 34) rfl _ _ w.heap.size (w.heap.size + 1) 34 (ob lo hi ca (.slice A xs.length c)) (ob lo2 hi2 ca2 (.slice A2 ys.length c2)) (0, 0) (0, 0) _ rfl rfl
    ((hg'.block w.heap.size (by have := HB4.out.size; have := hg.size; have := HK4.out.lt; omega) (by simp)).trans (fin4_blk HK4.out _ _ _ _)) (fin4_blk ((hg.block (w.heap.size + 1) HL4.out.lt (by simp)).trans HL4.out) _ _ _ _) Try.underlying34 rfl (by kernel_rfl) (by kernel_rfl)) rfl
    ⟨lo, hi, ca, A, c, xs, lo2, hi2, ca2, A2, c2, ys, rfl, kk _ _ _ _ _ hg' (kk _ _ _ _ _ hg HD4.out (fun e => by have := HV3.out _ e; omega)) (fun e => by have := HV3.out _ e; omega), hx5,
      kk _ _ _ _ _ hg' (kk _ _ _ _ _ hg HE4.out (fun e => by have := HW4.out _ e; omega)) (fun e => by have := HW4.out _ e; omega), hy5,
      (HB4.out.grown hg HB4.out.size (fun j hj => by cases hj; exact Nat.le_refl _)).grown hg' (Nat.le_trans HB4.out.size hg.size) (fun j hj => by cases hj; omega)⟩
end Go.Proofs.Ytgoafhmmaepcjaa

