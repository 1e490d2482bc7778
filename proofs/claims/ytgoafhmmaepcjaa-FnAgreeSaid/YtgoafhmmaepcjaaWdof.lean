/-
  The walks of the draws of offers. Conditions: the list is one that can be.
-/
import Derived.Test.YtgoafhmmaepcjaaWanp
namespace Go.Proofs.Ytgoafhmmaepcjaa
open Go.RowKit
set_option linter.unusedVariables false

theorem isRow_alloc {k : IntKind} {w : World} {a : Option Addr} {len cap : Nat} {zs : List Int} (h : IsRow k w a len cap zs) (o : Obj) : IsRow k (w.alloc o) a len cap zs := by
  rcases h with h | ⟨x, rfl, h1, h2, h3, h4, h5⟩
  · exact .inl h
  · exact .inr ⟨x, rfl, h1, h2, h3, fun i hi => by rw [World.cell?_alloc_lt _ _ _ (World.block_lt_of_cell? w _ (h4 i hi))]; exact h4 i hi, h5⟩
/-- What the draw of one offer leaves. -/
def DvoPost (w : World) (e : Ending) (w' : World) : Prop :=
  ∃ (lo hi ca : Int) (A : Option Addr) (c : Nat) (xs : List Int), e = .returned (.agg #[.int .i64 lo, .int .i64 hi, .int .i64 ca, .slice A xs.length c]) ∧ Rds w' (.slice A xs.length c) xs ∧ xs.length ≤ 5 ∧ Below w.heap.size w w'

set_option maxHeartbeats 1600000 in
theorem dvo_any (w : World) (a : Option Addr) (len cap : Nat) (zs : List Int) (h : IsRow .u8 w a len cap zs) :
    Calls Try.prog 22 #[.slice a len cap] w (DvoPost w) := by
  have hb0 := (Below.refl w.heap.size w).alloc (Nat.le_refl _) (.cells #[.int .i64 0, .int .i64 0, .int .i64 0, .slice none 0 0] 34)
  have k0 : Blk (w.alloc (.cells #[.int .i64 0, .int .i64 0, .int .i64 0, .slice none 0 0] 34)) w.heap.size 34 #[.int .i64 0, .int .i64 0, .int .i64 0, .slice none 0 0] := Blk.new w 34 _
  have z0 : (w.alloc (.cells #[.int .i64 0, .int .i64 0, .int .i64 0, .slice none 0 0] 34)).heap.size = w.heap.size + 1 := World.size_alloc _ _
  have H := Lib.hid (nr_any (w.alloc (.cells #[.int .i64 0, .int .i64 0, .int .i64 0, .slice none 0 0] 34)) a len cap zs (isRow_alloc h _))
  have HB0 := Lib.hid hb0
  have HK0 := Lib.hid k0
  have HZ0 := Lib.hid z0
  clear h hb0 k0 z0
  go_enter Try.func22, Try.ntmps22
  go_upto_region 1 with fail
  generalize w.alloc (.cells #[.int .i64 0, .int .i64 0, .int .i64 0, .slice none 0 0] 34) = w1 at *
  go_wp2_with fail
  refine H.out.mono ?_
  rintro e w2 ⟨rfl, hr2, hb2, hsz⟩
  have HR2 := Lib.hid hr2
  have HB2 := Lib.hid (HB0.out.trans (hb2.mono (by rw [HZ0.out]; omega)))
  have HK2 := Lib.hid (HK0.out.below hb2 (by rw [HZ0.out]; omega))
  clear hr2 hb2 H HK0
  go_wp2_with fail
  refine (ano_any HR2.out (by omega)).mono ?_
  rintro e w3 ⟨lo, hi, ca, A, c, xs, p', rfl, hrd, hvk, hx5, hr3, hp3, hb3⟩
  have HB3 := Lib.hid (HB2.out.trans (hb3.b.mono (by rw [HZ0.out]; omega)))
  have HK3 := Lib.hid (HK2.out.below hb3.b (by rw [HZ0.out]; omega))
  have HD3 := Lib.hid hrd
  have HV3 := Lib.hid (fun k hk => (show w1.heap.size ≤ k from by have := hvk k hk; rw [hsz] at this; omega))
  clear hrd hvk hr3 hp3 hb3 HK2 HB2 HR2
  obtain ⟨b0, b1, b2, b3⟩ := HK3.out.c4
  have g0 := HK3.out.frozen 0
  have g1 := HK3.out.frozen 1
  have g2 := HK3.out.frozen 2
  have g3 := HK3.out.frozen 3
  go_wp2
  have hg := fin4_grown w3 w.heap.size lo hi ca (.slice A xs.length c)
  exact bodyPost_ret (results_cell_row (p := 2) (ty := 34) rfl _ _ w.heap.size 34 (ob lo hi ca (.slice A xs.length c)) (0, 0) _ rfl (fin4_blk HK3.out _ _ _ _) Try.underlying34 rfl (by kernel_rfl)) rfl
    ⟨lo, hi, ca, A, c, xs, rfl, HD3.out.keeps (g := w.heap.size) ⟨hg.size, fun k hk hne => hg.block k hk (fun e => hne (by cases e; rfl))⟩ (fun e => by have := HV3.out _ e; rw [HZ0.out] at this; omega), hx5, HB3.out.grown hg HB3.out.size (fun j hj => by cases hj; exact Nat.le_refl _)⟩
end Go.Proofs.Ytgoafhmmaepcjaa
