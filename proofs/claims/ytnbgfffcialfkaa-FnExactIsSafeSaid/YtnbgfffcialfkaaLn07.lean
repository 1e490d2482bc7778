/-
  Plain facts on blocks of memory that are known whole: structs of four and of six fields. No condition.
  The walks of the functions that say whether a plan is valid. No condition.
  Plain facts on a region that draws its order and holds calls that make memory: walked once, in the order of the text, where one condition on the world is kept by all of it. No condition.
  The walks of the program's small functions on links. Conditions: the bounds that are typed.
-/
import Derived.Test.YtnbgfffcialfkaaLn04
import Derived.Below
import Derived.Laws.OwnMore
import Derived.Deep.Draws
import Derived.Laws.Rows
import Derived.Test.YtnbgfffcialfkaaLn06
import Derived.Test.YtnbgfffcialfkaaRows
import Derived.WalkLawsBesides
import Derived.WalkSpells
import Derived.Outline
import Derived.BigQuiet
import Derived.Deep.QuietTactic
import Derived.Deep.RegionHeld3
import Derived.IntWalk
set_option linter.unusedSimpArgs false
set_option linter.unusedVariables false
namespace Go.Proofs.Ytnbgfffcialfkaa
open Go.RowKit
set_option linter.unusedVariables false

/-- Block g holds just these cells, and none of them is frozen. -/
def Blk (w : World) (g : Nat) (t : TypeId) (cs : Array Value) : Prop := w.heap[g]? = some (.cells cs t (0, 0))
section
variable {w w' : World} {g : Nat} {t : TypeId} {cs : Array Value}
theorem Blk.lt (h : Blk w g t cs) : g < w.heap.size := by
  rcases Nat.lt_or_ge g w.heap.size with hlt | hge
  · exact hlt
  · unfold Blk at h; rw [Array.getElem?_eq_none hge] at h; cases h
theorem Blk.cell (h : Blk w g t cs) (i : Nat) : w.cell? ⟨g, i, none⟩ = cs[i]? := cell_of_row w g i cs t (0, 0) h
theorem Blk.frozen (h : Blk w g t cs) (i : Nat) : w.frozen? ⟨g, i, none⟩ = false := by
  unfold Blk at h
  simp [World.frozen?, h]
theorem Blk.new (w : World) (t : TypeId) (cs : Array Value) : Blk (w.alloc (.cells cs t)) w.heap.size t cs := heap_alloc_new w _
theorem Blk.drewN (h : Blk w g t cs) (n : Nat) : Blk (w.drewN n) g t cs := h
theorem Blk.alloc (h : Blk w g t cs) (o : Obj) : Blk (w.alloc o) g t cs := (Below.heap_alloc w o g h.lt).trans h
theorem Blk.set_ (h : Blk w g t cs) (i : Nat) (u : Value) : Blk (w.setCell ⟨g, i, none⟩ u) g t (cs.setIfInBounds i u) := by
  unfold Blk at h ⊢
  simp [World.setCell, Array.getElem?_modify, h]
theorem Blk.far (h : Blk w g t cs) {p : Addr} (hp : g ≠ p.block) (u : Value) : Blk (w.setCell p u) g t cs := (Below.heap_setCell w p u g hp).trans h
theorem Blk.below {B : Nat} (h : Blk w g t cs) (hb : Below B w w') (hg : g < B) : Blk w' g t cs := (hb.block g hg).trans h
end
/-- A block of four. -/
theorem Blk.c4 {w : World} {g : Nat} {t : TypeId} {x0 x1 x2 x3 : Value} (h : Blk w g t #[x0, x1, x2, x3]) :
    w.cell? ⟨g, 0, none⟩ = some x0 ∧ w.cell? ⟨g, 1, none⟩ = some x1 ∧ w.cell? ⟨g, 2, none⟩ = some x2 ∧ w.cell? ⟨g, 3, none⟩ = some x3 :=
  ⟨h.cell 0, h.cell 1, h.cell 2, h.cell 3⟩
/-- A block of six. -/
theorem Blk.c6 {w : World} {g : Nat} {t : TypeId} {x0 x1 x2 x3 x4 x5 : Value} (h : Blk w g t #[x0, x1, x2, x3, x4, x5]) :
    w.cell? ⟨g, 0, none⟩ = some x0 ∧ w.cell? ⟨g, 1, none⟩ = some x1 ∧ w.cell? ⟨g, 2, none⟩ = some x2 ∧ w.cell? ⟨g, 3, none⟩ = some x3 ∧ w.cell? ⟨g, 4, none⟩ = some x4 ∧ w.cell? ⟨g, 5, none⟩ = some x5 :=
  ⟨h.cell 0, h.cell 1, h.cell 2, h.cell 3, h.cell 4, h.cell 5⟩
theorem Blk.f6 {w : World} {g : Nat} {t : TypeId} {cs : Array Value} (h : Blk w g t cs) :
    w.frozen? ⟨g, 0, none⟩ = false ∧ w.frozen? ⟨g, 1, none⟩ = false ∧ w.frozen? ⟨g, 2, none⟩ = false ∧ w.frozen? ⟨g, 3, none⟩ = false ∧ w.frozen? ⟨g, 4, none⟩ = false ∧ w.frozen? ⟨g, 5, none⟩ = false :=
  ⟨h.frozen 0, h.frozen 1, h.frozen 2, h.frozen 3, h.frozen 4, h.frozen 5⟩
theorem Blk.set6 {w : World} {g : Nat} {t : TypeId} {x0 x1 x2 x3 x4 x5 : Value} (h : Blk w g t #[x0, x1, x2, x3, x4, x5]) (a b c d e f : Value) :
    Blk ((((((w.setCell ⟨g, 0, none⟩ a).setCell ⟨g, 1, none⟩ b).setCell ⟨g, 2, none⟩ c).setCell ⟨g, 3, none⟩ d).setCell ⟨g, 4, none⟩ e).setCell ⟨g, 5, none⟩ f) g t #[a, b, c, d, e, f] := by
  have := (((((h.set_ 0 a).set_ 1 b).set_ 2 c).set_ 3 d).set_ 4 e).set_ 5 f
  simpa using this
theorem Blk.drew {w : World} {g : Nat} {t : TypeId} {cs : Array Value} (h : Blk w g t cs) : Blk w.drew g t cs := h
theorem Blk.far6 {w : World} {g g' : Nat} {t : TypeId} {cs : Array Value} (h : Blk w g t cs) (hg : g ≠ g') (a b c d e f : Value) :
    Blk ((((((w.setCell ⟨g', 0, none⟩ a).setCell ⟨g', 1, none⟩ b).setCell ⟨g', 2, none⟩ c).setCell ⟨g', 3, none⟩ d).setCell ⟨g', 4, none⟩ e).setCell ⟨g', 5, none⟩ f) g t cs :=
  (((((h.far (p := ⟨g', 0, none⟩) hg a).far (p := ⟨g', 1, none⟩) hg b).far (p := ⟨g', 2, none⟩) hg c).far (p := ⟨g', 3, none⟩) hg d).far (p := ⟨g', 4, none⟩) hg e).far (p := ⟨g', 5, none⟩) hg f
theorem belowDr {B : Nat} {w w' : World} (h : Below B w w') : Below B w w'.drew := ⟨h.os, h.tape, h.output, h.size, h.block⟩
theorem results_row_tmp {P : Program} {fn : Func} {p u : Tmp} {ty : TypeId} (h : fn.results = #[.cell p ty, .tmp u]) (tmps : Array Value) (w : World) (g : Nat) (t : TypeId) (cs : Array Value) (fr : Nat × Nat) (d : TypeDesc)
    (hp : tmps.getD p undef = .pointer (some ⟨g, 0, none⟩)) (hg : w.heap[g]? = some (.cells cs t fr))
    (hu : P.underlying ty = some d) (hd : (match d with | .struct _ | .array _ _ => true | _ => false) = true) (hi : (P.info? ty).map (·.size) = some cs.size) :
    (results fn tmps).run P w = .ok (.tuple #[.agg cs, tmps.getD u undef]) w := by
  have hp' : tmps[p]?.getD undef = .pointer (some ⟨g, 0, none⟩) := by simpa using hp
  simp [results, h, hp', asAddr, Result.andThen, run_loadVar_row w g t ty cs fr d hg hu hd hi]
theorem results_row_tmp2 {P : Program} {fn : Func} {p u v : Tmp} {ty : TypeId} (h : fn.results = #[.cell p ty, .tmp u, .tmp v]) (tmps : Array Value) (w : World) (g : Nat) (t : TypeId) (cs : Array Value) (fr : Nat × Nat) (d : TypeDesc)
    (hp : tmps.getD p undef = .pointer (some ⟨g, 0, none⟩)) (hg : w.heap[g]? = some (.cells cs t fr))
    (hu : P.underlying ty = some d) (hd : (match d with | .struct _ | .array _ _ => true | _ => false) = true) (hi : (P.info? ty).map (·.size) = some cs.size) :
    (results fn tmps).run P w = .ok (.tuple #[.agg cs, tmps.getD u undef, tmps.getD v undef]) w := by
  have hp' : tmps[p]?.getD undef = .pointer (some ⟨g, 0, none⟩) := by simpa using hp
  simp [results, h, hp', asAddr, Result.andThen, run_loadVar_row w g t ty cs fr d hg hu hd hi]
theorem belowD {B : Nat} {w w' : World} (h : Below B w w') (n : Nat) : Below B w (w'.drewN n) :=
  ⟨h.os, h.tape, h.output, h.size, h.block⟩
end Go.Proofs.Ytnbgfffcialfkaa

namespace Go.Proofs.Ytnbgfffcialfkaa
open Go.RowKit
set_option linter.unusedVariables false

/-- Whether a number is from the least up to the most one. -/
def wi (x lo hi : Int) : Bool := decide (lo ≤ x ∧ x ≤ hi)
theorem wi_yes {x lo hi : Int} (h : wi x lo hi = true) : lo ≤ x ∧ x ≤ hi := by simpa [wi] using h
theorem wi_no {x lo hi : Int} (h : wi x lo hi = false) : ¬ (lo ≤ x ∧ x ≤ hi) := by simpa [wi] using h
theorem vpB_eq (n a k m : Int) : vpB ⟨n, a, k, m⟩ = (wi n 2 4 && wi a 1 4 && wi k 1 4 && wi m 1 5) := by
  unfold vpB wi
  rw [Bool.eq_iff_iff]; simp; omega

theorem wit_any (x lo hi : Int) (w : World) : Calls Try.prog 31 #[.int .i64 x, .int .i64 lo, .int .i64 hi] w fun e w' => e = .returned (.bool (wi x lo hi)) ∧ w = w' := by
  unfold wi
  by_cases h1 : lo ≤ x
  · by_cases h2 : x ≤ hi
    · go_enter Try.func31, Try.ntmps31
      go_wp2
      go_ret
      exact ⟨ret_bool (by simp [h1, h2]), rfl⟩
    · have hd : decide (x ≤ hi) = false := by simpa using h2
      go_enter Try.func31, Try.ntmps31
      go_wp2
      go_ret
      exact ⟨ret_bool (by simp [h2]), rfl⟩
  · have hd : decide (lo ≤ x) = false := by simpa using h1
    go_enter Try.func31, Try.ntmps31
    go_wp2
    go_ret
    exact ⟨ret_bool (by simp [h1]), rfl⟩
theorem inr_any (x lo hi : Int) (w : World) : Calls Try.prog 28 #[.int .i64 x, .int .i64 lo, .int .i64 hi] w fun e w' => e = .returned (.bool (wi x lo hi)) ∧ w = w' := by
  unfold wi
  by_cases h1 : lo ≤ x
  · by_cases h2 : x ≤ hi
    · go_enter Try.func28, Try.ntmps28
      go_wp2
      go_ret
      exact ⟨ret_bool (by simp [h1, h2]), rfl⟩
    · have hd : decide (x ≤ hi) = false := by simpa using h2
      go_enter Try.func28, Try.ntmps28
      go_wp2
      go_ret
      exact ⟨ret_bool (by simp [h2]), rfl⟩
  · have hd : decide (lo ≤ x) = false := by simpa using h1
    go_enter Try.func28, Try.ntmps28
    go_wp2
    go_ret
    exact ⟨ret_bool (by simp [h1]), rfl⟩

set_option maxHeartbeats 800000 in
theorem ivp_any (n a k m : Int) (w : World) : Calls Try.prog 22 #[(.agg #[.int .i64 n, .int .i64 a, .int .i64 k, .int .i64 m])] w fun e w' => e = .returned (.bool (vpB ⟨n, a, k, m⟩)) ∧ Below w.heap.size w w' := by
  rw [vpB_eq]
  go_enter Try.func22, Try.ntmps22
  go_wp2
  all_goals
    go_ret
    exact ⟨ret_bool (by rw [Bool.eq_iff_iff]; simp [wi]; omega), (Below.refl _ _).alloc (Nat.le_refl _) _⟩
set_option maxHeartbeats 800000 in
theorem svp_any (n a k m : Int) (w : World) : Calls Try.prog 25 #[(.agg #[.int .i64 n, .int .i64 a, .int .i64 k, .int .i64 m])] w fun e w' => e = .returned (.bool (vpB ⟨n, a, k, m⟩)) ∧ Below w.heap.size w w' := by
  rw [vpB_eq]
  go_enter Try.func25, Try.ntmps25
  go_wp2
  all_goals
    go_ret
    exact ⟨ret_bool (by rw [Bool.eq_iff_iff]; simp [wi]; omega), (Below.refl _ _).alloc (Nat.le_refl _) _⟩
end Go.Proofs.Ytnbgfffcialfkaa

namespace Go.Proofs.Ytnbgfffcialfkaa
open Go.RowKit
set_option linter.unusedVariables false

/-- A world that meets a condition. -/
structure Wld (S : World → Prop) where
  v : World
  h : S v
theorem Wld.ne {S : World → Prop} {w : World} (h : S w) : Nonempty (Wld S) := ⟨⟨w, h⟩⟩
theorem wp_region_heldq {P : Program} {id : Nat} {Q : Exit → Act → World → Prop} {a : Act} {w : World} {l : List Oper} (S : World → Prop) (hm : P.follows .mixedOrders = true) (hB : Region.lexB .any l.toArray = true) (h0 : S w.drew)
    (h : wpQuiet P l.toArray (fun w' => ∃ x : Wld S, w' = x.v) (fun a' => ∀ w', (∃ x : Wld S, w' = x.v) → Q .normal a' w') l a) : (Code.region id l.toArray true).wp P Q a w :=
  wp_region_quiet (C := fun w' => ∃ x : Wld S, w' = x.v) hm hB ⟨⟨w.drew, h0⟩, rfl⟩ (by simpa using h)
theorem held_same {S : World → Prop} {P : Program} {f : FuncId} {args : Array Value} {x : Wld S} {v : Value} (h : Calls P f args x.v fun e w' => e = .returned v ∧ x.v = w') :
    Calls P f args x.v fun e w'' => e = .returned v ∧ ∃ y : Wld S, w'' = y.v :=
  h.mono fun e w' ⟨he, hw⟩ => ⟨he, x, hw.symm⟩
theorem held_below {S : World → Prop} (keep : ∀ w w', S w → Below w.heap.size w w' → S w') {P : Program} {f : FuncId} {args : Array Value} {x : Wld S} {v : Value} (h : Calls P f args x.v fun e w' => e = .returned v ∧ Below x.v.heap.size x.v w') :
    Calls P f args x.v fun e w'' => e = .returned v ∧ ∃ y : Wld S, w'' = y.v :=
  h.mono fun e w' ⟨he, hw⟩ => ⟨he, ⟨w', keep _ _ x.h hw⟩, rfl⟩
end Go.Proofs.Ytnbgfffcialfkaa

namespace Go.Proofs.Ytnbgfffcialfkaa
open Go.RowKit
set_option linter.unusedVariables false

set_option maxHeartbeats 400000 in
theorem ims_any (n a k m kn : Int) (w : World) (ha : 1 ≤ a ∧ a ≤ 4) (hm : 1 ≤ m ∧ m ≤ 5) (hk : 0 ≤ kn ∧ kn ≤ 5) :
    Calls Try.prog 51 #[(.agg #[.int .i64 n, .int .i64 a, .int .i64 k, .int .i64 m]), .int .i64 kn] w fun e w' => e = .returned (.int .i64 (min m (kn + a))) ∧ w' = w.alloc (.cells #[.int .i64 n, .int .i64 a, .int .i64 k, .int .i64 m] 25) := by
  go_enter Try.func51, Try.ntmps51
  go_wp2
  all_goals
    go_ret
    exact ⟨ret_int (by omega), rfl⟩

theorem irs_any (n a k m x y : Int) (w : World) (hn : 2 ≤ n ∧ n ≤ 4) (hx : 0 ≤ x ∧ x ≤ 100) (hy : 0 ≤ y ∧ y ≤ 100) :
    Calls Try.prog 53 #[(.agg #[.int .i64 n, .int .i64 a, .int .i64 k, .int .i64 m]), .int .i64 x, .int .i64 y] w fun e w' => e = .returned (.bool (decide (x % n = y % n))) ∧ ∃ q, w' = (w.alloc (.cells #[.int .i64 n, .int .i64 a, .int .i64 k, .int .i64 m] 25)).drewN q := by
  go_enter Try.func53, Try.ntmps53
  go_wp2
  go_quiet (fail)
  go_wp2
  go_ret
  exact ⟨ret_bool (by rfl), _, rfl⟩

theorem isa_any (kn s d h da wo x : Int) (w : World) (hk : 0 ≤ kn ∧ kn ≤ 5) (hx : 0 ≤ x ∧ x ≤ 9) :
    Calls Try.prog 48 #[(.agg #[.int .i64 kn, .int .i64 s, .int .i64 d, .int .i64 h, .int .i64 da, .int .i64 wo]), .int .i64 x] w fun e w' => e = .returned (if da = -1 ∧ kn + x < s then .agg #[.int .i64 kn, .int .i64 s, .int .i64 d, .int .i64 h, .int .i64 (kn + x), .int .i64 wo] else (.agg #[.int .i64 kn, .int .i64 s, .int .i64 d, .int .i64 h, .int .i64 da, .int .i64 wo])) ∧ Below w.heap.size w w' := by
  by_cases h1 : da = -1
  · subst h1
    by_cases h2 : kn + x < s
    · rw [if_pos ⟨rfl, h2⟩]
      go_enter Try.func48, Try.ntmps48
      go_wp2
      exact bodyPost_ret (v := .agg #[.int .i64 kn, .int .i64 s, .int .i64 d, .int .i64 h, .int .i64 (kn + x), .int .i64 wo]) (by simp [results, Try.results48, go_sem]) rfl ⟨rfl, (by repeat (first | exact Below.refl _ _ | assumption | refine belowD ?_ _ | refine Below.alloc ?_ (by first | exact Nat.le_refl _ | (simp; done) | (simp; omega)) _ | refine Below.setCell ?_ (by first | (simp; done) | (simp; omega)) _))⟩
    · rw [if_neg (by omega)]
      have hd : decide (kn + x < s) = false := by simpa using h2
      go_enter Try.func48, Try.ntmps48
      go_wp2
      exact bodyPost_ret (v := .agg #[.int .i64 kn, .int .i64 s, .int .i64 d, .int .i64 h, .int .i64 (-1), .int .i64 wo]) (by simp [results, Try.results48, go_sem]) rfl ⟨rfl, (by repeat (first | exact Below.refl _ _ | assumption | refine belowD ?_ _ | refine Below.alloc ?_ (by first | exact Nat.le_refl _ | (simp; done) | (simp; omega)) _ | refine Below.setCell ?_ (by first | (simp; done) | (simp; omega)) _))⟩
  · rw [if_neg (by omega)]
    have hd : (da == -1) = false := by simpa using h1
    go_enter Try.func48, Try.ntmps48
    go_wp2
    exact bodyPost_ret (v := (.agg #[.int .i64 kn, .int .i64 s, .int .i64 d, .int .i64 h, .int .i64 da, .int .i64 wo])) (by simp [results, Try.results48, go_sem]) rfl ⟨rfl, (by repeat (first | exact Below.refl _ _ | assumption | refine belowD ?_ _ | refine Below.alloc ?_ (by first | exact Nat.le_refl _ | (simp; done) | (simp; omega)) _ | refine Below.setCell ?_ (by first | (simp; done) | (simp; omega)) _))⟩

theorem same_l {P : Program} {f : FuncId} {args : Array Value} {w : World} {v : Value} (h : Calls P f args w fun e w' => e = .returned v ∧ w = w') : Calls P f args w fun e w' => e = .returned v ∧ w' = w :=
  h.mono fun _ _ ⟨he, hw⟩ => ⟨he, hw.symm⟩
theorem wpow (j : Nat) (h : j ≤ 5) : wrap64 (wrap64 (2 ^ j) - 1) = 2 ^ j - 1 := by
  rcases (show j = 0 ∨ j = 1 ∨ j = 2 ∨ j = 3 ∨ j = 4 ∨ j = 5 from by omega) with rfl | rfl | rfl | rfl | rfl | rfl <;> decide +kernel
set_option maxHeartbeats 800000 in
theorem ivh_any (n a k m kn s d h da wo : Int) (w : World) (hk : 1 ≤ k ∧ k ≤ 4) (hd : 0 ≤ d ∧ d ≤ s ∧ s ≤ 5) :
    Calls Try.prog 52 #[(.agg #[.int .i64 n, .int .i64 a, .int .i64 k, .int .i64 m]), (.agg #[.int .i64 kn, .int .i64 s, .int .i64 d, .int .i64 h, .int .i64 da, .int .i64 wo])] w fun e w' => e = .returned (.bool (decide (h % 2 = 0) && wi h 0 (2 ^ (min k (s - d)).toNat - 1))) ∧ Below w.heap.size w w' := by
  by_cases h2 : h % 2 = 0
  · have h3 : h.tmod 2 = 0 := by rw [Int.tmod_eq_emod]; split <;> omega
    have e2 : decide (h % 2 = 0) = true := by simpa using h2
    rw [e2, Bool.true_and]
    by_cases hmn : s - d < k
    · have hj : (min k (s - d)).toNat = (s - d).toNat := by omega
      rw [hj, ← wpow (s - d).toNat (by omega)]
      clear hj h2 e2
      go_enter Try.func52, Try.ntmps52
      go_wp2
      go_quiet ((go_at_call 31; exact Calls.quiet_of_same (same_l (wit_any _ _ _ _))))
      go_wp2
      go_ret
      exact ⟨rfl, (by repeat (first | exact Below.refl _ _ | assumption | refine belowD ?_ _ | refine Below.alloc ?_ (by first | exact Nat.le_refl _ | (simp; done) | (simp; omega)) _ | refine Below.setCell ?_ (by first | (simp; done) | (simp; omega)) _))⟩
    · have hj : (min k (s - d)).toNat = k.toNat := by omega
      rw [hj, ← wpow k.toNat (by omega)]
      clear hj h2 e2
      go_enter Try.func52, Try.ntmps52
      go_wp2
      go_quiet ((go_at_call 31; exact Calls.quiet_of_same (same_l (wit_any _ _ _ _))))
      go_wp2
      go_ret
      exact ⟨rfl, (by repeat (first | exact Below.refl _ _ | assumption | refine belowD ?_ _ | refine Below.alloc ?_ (by first | exact Nat.le_refl _ | (simp; done) | (simp; omega)) _ | refine Below.setCell ?_ (by first | (simp; done) | (simp; omega)) _))⟩
  · have h3 : (h.tmod 2 == 0) = false := by
      have : h.tmod 2 ≠ 0 := by rw [Int.tmod_eq_emod]; split <;> omega
      simpa using this
    have e2 : decide (h % 2 = 0) = false := by simpa using h2
    rw [e2, Bool.false_and]
    clear h2 e2
    go_enter Try.func52, Try.ntmps52
    go_wp2
    go_quiet ((go_at_call 31; exact Calls.quiet_of_same (same_l (wit_any _ _ _ _))))
    go_wp2
    go_ret
    exact ⟨rfl, (by repeat (first | exact Below.refl _ _ | assumption | refine belowD ?_ _ | refine Below.alloc ?_ (by first | exact Nat.le_refl _ | (simp; done) | (simp; omega)) _ | refine Below.setCell ?_ (by first | (simp; done) | (simp; omega)) _))⟩
end Go.Proofs.Ytnbgfffcialfkaa
