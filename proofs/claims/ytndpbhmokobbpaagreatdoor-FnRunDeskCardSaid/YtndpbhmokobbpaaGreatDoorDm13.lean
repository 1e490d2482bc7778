/-
  The walks of the functions that guard bits. Condition: what the two tables hold, and the lengths that are typed.
  The walk of the program's function that takes four bits out of seven. Condition: what the two tables hold.
  Plain facts on blocks of memory that are known whole: structs of four and of six fields. No condition.
  Plain facts on a region that draws its order and holds calls that make memory: walked once, in the order of the text, where one condition on the world is kept by all of it. No condition.
-/
import Derived.Test.YtndpbhmokobbpaaGreatDoorDm12
import Derived.Deep.LoopGhost
import Derived.Test.YtndpbhmokobbpaaGreatDoorDm01
import Derived.Below
import Derived.Laws.OwnMore
import Derived.Deep.Draws
import Derived.Laws.Rows
import Derived.BigQuiet
import Derived.Deep.QuietTactic
namespace Go.Proofs.YtndpbhmokobbpaaGreatDoor
open Go.RowKit
set_option linter.unusedVariables false

theorem arr_text {P : Program} {w : World} {e src dst : TypeId} {g cap : Nat} {l : List UInt8} (hs : P.underlying src = some (.slice e)) (he : P.underlying e = some (.int .u8)) (hd : P.underlying dst = some .string)
    (h : ∀ j, j < l.length → w.cell? ⟨g, j, none⟩ = some (.int .u8 ((l.getD j 0).toNat : Int))) : (convert src dst (.slice (some ⟨g, 0, none⟩) l.length cap)).run P w = .ok (.string ⟨l.toArray⟩) w := by
  refine run_convert_bytes_back w src dst e _ cap l hs he hd fun j hj => ?_
  have e : (⟨g, 0, none⟩ : Addr).add j = ⟨g, j, none⟩ := by unfold Addr.add; split <;> simp_all
  rw [e, h j hj]
  simp [List.getD_eq_getElem?_getD, List.getElem?_eq_getElem hj]
/-- What GuardBits gives. -/
def gdR (l : List UInt8) : ByteArray := if bitsB 40 l = true ∧ l.length = 4 then ⟨(gd7 fun k => l.getD k 0).toArray⟩ else ByteArray.empty
theorem bytes_at (s : ByteArray) (k : Nat) (hk : k < s.size) : s[k] = s.data.toList.getD k 0 := by
  have h : k < s.data.toList.length := by simpa using hk
  rw [List.getD_eq_getElem?_getD, List.getElem?_eq_getElem h]
  simp
  rfl
theorem bits_at {s : ByteArray} (h : bitsB 40 s.data.toList = true) (hs : s.size = 4) : ∀ k, k < 4 → s.data.toList.getD k 0 = 48 ∨ s.data.toList.getD k 0 = 49 := by
  intro k hk
  have ha : s.data.toList.length ≤ 40 ∧ s.data.toList.all isBit = true := by simpa [bitsB] using h
  have hl : k < s.data.toList.length := by
    have : s.data.toList.length = s.size := by simp
    omega
  rw [List.getD_eq_getElem?_getD, List.getElem?_eq_getElem hl]
  exact isBit_cases (List.all_eq_true.1 ha.2 _ (List.getElem_mem hl))

end Go.Proofs.YtndpbhmokobbpaaGreatDoor

namespace Go.Proofs.YtndpbhmokobbpaaGreatDoor
open Go.RowKit
set_option linter.unusedVariables false

/-- The four bits among seven. -/
def four (y : Nat → UInt8) : List UInt8 := [y 2, y 4, y 5, y 6]
/-- Seven bytes as a value. -/
def sevenV (y : Nat → UInt8) : Array Value := #[.int .u8 ((y 0).toNat : Int), .int .u8 ((y 1).toNat : Int), .int .u8 ((y 2).toNat : Int), .int .u8 ((y 3).toNat : Int), .int .u8 ((y 4).toNat : Int), .int .u8 ((y 5).toNat : Int), .int .u8 ((y 6).toNat : Int)]
/-- What stands while the four are taken: the seven in their block, the tables, and what is taken so far. -/
structure Gdd (w w' : World) (y : Nat → UInt8) : Prop where
  s : ∀ j, j < 7 → w'.cell? ⟨w.heap.size, j, none⟩ = some (.int .u8 ((y j).toNat : Int))
  t : Tabs w'
  b : Below w.heap.size w w'
  z : w.heap.size < w'.heap.size
  z0 : 1 < w.heap.size
theorem Gdd.new {w : World} (h : Tabs w) (y : Nat → UInt8) (t : TypeId) : Gdd w (w.alloc (.cells (sevenV y) t)) y := by
  refine ⟨fun j hj => ?_, h.below ((Below.refl _ _).alloc (Nat.le_refl _) _) h.sz, (Below.refl _ _).alloc (Nat.le_refl _) _, by simp, h.sz⟩
  rw [cell_of_row _ w.heap.size j _ t (0, 0) (heap_alloc_new w _)]
  match j, hj with
  | 0, _ => rfl
  | 1, _ => rfl
  | 2, _ => rfl
  | 3, _ => rfl
  | 4, _ => rfl
  | 5, _ => rfl
  | 6, _ => rfl
  | n + 7, h => omega
theorem Gdd.grown {w w1 w2 : World} {y : Nat → UInt8} {row : Option Nat} (h : Gdd w w1 y) (hg : w1.grownBy w2 row) (hr : ∀ k, row = some k → w.heap.size + 1 ≤ k) : Gdd w w2 y := by
  have hb : Below (w.heap.size + 1) w1 w2 := (Below.refl _ w1).grown hg (by have := h.z; omega) hr
  exact ⟨fun j hj => (hb.cell (p := ⟨w.heap.size, j, none⟩) (by simp)).trans (h.s j hj), h.t.below hb (by have := h.z0; omega), h.b.trans (hb.mono (by omega)), Nat.lt_of_lt_of_le h.z hb.size, h.z0⟩
theorem Gdd.alloc {w w1 : World} {y : Nat → UInt8} (h : Gdd w w1 y) (o : Obj) : Gdd w (w1.alloc o) y := by
  have hb : Below (w.heap.size + 1) w1 (w1.alloc o) := (Below.refl _ _).alloc (by have := h.z; omega) _
  exact ⟨fun j hj => (hb.cell (p := ⟨w.heap.size, j, none⟩) (by simp)).trans (h.s j hj), h.t.below hb (by have := h.z0; omega), h.b.trans (hb.mono (by omega)), Nat.lt_of_lt_of_le h.z hb.size, h.z0⟩

set_option maxHeartbeats 3200000 in
theorem igr_any (w : World) (h : Tabs w) (y : Nat → UInt8) :
    Calls Tryz.prog 64 #[.agg (sevenV y)] w fun e w' => e = .returned (.string ⟨(four y).toArray⟩) ∧ Below w.heap.size w w' := by
  obtain ⟨i0, hi, hz0, hz1, hz2⟩ := info_parts info5
  have HI := Lib.hid hi
  have HZ0 := Lib.hid hz0
  have HZ1 := Lib.hid hz1
  have HZ2 := Lib.hid hz2
  have HG := Lib.hid (Gdd.new h y 65)
  clear hi hz0 hz1 hz2 h
  unfold sevenV at *
  go_enter Tryz.func64, Tryz.ntmps64
  go_wp2_with (at_make; refine wpList_make_own _ rfl _ _ 28 rfl (w.heap.size + 1) 5 i0 (.int .u8 0) 1 Tryz.underlying28 HI.out HZ0.out HZ1.out _ _ _ 4 rfl rfl rfl (by rw [HZ2.out]; omega) (by unfold maxLen; omega) (by simp) ?_; intro w1 hown1 hg1; have HG1 := Lib.hid ((HG.out).grown hg1 (by intro k hk; cases hk)); have t0 := HG1.out.t.a0; have t1 := HG1.out.t.a1; have t2 := HG1.out.t.a2; have t3 := HG1.out.t.a3; have HO1 := Lib.hid hown1; clear hown1 hg1)
  clear t0 t1 t2 t3
  go_loopg [3, 8] 4 (fun g bv iv wr => ∃ i : Nat, i ≤ 4 ∧ g = 4 - i ∧ iv = .int .i64 i ∧ wr.ownsRow (w.heap.size + 1) 5 1 bv i (cellsOf ((four y).take i)) ∧ Gdd w wr y)
  case atStart => exact ⟨0, by omega, rfl, rfl, by simpa [cellsOf, World.size_alloc] using HO1.out, HG1.out⟩
  case round =>
    obtain ⟨i, hi, hg, rfl, hown, hG⟩ := hrel
    have HGG := Lib.hid hg
    have HGD := Lib.hid hG
    have HOW := Lib.hid hown
    obtain ⟨A, cp, rfl⟩ := own_form hown
    have hzz := hG.z
    have hz0 := hG.z0
    clear hg hown
    rcases (show i = 0 ∨ i = 1 ∨ i = 2 ∨ i = 3 ∨ i = 4 from by omega) with rfl | rfl | rfl | rfl | rfl
    · have hix := idx4_0 wr
      have hcx := hG.s 2 (by omega)
      clear hG
      go_wp2_with (at_builtin; refine wpList_append_own _ rfl (.tmp 11) (.tmp 16) 28 rfl (w.heap.size + 1) 5 i0 (.int .u8 0) 1 1 Tryz.underlying28 HI.out HZ0.out HZ1.out HZ2.out rfl (by decide) _ _ _ rfl (HOW.out.alloc _) ⟨wr.heap.size, 0, none⟩ 1 1 [.int .u8 ((y 2).toNat : Int)] rfl rfl (cell_one_new _ _ _) (one_cell _ rfl) (by unfold maxLen; omega) (by omega) (by simp; omega) ?_; intro v9 w9 hown9 hg9 hnil; clear hnil)
      go_roundg 3
      case measure => have := HGG.out; omega
      case rel => exact ⟨1, by omega, rfl, rfl, by simpa [four, cellsOf] using hown9, (HGD.out.alloc _).grown hg9 (fun j hj => (HOW.out.lt j hj).1)⟩
    · have hix := idx4_1 wr
      have hcx := hG.s 4 (by omega)
      clear hG
      go_wp2_with (at_builtin; refine wpList_append_own _ rfl (.tmp 11) (.tmp 16) 28 rfl (w.heap.size + 1) 5 i0 (.int .u8 0) 1 1 Tryz.underlying28 HI.out HZ0.out HZ1.out HZ2.out rfl (by decide) _ _ _ rfl (HOW.out.alloc _) ⟨wr.heap.size, 0, none⟩ 1 1 [.int .u8 ((y 4).toNat : Int)] rfl rfl (cell_one_new _ _ _) (one_cell _ rfl) (by unfold maxLen; omega) (by omega) (by simp; omega) ?_; intro v9 w9 hown9 hg9 hnil; clear hnil)
      go_roundg 2
      case measure => have := HGG.out; omega
      case rel => exact ⟨2, by omega, rfl, rfl, by simpa [four, cellsOf] using hown9, (HGD.out.alloc _).grown hg9 (fun j hj => (HOW.out.lt j hj).1)⟩
    · have hix := idx4_2 wr
      have hcx := hG.s 5 (by omega)
      clear hG
      go_wp2_with (at_builtin; refine wpList_append_own _ rfl (.tmp 11) (.tmp 16) 28 rfl (w.heap.size + 1) 5 i0 (.int .u8 0) 1 1 Tryz.underlying28 HI.out HZ0.out HZ1.out HZ2.out rfl (by decide) _ _ _ rfl (HOW.out.alloc _) ⟨wr.heap.size, 0, none⟩ 1 1 [.int .u8 ((y 5).toNat : Int)] rfl rfl (cell_one_new _ _ _) (one_cell _ rfl) (by unfold maxLen; omega) (by omega) (by simp; omega) ?_; intro v9 w9 hown9 hg9 hnil; clear hnil)
      go_roundg 1
      case measure => have := HGG.out; omega
      case rel => exact ⟨3, by omega, rfl, rfl, by simpa [four, cellsOf] using hown9, (HGD.out.alloc _).grown hg9 (fun j hj => (HOW.out.lt j hj).1)⟩
    · have hix := idx4_3 wr
      have hcx := hG.s 6 (by omega)
      clear hG
      go_wp2_with (at_builtin; refine wpList_append_own _ rfl (.tmp 11) (.tmp 16) 28 rfl (w.heap.size + 1) 5 i0 (.int .u8 0) 1 1 Tryz.underlying28 HI.out HZ0.out HZ1.out HZ2.out rfl (by decide) _ _ _ rfl (HOW.out.alloc _) ⟨wr.heap.size, 0, none⟩ 1 1 [.int .u8 ((y 6).toNat : Int)] rfl rfl (cell_one_new _ _ _) (one_cell _ rfl) (by unfold maxLen; omega) (by omega) (by simp; omega) ?_; intro v9 w9 hown9 hg9 hnil; clear hnil)
      go_roundg 0
      case measure => have := HGG.out; omega
      case rel => exact ⟨4, by omega, rfl, rfl, by simpa [four, cellsOf] using hown9, (HGD.out.alloc _).grown hg9 (fun j hj => (HOW.out.lt j hj).1)⟩
    · clear hG
      have hcv := own_text (P := Tryz.prog) (src := 28) (dst := 9) Tryz.underlying28 Tryz.underlying5 Tryz.underlying9 (l := four y) (show wr.ownsRow (w.heap.size + 1) 5 1 (.slice A 4 cp) (four y).length (cellsOf (four y)) from HOW.out)
      go_wp2
      go_ret
      exact ⟨rfl, HGD.out.b⟩
end Go.Proofs.YtndpbhmokobbpaaGreatDoor

namespace Go.Proofs.YtndpbhmokobbpaaGreatDoor
open Go.RowKit
set_option linter.unusedVariables false

/-- Block g holds just these cells, and none of them is frozen. -/
def Blk (w : World) (g : Nat) (t : TypeId) (cs : Array Value) : Prop := w.heap[g]? = some (.cells cs t (0, 0))
section
variable {w w' : World} {g : Nat} {t : TypeId} {cs : Array Value}
theorem Blk.lt (h : Blk w g t cs) : g < w.heap.size := by
  rcases Nat.lt_or_ge g w.heap.size with hlt | hge
  · exact hlt
  · unfold Blk at h; rw [Array.getElem?_eq_none hge] at h; cases h
theorem Blk.cell (h : Blk w g t cs) (i : Nat) : w.cell? ⟨g, i, none⟩ = cs[i]? := cell_of_row w g i cs t (0, 0) h
theorem Blk.frozen (h : Blk w g t cs) (i : Nat) : w.frozen? ⟨g, i, none⟩ = false := by
  unfold Blk at h
  simp [World.frozen?, h]
theorem Blk.new (w : World) (t : TypeId) (cs : Array Value) : Blk (w.alloc (.cells cs t)) w.heap.size t cs := heap_alloc_new w _
theorem Blk.drewN (h : Blk w g t cs) (n : Nat) : Blk (w.drewN n) g t cs := h
theorem Blk.alloc (h : Blk w g t cs) (o : Obj) : Blk (w.alloc o) g t cs := (Below.heap_alloc w o g h.lt).trans h
theorem Blk.set_ (h : Blk w g t cs) (i : Nat) (u : Value) : Blk (w.setCell ⟨g, i, none⟩ u) g t (cs.setIfInBounds i u) := by
  unfold Blk at h ⊢
  simp [World.setCell, Array.getElem?_modify, h]
theorem Blk.far (h : Blk w g t cs) {p : Addr} (hp : g ≠ p.block) (u : Value) : Blk (w.setCell p u) g t cs := (Below.heap_setCell w p u g hp).trans h
theorem Blk.below {B : Nat} (h : Blk w g t cs) (hb : Below B w w') (hg : g < B) : Blk w' g t cs := (hb.block g hg).trans h
end
/-- A block of four. -/
theorem Blk.c4 {w : World} {g : Nat} {t : TypeId} {x0 x1 x2 x3 : Value} (h : Blk w g t #[x0, x1, x2, x3]) :
    w.cell? ⟨g, 0, none⟩ = some x0 ∧ w.cell? ⟨g, 1, none⟩ = some x1 ∧ w.cell? ⟨g, 2, none⟩ = some x2 ∧ w.cell? ⟨g, 3, none⟩ = some x3 :=
  ⟨h.cell 0, h.cell 1, h.cell 2, h.cell 3⟩
/-- A block of six. -/
theorem Blk.c6 {w : World} {g : Nat} {t : TypeId} {x0 x1 x2 x3 x4 x5 : Value} (h : Blk w g t #[x0, x1, x2, x3, x4, x5]) :
    w.cell? ⟨g, 0, none⟩ = some x0 ∧ w.cell? ⟨g, 1, none⟩ = some x1 ∧ w.cell? ⟨g, 2, none⟩ = some x2 ∧ w.cell? ⟨g, 3, none⟩ = some x3 ∧ w.cell? ⟨g, 4, none⟩ = some x4 ∧ w.cell? ⟨g, 5, none⟩ = some x5 :=
  ⟨h.cell 0, h.cell 1, h.cell 2, h.cell 3, h.cell 4, h.cell 5⟩
theorem Blk.f6 {w : World} {g : Nat} {t : TypeId} {cs : Array Value} (h : Blk w g t cs) :
    w.frozen? ⟨g, 0, none⟩ = false ∧ w.frozen? ⟨g, 1, none⟩ = false ∧ w.frozen? ⟨g, 2, none⟩ = false ∧ w.frozen? ⟨g, 3, none⟩ = false ∧ w.frozen? ⟨g, 4, none⟩ = false ∧ w.frozen? ⟨g, 5, none⟩ = false :=
  ⟨h.frozen 0, h.frozen 1, h.frozen 2, h.frozen 3, h.frozen 4, h.frozen 5⟩
theorem Blk.set6 {w : World} {g : Nat} {t : TypeId} {x0 x1 x2 x3 x4 x5 : Value} (h : Blk w g t #[x0, x1, x2, x3, x4, x5]) (a b c d e f : Value) :
    Blk ((((((w.setCell ⟨g, 0, none⟩ a).setCell ⟨g, 1, none⟩ b).setCell ⟨g, 2, none⟩ c).setCell ⟨g, 3, none⟩ d).setCell ⟨g, 4, none⟩ e).setCell ⟨g, 5, none⟩ f) g t #[a, b, c, d, e, f] := by
  have := (((((h.set_ 0 a).set_ 1 b).set_ 2 c).set_ 3 d).set_ 4 e).set_ 5 f
  simpa using this
theorem Blk.drew {w : World} {g : Nat} {t : TypeId} {cs : Array Value} (h : Blk w g t cs) : Blk w.drew g t cs := h
theorem Blk.far6 {w : World} {g g' : Nat} {t : TypeId} {cs : Array Value} (h : Blk w g t cs) (hg : g ≠ g') (a b c d e f : Value) :
    Blk ((((((w.setCell ⟨g', 0, none⟩ a).setCell ⟨g', 1, none⟩ b).setCell ⟨g', 2, none⟩ c).setCell ⟨g', 3, none⟩ d).setCell ⟨g', 4, none⟩ e).setCell ⟨g', 5, none⟩ f) g t cs :=
  (((((h.far (p := ⟨g', 0, none⟩) hg a).far (p := ⟨g', 1, none⟩) hg b).far (p := ⟨g', 2, none⟩) hg c).far (p := ⟨g', 3, none⟩) hg d).far (p := ⟨g', 4, none⟩) hg e).far (p := ⟨g', 5, none⟩) hg f
theorem belowDr {B : Nat} {w w' : World} (h : Below B w w') : Below B w w'.drew := ⟨h.os, h.tape, h.output, h.size, h.block⟩
theorem results_row_tmp {P : Program} {fn : Func} {p u : Tmp} {ty : TypeId} (h : fn.results = #[.cell p ty, .tmp u]) (tmps : Array Value) (w : World) (g : Nat) (t : TypeId) (cs : Array Value) (fr : Nat × Nat) (d : TypeDesc)
    (hp : tmps.getD p undef = .pointer (some ⟨g, 0, none⟩)) (hg : w.heap[g]? = some (.cells cs t fr))
    (hu : P.underlying ty = some d) (hd : (match d with | .struct _ | .array _ _ => true | _ => false) = true) (hi : (P.info? ty).map (·.size) = some cs.size) :
    (results fn tmps).run P w = .ok (.tuple #[.agg cs, tmps.getD u undef]) w := by
  have hp' : tmps[p]?.getD undef = .pointer (some ⟨g, 0, none⟩) := by simpa using hp
  simp [results, h, hp', asAddr, Result.andThen, run_loadVar_row w g t ty cs fr d hg hu hd hi]
theorem results_row_tmp2 {P : Program} {fn : Func} {p u v : Tmp} {ty : TypeId} (h : fn.results = #[.cell p ty, .tmp u, .tmp v]) (tmps : Array Value) (w : World) (g : Nat) (t : TypeId) (cs : Array Value) (fr : Nat × Nat) (d : TypeDesc)
    (hp : tmps.getD p undef = .pointer (some ⟨g, 0, none⟩)) (hg : w.heap[g]? = some (.cells cs t fr))
    (hu : P.underlying ty = some d) (hd : (match d with | .struct _ | .array _ _ => true | _ => false) = true) (hi : (P.info? ty).map (·.size) = some cs.size) :
    (results fn tmps).run P w = .ok (.tuple #[.agg cs, tmps.getD u undef, tmps.getD v undef]) w := by
  have hp' : tmps[p]?.getD undef = .pointer (some ⟨g, 0, none⟩) := by simpa using hp
  simp [results, h, hp', asAddr, Result.andThen, run_loadVar_row w g t ty cs fr d hg hu hd hi]
theorem belowD {B : Nat} {w w' : World} (h : Below B w w') (n : Nat) : Below B w (w'.drewN n) :=
  ⟨h.os, h.tape, h.output, h.size, h.block⟩
end Go.Proofs.YtndpbhmokobbpaaGreatDoor

namespace Go.Proofs.YtndpbhmokobbpaaGreatDoor
open Go.RowKit
set_option linter.unusedVariables false

/-- A world that meets a condition. -/
structure Wld (S : World → Prop) where
  v : World
  h : S v
theorem Wld.ne {S : World → Prop} {w : World} (h : S w) : Nonempty (Wld S) := ⟨⟨w, h⟩⟩
theorem wp_region_heldq {P : Program} {id : Nat} {Q : Exit → Act → World → Prop} {a : Act} {w : World} {l : List Oper} (S : World → Prop) (hm : P.follows .mixedOrders = true) (hB : Region.lexB .any l.toArray = true) (h0 : S w.drew)
    (h : wpQuiet P l.toArray (fun w' => ∃ x : Wld S, w' = x.v) (fun a' => ∀ w', (∃ x : Wld S, w' = x.v) → Q .normal a' w') l a) : (Code.region id l.toArray true).wp P Q a w :=
  wp_region_quiet (C := fun w' => ∃ x : Wld S, w' = x.v) hm hB ⟨⟨w.drew, h0⟩, rfl⟩ (by simpa using h)
theorem held_same {S : World → Prop} {P : Program} {f : FuncId} {args : Array Value} {x : Wld S} {v : Value} (h : Calls P f args x.v fun e w' => e = .returned v ∧ x.v = w') :
    Calls P f args x.v fun e w'' => e = .returned v ∧ ∃ y : Wld S, w'' = y.v :=
  h.mono fun e w' ⟨he, hw⟩ => ⟨he, x, hw.symm⟩
theorem held_below {S : World → Prop} (keep : ∀ w w', S w → Below w.heap.size w w' → S w') {P : Program} {f : FuncId} {args : Array Value} {x : Wld S} {v : Value} (h : Calls P f args x.v fun e w' => e = .returned v ∧ Below x.v.heap.size x.v w') :
    Calls P f args x.v fun e w'' => e = .returned v ∧ ∃ y : Wld S, w'' = y.v :=
  h.mono fun e w' ⟨he, hw⟩ => ⟨he, ⟨w', keep _ _ x.h hw⟩, rfl⟩
end Go.Proofs.YtndpbhmokobbpaaGreatDoor
