/-
  The walks of the functions that copy, compare, mark and look over lists of numbers. Conditions: where the lists lie, and the lengths that are typed.
-/
import Derived.Test.YtndpbhmokobbpaaGreatDoorDm01
import Derived.Test.YtndpbhmokobbpaaGreatDoorRows
import Derived.WalkLawsBesides
import Derived.WalkSpells
import Derived.Outline
import Derived.BigQuiet
import Derived.Deep.QuietTactic
import Derived.OpenShut
namespace Go.Proofs.YtndpbhmokobbpaaGreatDoor
open Go.RowKit
set_option linter.unusedVariables false

theorem info3 : (Tryz.prog.info? 3).map (fun i => (i.zero, i.size, i.bytes)) = some (some (.int .i64 0), 1, 8) := by kernel_rfl

/-- Numbers as values. -/
def ints (xs : List Int) : List Value := xs.map (Value.int .i64)
theorem ints_len (xs : List Int) : (ints xs).length = xs.length := by simp [ints]
theorem ints_get (xs : List Int) (j : Nat) (h : j < xs.length) : (ints xs)[j]? = some (.int .i64 (xs.getD j 0)) := by
  simp [ints, List.getD_eq_getElem?_getD, List.getElem?_eq_getElem h]
theorem ints_set (xs : List Int) (k : Nat) (x : Int) : (ints xs).set k (.int .i64 x) = ints (xs.set k x) := by simp [ints, List.map_set]
theorem ints_app (xs ys : List Int) : ints (xs ++ ys) = ints xs ++ ints ys := by simp [ints]

/-- The cells from off on of block b are the numbers xs. -/
def At (w : World) (b off : Nat) (xs : List Int) : Prop := b < w.heap.size ∧ ∀ j, j < xs.length → w.cell? ⟨b, off + j, none⟩ = some (.int .i64 (xs.getD j 0))
theorem At.below {w w' : World} {b off B : Nat} {xs : List Int} (h : At w b off xs) (hb : Below B w w') (hB : b < B) : At w' b off xs :=
  ⟨Nat.lt_of_lt_of_le h.1 hb.size, fun j hj => (hb.cell (p := ⟨b, off + j, none⟩) hB).trans (h.2 j hj)⟩
theorem At.drewN {w : World} {b off : Nat} {xs : List Int} (h : At w b off xs) (n : Nat) : At (w.drewN n) b off xs := h

/-- A row of the call's own, at block g. -/
def OwnI (w : World) (B g cap : Nat) (xs : List Int) : Prop := w.ownsRow B 3 1 (.slice (some ⟨g, 0, none⟩) xs.length cap) xs.length (ints xs)
theorem OwnI.at_ {w : World} {B g cap : Nat} {xs : List Int} (h : OwnI w B g cap xs) : At w g 0 xs := by
  refine ⟨(h.lt g rfl).2, fun j hj => ?_⟩
  have := h.cellAt j (by omega)
  rw [Nat.zero_add, this, ints_get xs j hj]
theorem OwnI.ge {w : World} {B g cap : Nat} {xs : List Int} (h : OwnI w B g cap xs) : B ≤ g := (h.lt g rfl).1
theorem OwnI.kept {w w' : World} {B g g' cap : Nat} {xs : List Int} (h : OwnI w B g cap xs) (hg : w.grownBy w' (some g')) (hne : g ≠ g') : OwnI w' B g cap xs :=
  World.ownsRow.kept h hg (.inr (by simp [Value.ownBlock]; exact hne))
theorem own_below {w w' : World} {B B' e n : Nat} {v : Value} {xs : List Value} (h : w.ownsRow B e 1 v n xs) (hb : Below B' w w') (hB : ∀ g, v.ownBlock = some g → g < B') : w'.ownsRow B e 1 v n xs := by
  obtain ⟨h1, h2⟩ := h
  refine ⟨h1, ?_⟩
  rcases h2 with h2 | ⟨g, cap, cur, a, b, c, d⟩
  · exact .inl h2
  · exact .inr ⟨g, cap, cur, a, b, by rw [hb.block g (hB g (by rw [a]; rfl))]; exact c, d⟩
theorem own_base {w : World} {B B' e n : Nat} {v : Value} {xs : List Value} (h : w.ownsRow B e 1 v n xs) (hB : ∀ g, v.ownBlock = some g → B' ≤ g) : w.ownsRow B' e 1 v n xs := by
  obtain ⟨h1, h2⟩ := h
  refine ⟨h1, ?_⟩
  rcases h2 with h2 | ⟨g, cap, cur, a, b, c, d⟩
  · exact .inl h2
  · exact .inr ⟨g, cap, cur, a, hB g (by rw [a]; rfl), c, d⟩
theorem OwnI.below {w w' : World} {B B' g cap : Nat} {xs : List Int} (h : OwnI w B g cap xs) (hb : Below B' w w') (hg : g < B') : OwnI w' B g cap xs :=
  own_below h hb (fun k hk => by simp [Value.ownBlock] at hk; omega)

theorem fill_step (xs : List Int) (n k : Nat) (hn : xs.length = n) (h : k < n) : (xs.take k ++ List.replicate (n - k) (0 : Int)).set k (xs.getD k 0) = xs.take (k + 1) ++ List.replicate (n - (k + 1)) 0 := by
  have hk : (xs.take k).length = k := by rw [List.length_take]; omega
  have e : xs.take (k + 1) = xs.take k ++ [xs.getD k 0] := by
    rw [List.take_add_one, List.getElem?_eq_getElem (by omega : k < xs.length)]
    simp [List.getD_eq_getElem?_getD, List.getElem?_eq_getElem (by omega : k < xs.length)]
  obtain ⟨m, hm⟩ : ∃ m, n - k = m + 1 := ⟨n - k - 1, by omega⟩
  rw [e, List.set_append, if_neg (by omega), hk, Nat.sub_self, hm, List.replicate_succ, List.set_cons_zero, show n - (k + 1) = m from by omega]
  simp
theorem fill_len (xs : List Int) (n k : Nat) (hn : xs.length = n) (h : k ≤ n) : (xs.take k ++ List.replicate (n - k) (0 : Int)).length = n := by
  rw [List.length_append, List.length_take, List.length_replicate]; omega

/-- A value that is a list of numbers that can be read. -/
def Rds (w : World) (v : Value) (xs : List Int) : Prop := ∃ A c, v = .slice A xs.length c ∧ (0 < xs.length → ∃ b off, A = some ⟨b, off, none⟩ ∧ At w b off xs)
theorem Rds.drewN {w : World} {v : Value} {xs : List Int} (h : Rds w v xs) (n : Nat) : Rds (w.drewN n) v xs := h
theorem Rds.of_at {w : World} {b off c : Nat} {xs : List Int} (h : At w b off xs) : Rds w (.slice (some ⟨b, off, none⟩) xs.length c) xs := ⟨_, c, rfl, fun _ => ⟨b, off, rfl, h⟩⟩
theorem Rds.nil {w : World} {A : Option Addr} {c : Nat} : Rds w (.slice A 0 c) [] := ⟨A, c, rfl, fun h => absurd h (by simp)⟩
theorem Rds.of_own {w : World} {B : Nat} {v : Value} {xs : List Int} (h : w.ownsRow B 3 1 v xs.length (ints xs)) : Rds w v xs := by
  obtain ⟨A, c, rfl⟩ := own_form h
  refine ⟨A, c, rfl, fun h0 => ?_⟩
  rcases h.2 with ⟨_, h1⟩ | ⟨g, cap, cur, hv, _⟩
  · omega
  · have e : A = some ⟨g, 0, none⟩ := by injection hv
    subst e
    exact ⟨g, 0, rfl, (OwnI.at_ (g := g) (cap := c) h)⟩
/-- The block of a value lies below B. -/
def Lies (B : Nat) (v : Value) (xs : List Int) : Prop := 0 < xs.length → ∀ g, v.ownBlock = some g → g < B
theorem Rds.below {w w' : World} {B : Nat} {v : Value} {xs : List Int} (h : Rds w v xs) (hb : Below B w w') (hv : Lies B v xs) : Rds w' v xs := by
  obtain ⟨A, c, rfl, h1⟩ := h
  refine ⟨A, c, rfl, fun h0 => ?_⟩
  obtain ⟨b, off, rfl, ha⟩ := h1 h0
  exact ⟨b, off, rfl, ha.below hb (hv h0 b rfl)⟩

theorem getD_ext {xs ys : List Int} (hl : xs.length = ys.length) (h : ∀ j, j < xs.length → xs.getD j 0 = ys.getD j 0) : xs = ys := by
  apply List.ext_getElem hl
  intro j h1 h2
  have := h j h1
  simpa [List.getD_eq_getElem?_getD, List.getElem?_eq_getElem h1, List.getElem?_eq_getElem h2] using this

/-- k, k + 1, and so on: n numbers. -/
def seqI (k : Int) (n : Nat) : List Int := (List.range n).map fun (j : Nat) => k + (j : Int)
theorem seqI_len (k : Int) (n : Nat) : (seqI k n).length = n := by simp [seqI]
theorem seqI_get (k : Int) (n j : Nat) (h : j < n) : (seqI k n).getD j 0 = k + j := by
  simp [seqI, List.getD_eq_getElem?_getD, h]
theorem seqI_succ (k : Int) (n : Nat) : seqI k (n + 1) = seqI k n ++ [k + (n : Int)] := by simp [seqI, List.range_succ]
theorem mark_step (k0 : Int) (xs : List Int) (k : Nat) (h : k < xs.length) : (seqI k0 k ++ xs.drop k).set k (k0 + (k : Int)) = seqI k0 (k + 1) ++ xs.drop (k + 1) := by
  rw [List.set_append, if_neg (by rw [seqI_len]; omega), seqI_len, Nat.sub_self, List.drop_eq_getElem_cons h, List.set_cons_zero, seqI_succ]
  simp
theorem mark_len (k0 : Int) (xs : List Int) (k : Nat) (h : k ≤ xs.length) : (seqI k0 k ++ xs.drop k).length = xs.length := by
  rw [List.length_append, seqI_len, List.length_drop]; omega
theorem grown_trans' {a b c : World} {row : Option Nat} (h : a.grownBy b row) (k : b.grownBy c row) : a.grownBy c row :=
  ⟨k.os.trans h.os, k.tape.trans h.tape, k.output.trans h.output, Nat.le_trans h.size k.size, fun i hi hn => (k.block i (Nat.lt_of_lt_of_le hi h.size) hn).trans (h.block i hi hn)⟩

theorem rds_of_row {w : World} {a : Option Addr} {len cap : Nat} {zs : List Int} (h : IsRow .i64 w a len cap zs) : ∃ xs, xs.length = len ∧ Rds w (.slice a len cap) xs ∧ Lies w.heap.size (.slice a len cap) xs := by
  rcases h with ⟨rfl, rfl, rfl, rfl⟩ | ⟨⟨b, off, spot⟩, rfl, hlc, _, hzl, hc, _⟩
  · exact ⟨[], rfl, Rds.nil, fun h0 => absurd h0 (by simp)⟩
  · have hlen : (zs.take len).length = len := by rw [List.length_take]; omega
    rcases Nat.eq_zero_or_pos cap with h0 | h0
    · obtain rfl : len = 0 := by omega
      exact ⟨[], rfl, Rds.nil, fun h0 => absurd h0 (by simp)⟩
    · have hc0 := hc 0 (by omega)
      have hspot : spot = none := by simpa [Addr.add] using World.cell?_spot hc0
      subst hspot
      have hb : b < w.heap.size := by simpa [Addr.add] using World.block_lt_of_cell? w _ hc0
      refine ⟨zs.take len, hlen, ⟨_, cap, by rw [hlen], fun _ => ⟨b, off, rfl, hb, fun j hj => ?_⟩⟩, fun _ g hg => by simp [Value.ownBlock] at hg; omega⟩
      rw [hlen] at hj
      have := hc j (by omega)
      have e : (⟨b, off, none⟩ : Addr).add j = ⟨b, off + j, none⟩ := by unfold Addr.add; split <;> simp_all
      rw [e] at this
      rw [this]
      simp [List.getD_eq_getElem?_getD, hj]
theorem Rds.grown {w w' : World} {v : Value} {xs : List Int} {g : Nat} (h : Rds w v xs) (hg : w.grownBy w' (some g)) (hv : 0 < xs.length → v.ownBlock ≠ some g) : Rds w' v xs := by
  obtain ⟨A, c, rfl, h1⟩ := h
  refine ⟨A, c, rfl, fun h0 => ?_⟩
  obtain ⟨b, off, rfl, ha⟩ := h1 h0
  have hb : b < w.heap.size := ha.1
  refine ⟨b, off, rfl, Nat.lt_of_lt_of_le hb hg.size, fun j hj => ?_⟩
  rw [World.cell?_of_block (w := w) (w' := w') (a := ⟨b, off + j, none⟩) (hg.block b hb (fun e => hv h0 (by rw [← e]; rfl)))]
  exact ha.2 j hj
theorem own_lies {w : World} {B n : Nat} {v : Value} {zs : List Value} {xs : List Int} (h : w.ownsRow B 3 1 v n zs) : Lies w.heap.size v xs := fun _ g hg => (h.lt g hg).2
theorem Lies.mono {B B' : Nat} {v : Value} {xs : List Int} (h : Lies B v xs) (hB : B ≤ B') : Lies B' v xs := fun h0 g hg => Nat.lt_of_lt_of_le (h h0 g hg) hB
theorem Lies.ne {B g : Nat} {v : Value} {xs : List Int} (h : Lies B v xs) (hg : B ≤ g) : 0 < xs.length → v.ownBlock ≠ some g := fun h0 he => by have := h h0 g he; omega
theorem below_grown {B g : Nat} {w w1 w2 : World} (h : Below B w w1) (hg : w1.grownBy w2 (some g)) (hB : B ≤ g) (hs : B ≤ w1.heap.size) : Below B w w2 :=
  h.grown hg hs (fun k hk => by cases hk; exact hB)
theorem below_row {B : Nat} {w w1 w2 : World} {row : Option Nat} (h : Below B w w1) (hg : w1.grownBy w2 row) (hB : ∀ g, row = some g → B ≤ g) (hs : B ≤ w1.heap.size) : Below B w w2 :=
  h.grown hg hs hB
theorem Rds.grownRow {w w' : World} {v : Value} {xs : List Int} {row : Option Nat} (h : Rds w v xs) (hg : w.grownBy w' row) (hv : 0 < xs.length → ∀ g, row = some g → v.ownBlock ≠ some g) : Rds w' v xs := by
  cases row with
  | none =>
    obtain ⟨A, c, rfl, h1⟩ := h
    refine ⟨A, c, rfl, fun h0 => ?_⟩
    obtain ⟨b, off, rfl, ha⟩ := h1 h0
    have hb : b < w.heap.size := ha.1
    refine ⟨b, off, rfl, Nat.lt_of_lt_of_le hb hg.size, fun j hj => ?_⟩
    rw [World.cell?_of_block (w := w) (w' := w') (a := ⟨b, off + j, none⟩) (hg.block b hb (fun e => by cases e))]
    exact ha.2 j hj
  | some g => exact h.grown hg (fun h0 => hv h0 g rfl)
/-- Behind an append onto an own row what was there before is as it was. -/
theorem push_below {B : Nat} {w W w1 : World} {e n : Nat} {v : Value} {xs : List Value} {o : Obj} (hown : W.ownsRow B e 1 v n xs) (hg : (W.alloc o).grownBy w1 v.ownBlock) (hb : Below B w W) (hB : B ≤ W.heap.size) : Below B w w1 ∧ B ≤ w1.heap.size := by
  refine ⟨(hb.alloc hB o).grown hg (by simp; omega) (fun j hj => (hown.lt j hj).1), ?_⟩
  have := hg.size
  simp at this; omega
theorem two_cells (x y : Value) (hx : x.oneCell' = true) (hy : y.oneCell' = true) : ∀ u ∈ [x, y], u.oneCell' = true := by
  intro u hu; simp at hu; rcases hu with rfl | rfl <;> assumption
theorem ownI_snoc {w1 : World} {B e : Nat} {v : Value} {l : List Int} {x : Int} (h : w1.ownsRow B e 1 v (l.length + 1) (ints l ++ [.int .i64 x])) : w1.ownsRow B e 1 v (l ++ [x]).length (ints (l ++ [x])) := by
  rw [ints_app]; simpa [ints] using h
theorem ownI_snoc2 {w1 : World} {B e : Nat} {v : Value} {l : List Int} {x y : Int} (h : w1.ownsRow B e 1 v (l.length + 2) (ints l ++ [.int .i64 x, .int .i64 y])) : w1.ownsRow B e 1 v (l ++ [x, y]).length (ints (l ++ [x, y])) := by
  rw [ints_app]; simpa [ints] using h

theorem mx : maxLen = 9223372036854775807 := rfl
theorem own_form_some {w : World} {B e n : Nat} {v : Value} {xs : List Value} (h : w.ownsRow B e 1 v n xs) (hn : 0 < n) : ∃ g c, v = .slice (some ⟨g, 0, none⟩) n c := by
  rcases h.2 with ⟨_, h0⟩ | ⟨g, cap, cur, rfl, _⟩
  · omega
  · exact ⟨g, cap, rfl⟩
/-- The two results of a call, the first in memory of the call's own. -/
def UnPost (r : Option (List Int)) (w : World) (e : Ending) (w' : World) : Prop :=
  ∃ u, e = .returned (.tuple #[u, .bool r.isSome]) ∧ w'.ownsRow w.heap.size 3 1 u (r.getD []).length (ints (r.getD [])) ∧ Below w.heap.size w w'
theorem unPost_none {w w' : World} {r : Option (List Int)} (h : r = none) (hb : Below w.heap.size w w') : UnPost r w (.returned (.tuple #[.slice none 0 0, .bool false])) w' := by
  subst h
  exact ⟨_, rfl, World.ownsRow_nil _ _ _ _, hb⟩
theorem unPost_some {w w' : World} {r : Option (List Int)} {o : List Int} {v : Value} (h : r = some o) (ho : w'.ownsRow w.heap.size 3 1 v o.length (ints o)) (hb : Below w.heap.size w w') : UnPost r w (.returned (.tuple #[v, .bool true])) w' := by
  subst h
  exact ⟨_, rfl, ho, hb⟩

end Go.Proofs.YtndpbhmokobbpaaGreatDoor
