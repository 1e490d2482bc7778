/-
  What stays where numbers are drawn: all that lay there, but the reader. No condition.
-/
import Derived.Test.YtgoafhmmaepcjaaWnr
import Derived.Test.YtgoafhmmaepcjaaWai
namespace Go.Proofs.Ytgoafhmmaepcjaa
open Go.RowKit
set_option linter.unusedVariables false

/-- What lay there stays, but the reader. -/
structure Keeps (g : Nat) (w w' : World) : Prop where
  z : w.heap.size ≤ w'.heap.size
  k : ∀ k, k < w.heap.size → k ≠ g → w'.heap[k]? = w.heap[k]?
theorem Keeps.refl (g : Nat) (w : World) : Keeps g w w := ⟨Nat.le_refl _, fun _ _ _ => rfl⟩
theorem Keeps.alloc {g : Nat} {w w' : World} (h : Keeps g w w') (o : Obj) : Keeps g w (w'.alloc o) :=
  ⟨by have := h.z; simp; omega, fun k hk hg => (Below.heap_alloc w' o k (by have := h.z; omega)).trans (h.k k hk hg)⟩
theorem Keeps.picked {g p m : Nat} {w w' : World} (h : Keeps g w w') : Keeps g w (picked w' g p m) :=
  ⟨by rw [picked_size]; exact h.z, fun k hk hg => (picked_other w' g p m k hg).trans (h.k k hk hg)⟩
theorem Keeps.of_below {g : Nat} {w w' : World} (h : Below w.heap.size w w') : Keeps g w w' := ⟨h.size, fun k hk _ => h.block k hk⟩
theorem Keeps.trans {g : Nat} {w w1 w2 : World} (h : Keeps g w w1) (h2 : Keeps g w1 w2) : Keeps g w w2 :=
  ⟨Nat.le_trans h.z h2.z, fun k hk hg => (h2.k k (Nat.lt_of_lt_of_le hk h.z) hg).trans (h.k k hk hg)⟩
theorem Keeps.grown {g : Nat} {w W w' : World} {row : Option Nat} (h : Keeps g w W) (hg : W.grownBy w' row) (hr : ∀ j, row = some j → w.heap.size ≤ j) : Keeps g w w' :=
  ⟨Nat.le_trans h.z hg.size, fun k hk hgk => (hg.block k (Nat.lt_of_lt_of_le hk h.z) (fun e => by have := hr k e.symm; omega)).trans (h.k k hk hgk)⟩
theorem Keeps.drewN {g : Nat} {w w' : World} (h : Keeps g w w') (n : Nat) : Keeps g w (w'.drewN n) := ⟨h.z, h.k⟩
/-- Below B, and with what lay there but the reader. -/
structure BK (B g : Nat) (w w' : World) : Prop where
  b : Below B w w'
  k : Keeps g w w'
  s : B ≤ w.heap.size
theorem BK.refl {B : Nat} (g : Nat) {w : World} (h : B ≤ w.heap.size) : BK B g w w := ⟨Below.refl _ _, Keeps.refl _ _, h⟩
theorem BK.alloc {B g : Nat} {w w' : World} (h : BK B g w w') (o : Obj) : BK B g w (w'.alloc o) := ⟨h.b.alloc (Nat.le_trans h.s h.k.z) o, h.k.alloc o, h.s⟩
theorem BK.picked {B g p : Nat} {w w' : World} (h : BK B g w w') (hr : Rd B w' g p) (m : Nat) : BK B g w (picked w' g p m) := ⟨h.b.trans (picked_below hr m), h.k.picked, h.s⟩
theorem BK.grown {B g : Nat} {w W w' : World} {row : Option Nat} (h : BK B g w W) (hg : W.grownBy w' row) (hr : ∀ j, row = some j → w.heap.size ≤ j) : BK B g w w' :=
  ⟨h.b.grown hg (Nat.le_trans h.s h.k.z) (fun j hj => Nat.le_trans h.s (hr j hj)), h.k.grown hg hr, h.s⟩
theorem BK.trans {B g : Nat} {w w1 w2 : World} (h : BK B g w w1) (h2 : BK B g w1 w2) : BK B g w w2 := ⟨h.b.trans h2.b, h.k.trans h2.k, h.s⟩
theorem BK.more {B g : Nat} {w w1 w2 : World} (h : BK B g w w1) (h2 : Below w1.heap.size w1 w2) : BK B g w w2 := ⟨h.b.trans (h2.mono (Nat.le_trans h.s h.k.z)), h.k.trans (Keeps.of_below h2), h.s⟩
theorem BK.drewN {B g : Nat} {w w' : World} (h : BK B g w w') (n : Nat) : BK B g w (w'.drewN n) := ⟨below_drewN h.b n, h.k.drewN n, h.s⟩
theorem own_keeps {w w' : World} {B' e n g : Nat} {v : Value} {xs : List Value} (h : w.ownsRow B' e 1 v n xs) (hb : Keeps g w w') (hg : g < B') : w'.ownsRow B' e 1 v n xs := by
  obtain ⟨h1, h2⟩ := h
  refine ⟨h1, ?_⟩
  rcases h2 with h2 | ⟨k, cap, cur, a, b, c, d⟩
  · exact .inl h2
  · exact .inr ⟨k, cap, cur, a, b, by rw [hb.k k (Array.getElem?_eq_some_iff.1 c).1 (by omega)]; exact c, d⟩
theorem OwnL.keeps {w w' : World} {B' g : Nat} {v : Value} {xs : List Int} (h : OwnL w B' v xs) (hb : Keeps g w w') (hg : g < B') : OwnL w' B' v xs := own_keeps h hb hg
theorem At.keeps {w w' : World} {b off g : Nat} {xs : List Int} (h : At w b off xs) (hb : Keeps g w w') (hg : b ≠ g) : At w' b off xs :=
  ⟨Nat.lt_of_lt_of_le h.1 hb.z, fun j hj => (World.cell?_of_block (a := ⟨b, off + j, none⟩) (hb.k b h.1 hg)).trans (h.2 j hj)⟩
theorem Rds.keeps {w w' : World} {v : Value} {xs : List Int} {g : Nat} (h : Rds w v xs) (hb : Keeps g w w') (hg : v.ownBlock ≠ some g) : Rds w' v xs := by
  obtain ⟨A, c, rfl, h1⟩ := h
  refine ⟨A, c, rfl, fun h0 => ?_⟩
  obtain ⟨b, off, rfl, ha⟩ := h1 h0
  exact ⟨b, off, rfl, ha.keeps hb (fun e => hg (by simp [Value.ownBlock, e]))⟩
theorem OwnL.lits (w : World) (B : Nat) (xs : List Int) (hB : B ≤ w.heap.size) (hn : xs.length ≤ 1000) : OwnL (w.alloc (.cells (ints xs).toArray 3)) B (.slice (some ⟨w.heap.size, 0, none⟩) xs.length xs.length) xs :=
  ⟨by rw [ints_len, Nat.mul_one], .inr ⟨w.heap.size, xs.length, (ints xs).toArray, rfl, hB, heap_alloc_new w _, Nat.le_refl _, by unfold maxLen; omega, by simp [ints], by simp only [Nat.mul_one]; rw [List.take_of_length_le (by simp [ints])]⟩⟩
end Go.Proofs.Ytgoafhmmaepcjaa
