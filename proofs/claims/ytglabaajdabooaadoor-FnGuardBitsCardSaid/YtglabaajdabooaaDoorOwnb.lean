/-
  Bytes in a block that may be written: plain facts on memory. No condition.
-/
import Derived.Test.YtglabaajdabooaaDoorWtxt
import Derived.OneCell
namespace Go.Proofs.YtglabaajdabooaaDoor
open Go.RowKit
set_option linter.unusedVariables false

theorem cellsOf_get (l : List UInt8) (j : Nat) (h : j < l.length) : (cellsOf l)[j]? = some (.int .u8 ((l.getD j 0).toNat : Int)) := by
  simp [cellsOf, List.getD_eq_getElem?_getD, List.getElem?_eq_getElem h]

/-- Block g begins with the bytes l, which may be written; it is no iterator. -/
def OwnB (w : World) (g : Nat) (l : List UInt8) : Prop :=
  g < w.heap.size ∧ (∀ s p, w.heap[g]? ≠ some (.stringIter s p)) ∧ (∀ j, j < l.length → w.cell? ⟨g, j, none⟩ = some (.int .u8 ((l.getD j 0).toNat : Int))) ∧ (∀ j, j < l.length → w.frozen? ⟨g, j, none⟩ = false)
theorem OwnB.cellAt {w : World} {g : Nat} {l : List UInt8} (h : OwnB w g l) (j : Nat) (hj : j < l.length) : w.cell? ⟨g, j, none⟩ = some (.int .u8 ((l.getD j 0).toNat : Int)) := h.2.2.1 j hj
theorem OwnB.frozenAt {w : World} {g : Nat} {l : List UInt8} (h : OwnB w g l) (j : Nat) (hj : j < l.length) : w.frozen? ⟨g, j, none⟩ = false := h.2.2.2 j hj
theorem OwnB.keep {w w' : World} {g : Nat} {l : List UInt8} (h : OwnB w g l) (hs : w.heap.size ≤ w'.heap.size) (hb : w'.heap[g]? = w.heap[g]?) : OwnB w' g l := by
  refine ⟨Nat.lt_of_lt_of_le h.1 hs, fun s p => by rw [hb]; exact h.2.1 s p, fun j hj => ?_, fun j hj => ?_⟩
  · rw [World.cell?_of_block (w := w) (w' := w') (a := ⟨g, j, none⟩) hb]; exact h.2.2.1 j hj
  · rw [World.frozen?_of_block (w := w) (w' := w') (a := ⟨g, j, none⟩) hb]; exact h.2.2.2 j hj
theorem OwnB.alloc {w : World} {g : Nat} {l : List UInt8} (h : OwnB w g l) (o : Obj) : OwnB (w.alloc o) g l := h.keep (by simp) (Below.heap_alloc _ _ _ h.1)
theorem OwnB.drewN {w : World} {g : Nat} {l : List UInt8} (h : OwnB w g l) (n : Nat) : OwnB (w.drewN n) g l := h
theorem OwnB.ne_iter {w : World} {g k p : Nat} {s : ByteArray} {l : List UInt8} (h : OwnB w g l) (hk : w.heap[k]? = some (.stringIter s p)) : k ≠ g := by
  rintro rfl; exact h.2.1 s p hk
theorem OwnB.iterAt {w : World} {g k p : Nat} {s : ByteArray} {l : List UInt8} (h : OwnB w g l) (hk : w.heap[k]? = some (.stringIter s p)) (q : Nat) : OwnB (w.iterAt k s q) g l :=
  h.keep (by rw [Lib.iterAt_size]; exact Nat.le_refl _) (Lib.iterAt_other _ _ _ _ _ (fun e => h.ne_iter hk e.symm))
theorem OwnB.below {w w' : World} {B g : Nat} {l : List UInt8} (h : OwnB w g l) (hb : Below B w w') (hg : g < B) : OwnB w' g l := h.keep hb.size (hb.block g hg)
theorem OwnB.stored {w : World} {g : Nat} {l : List UInt8} (h : OwnB w g l) (k : Nat) (hk : k < l.length) (c : UInt8) :
    OwnB (w.setCell ⟨g, k, none⟩ (.int .u8 (c.toNat : Int))) g (l.set k c) ∧ w.grownBy (w.setCell ⟨g, k, none⟩ (.int .u8 (c.toNat : Int))) (some g) := by
  refine ⟨⟨by simp [World.setCell]; exact h.1, fun s p hsp => ?_, fun j hj => ?_, fun j hj => ?_⟩, ⟨rfl, rfl, rfl, by simp [World.setCell], fun i hi hn => Below.heap_setCell _ _ _ _ (fun e => hn (by rw [e]))⟩⟩
  · have hc := World.cell?_setCell_same w ⟨g, k, none⟩ (.int .u8 (c.toNat : Int)) (h.cellAt k hk)
    unfold World.cell? at hc
    rw [hsp] at hc
    simp at hc
  · have hj' : j < l.length := by simpa using hj
    by_cases e : k = j
    · subst e
      rw [World.cell?_setCell_same w _ _ (h.cellAt k hk)]
      simp [List.getD_eq_getElem?_getD, List.getElem?_set_self hk]
    · rw [World.cell?_setCell_other w _ _ _ (fun e' => e (by injection e')), h.cellAt j hj']
      simp [List.getD_eq_getElem?_getD, List.getElem?_set_ne e]
  · rw [World.frozen?_setCell]; exact h.frozenAt j (by simpa using hj)
theorem OwnB.of_own {w : World} {B e g n cap : Nat} {l : List UInt8} (hl : l.length = n) (h : w.ownsRow B e 1 (.slice (some ⟨g, 0, none⟩) n cap) n (cellsOf l)) : OwnB w g l := by
  subst hl
  refine ⟨(h.lt g rfl).2, fun s p hsp => ?_, fun j hj => ?_, fun j _ => h.frozenAt j⟩
  · rcases h.2 with ⟨h1, _⟩ | ⟨g', cap', cur, hv, _, hh, _⟩
    · cases h1
    · injection hv with h1
      injection h1 with h2
      injection h2 with h3
      subst h3
      rw [hh] at hsp; cases hsp
  · rw [h.cellAt j (by omega)]; exact cellsOf_get l j hj
end Go.Proofs.YtglabaajdabooaaDoor
