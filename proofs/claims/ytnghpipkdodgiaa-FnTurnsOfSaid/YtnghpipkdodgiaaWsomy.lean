/-
  The walk of what draws bytes. Conditions: where the reader lies, and the bounds that are typed.
-/
import Derived.Test.YtnghpipkdodgiaaWnr
import Derived.Test.YtnghpipkdodgiaaIrow
namespace Go.Proofs.Ytnghpipkdodgiaa
open Go.RowKit
set_option linter.unusedVariables false

theorem own_ne {w : World} {B e n g : Nat} {v : Value} {xs : List Value} (h : w.ownsRow B e 1 v n xs) (hg : g < B) : v.ownBlock ≠ some g := fun he => by have := (h.lt g he).1; omega
theorem own_picked {w : World} {B e n g p m : Nat} {v : Value} {xs : List Value} (h : w.ownsRow B e 1 v n xs) (hg : g < B) : (picked w g p m).ownsRow B e 1 v n xs :=
  ownsRow_setCell_other (a := ⟨g, 1, none⟩) h (own_ne h hg) _
theorem rd_grown {B : Nat} {w w' : World} {g p : Nat} {row : Option Nat} (h : Rd B w g p) (hg : w.grownBy w' row) (hb : Below B w w') (hr : ∀ j, row = some j → g < j) : Rd B w' g p :=
  h.keep hb (hg.block g h.lt (fun e => by have := hr g e.symm; omega))
theorem new_cells (w : World) (xs : List Int) (t : TypeId) : ∀ j u, (ints xs)[j]? = some u → (w.alloc (.cells (ints xs).toArray t)).cell? ((⟨w.heap.size, 0, none⟩ : Addr).add j) = some u := by
  intro j u hj
  have hlt : j < xs.length := by
    have := (List.getElem?_eq_some_iff.1 hj).1
    simpa [ints] using this
  have e : (⟨w.heap.size, 0, none⟩ : Addr).add j = ⟨w.heap.size, j, none⟩ := by unfold Addr.add; split <;> simp_all
  rw [e, ← hj, ints_get xs j hlt]
  exact new_ints w xs t j hlt
theorem ints_one (xs : List Int) : ∀ u ∈ ints xs, u.oneCell' = true := by
  intro u hu
  obtain ⟨x, _, rfl⟩ := List.mem_map.1 hu
  rfl

/-- What someBytes leaves: some numbers in memory of the call's own. -/
def SomyPost (B W0 : Nat) (w : World) (g p : Nat) (e : Ending) (w' : World) : Prop :=
  ∃ (u : Value) (l : List Int) (p' : Nat), e = .returned u ∧ w'.ownsRow W0 3 1 u l.length (ints l) ∧ l.length ≤ 40 ∧ Rd B w' g p' ∧ p' ≤ p + 200 ∧ Below B w w'

end Go.Proofs.Ytnghpipkdodgiaa
