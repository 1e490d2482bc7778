/-
  A number is appended onto a row of numbers of the call's own. Conditions: where the row lies, and the bounds that are typed.
-/
import Derived.Test.YtgoafhmmaepcjaaIrow
namespace Go.Proofs.Ytgoafhmmaepcjaa
open Go.RowKit
set_option linter.unusedVariables false

/-- A row of numbers of the call's own. -/
def OwnL (w : World) (B : Nat) (v : Value) (xs : List Int) : Prop := w.ownsRow B 3 1 v xs.length (ints xs)
theorem OwnL.form {w : World} {B : Nat} {v : Value} {xs : List Int} (h : OwnL w B v xs) : ∃ a c, v = .slice a xs.length c := own_form h
theorem OwnL.alloc {w : World} {B : Nat} {v : Value} {xs : List Int} (h : OwnL w B v xs) (o : Obj) : OwnL (w.alloc o) B v xs := World.ownsRow.alloc h o
theorem OwnL.drewN {w : World} {B : Nat} {v : Value} {xs : List Int} (h : OwnL w B v xs) (n : Nat) : OwnL (w.drewN n) B v xs := h
theorem OwnL.nil (w : World) (B : Nat) : OwnL w B (.slice none 0 0) [] := World.ownsRow_nil _ _ _ _
theorem OwnL.rds {w : World} {B : Nat} {v : Value} {xs : List Int} (h : OwnL w B v xs) : Rds w v xs := Rds.of_own h
theorem OwnL.below {w w' : World} {B B' : Nat} {v : Value} {xs : List Int} (h : OwnL w B v xs) (hb : Below B' w w') (hB : w.heap.size ≤ B') : OwnL w' B v xs :=
  own_below h hb (fun g hg => by have := (World.ownsRow.lt h g hg).2; omega)
theorem OwnL.base {w : World} {B B' : Nat} {v : Value} {xs : List Int} (h : OwnL w B v xs) (hB : B' ≤ B) : OwnL w B' v xs :=
  own_base h (fun g hg => by have := (World.ownsRow.lt h g hg).1; omega)
theorem OwnL.empty (w : World) (B : Nat) (hB : B ≤ w.heap.size) : OwnL (w.alloc (.cells #[] 3)) B (.slice (some ⟨w.heap.size, 0, none⟩) 0 0) [] :=
  World.ownsRow_made (base := B) (e := 3) (size := 1) w #[] 0 hB (by unfold maxLen; omega) rfl
theorem OwnL.one (w : World) (B : Nat) (x : Int) (hB : B ≤ w.heap.size) : OwnL (w.alloc (.cells #[.int .i64 x] 3)) B (.slice (some ⟨w.heap.size, 0, none⟩) 1 1) [x] :=
  ⟨by simp [ints], .inr ⟨w.heap.size, 1, #[.int .i64 x], rfl, hB, heap_alloc_new w _, Nat.le_refl _, by unfold maxLen; omega, rfl, by simp [ints]⟩⟩
theorem OwnL.picked {w : World} {B g p m : Nat} {v : Value} {xs : List Int} (h : OwnL w B v xs) (hg : g < B) : ∀ u, OwnL ((w.setCell ⟨g, 1, none⟩ u).drewN m) B v xs := fun u =>
  ownsRow_setCell_other (a := ⟨g, 1, none⟩) h (fun he => by have := (World.ownsRow.lt h g he).1; omega) u

theorem cell_new1 (w : World) (y : Value) (t : TypeId) : ∀ j u, ([y] : List Value)[j]? = some u → (w.alloc (.cells #[y] t)).cell? ((⟨w.heap.size, 0, none⟩ : Addr).add j) = some u := by
  intro j u hj
  have hlt : j < 1 := by
    have := (List.getElem?_eq_some_iff.1 hj).1
    simpa using this
  have e : (⟨w.heap.size, 0, none⟩ : Addr).add j = ⟨w.heap.size, j, none⟩ := by unfold Addr.add; split <;> simp_all
  have h0 : j = 0 := by omega
  subst h0
  rw [e, cell_of_row _ w.heap.size 0 _ t (0, 0) (heap_alloc_new w _)]
  simpa using hj

/-- One number is appended onto a row of the call's own. -/
theorem append_oneI {w0 : World} {ops : Array Oper} {rest : List Oper} {o : Oper} {a : Act} {Q : Exit → Act → World → Prop} (hgd : o.guard = none) (s x : Operand)
    (ho : o.op = .call { callee := .builtin .append, args := #[s, x], argTypes := #[29, 29] })
    (B : Nat) (v : Value) (l : List Int) (y : Int) (hs : a.eval s = v) (hx : a.eval x = .slice (some ⟨w0.heap.size, 0, none⟩) 1 1) (hown : OwnL w0 B v l) (hl : l.length ≤ 1000000) (hB : B ≤ w0.heap.size)
    (h : ∀ A c w', OwnL w' B (.slice A (l.length + 1) c) (l ++ [y]) → (w0.alloc (.cells #[.int .i64 y] 3)).grownBy w' v.ownBlock → Below B w0 w' → w0.heap.size ≤ w'.heap.size →
      wpList Try.prog ops Q rest (a.put o.dst (.slice A (l.length + 1) c)) w') : wpList Try.prog ops Q (o :: rest) a (w0.alloc (.cells #[.int .i64 y] 3)) := by
  obtain ⟨i0, hi, hz0, hz1, hz2⟩ := info_parts info3
  refine wpList_append_own _ hgd s x 29 ho B 3 i0 (.int .i64 0) 1 8 Try.underlying29 hi hz0 hz1 hz2 rfl (by decide) v l.length (ints l) hs (hown.alloc _) ⟨w0.heap.size, 0, none⟩ 1 1 [.int .i64 y] hx rfl (cell_new1 _ _ _) (one_cell _ rfl) (by rw [mx]; omega) (by omega) (by simp; omega) ?_
  intro v' w' h1 h2 _
  have h3 := ownI_snoc h1
  obtain ⟨A, c, rfl⟩ := own_form h1
  refine h A c w' h3 h2 ?_ ?_
  · exact ((Below.refl B w0).alloc hB _).grown h2 (by simp; omega) (fun j hj => by have := (World.ownsRow.lt hown j hj).1; omega)
  · have := h2.size
    simp at this; omega
end Go.Proofs.Ytgoafhmmaepcjaa
