/-
  A list that can be read is appended onto a row of the call's own. Conditions: where the lists lie, and the lengths that are typed.
-/
import Derived.Test.YthogkhifgkgplaaDoorWai
import Derived.Laws.AppendOwnNone
namespace Go.Proofs.YthogkhifgkgplaaDoor
open Go.RowKit
set_option linter.unusedVariables false

/-- A nil slice is the nil slice. -/
def Proper (u : Value) : Prop := ∀ n c, u = .slice none n c → u = .slice none 0 0
theorem OwnL.proper {w : World} {B : Nat} {v : Value} {xs : List Int} (h : OwnL w B v xs) : Proper v := by
  intro n c e
  rcases h.2 with ⟨h0, _⟩ | ⟨g, cap, cur, h0, _⟩
  · exact h0
  · rw [h0] at e; cases e
/-- A list that can be read is appended onto a row of the call's own. -/
theorem append_rowI {w : World} {ops : Array Oper} {rest : List Oper} {o : Oper} {a : Act} {Q : Exit → Act → World → Prop} (hgd : o.guard = none) (s x : Operand)
    (ho : o.op = .call { callee := .builtin .append, args := #[s, x], argTypes := #[22, 22] })
    (B : Nat) (v u : Value) (l m : List Int) (hs : a.eval s = v) (hx : a.eval x = u) (hown : OwnL w B v l) (hu : Rds w u m) (hp : Proper u) (hl : l.length + m.length ≤ 1000000) (hB : B ≤ w.heap.size)
    (h : ∀ A c w', OwnL w' B (.slice A (l.length + m.length) c) (l ++ m) → w.grownBy w' v.ownBlock → Below B w w' → w.heap.size ≤ w'.heap.size →
      wpList Tryd.prog ops Q rest (a.put o.dst (.slice A (l.length + m.length) c)) w') : wpList Tryd.prog ops Q (o :: rest) a w := by
  obtain ⟨i0, hi, hz0, hz1, hz2⟩ := info_parts info3
  obtain ⟨Au, cu, rfl, hA⟩ := hu
  cases Au with
  | none =>
    have h0 : m.length = 0 := by
      rcases Nat.eq_zero_or_pos m.length with h | h
      · exact h
      · obtain ⟨b, off, hb, _⟩ := hA h; cases hb
    have hm : m = [] := List.eq_nil_of_length_eq_zero h0
    subst hm
    obtain ⟨A, c, rfl⟩ := hown.form
    refine wpList_append_own_none hgd s x _ ho B 3 i0 1 Tryd.underlying22 hi _ l.length (ints l) hs hown (hx.trans (hp _ _ rfl)) ?_
    exact h A c w (by simpa using hown) (World.grownBy.refl _ _) (Below.refl _ _) (Nat.le_refl _)
  | some ad =>
    have hcells : ∀ j u, (ints m)[j]? = some u → w.cell? (ad.add j) = some u := by
      intro j u hj
      have hlt : j < m.length := by
        have := (List.getElem?_eq_some_iff.1 hj).1
        simpa [ints] using this
      obtain ⟨b, off, hb, hat⟩ := hA (by omega)
      cases hb
      have e : (⟨b, off, none⟩ : Addr).add j = ⟨b, off + j, none⟩ := by unfold Addr.add; split <;> simp_all
      rw [e, hat.2 j hlt, ← hj, ints_get m j hlt]
    refine wpList_append_own _ hgd s x 22 ho B 3 i0 (.int .i64 0) 1 8 Tryd.underlying22 hi hz0 hz1 hz2 rfl (by decide) v l.length (ints l) hs hown ad m.length cu (ints m) hx (by rw [ints_len]; omega) hcells (fun u hu => by obtain ⟨x, _, rfl⟩ := List.mem_map.1 hu; rfl) (by rw [mx]; omega) (by omega) hB ?_
    intro v' w' h1 h2 _
    have h3 : OwnL w' B v' (l ++ m) := by unfold OwnL; rw [ints_app, List.length_append]; exact h1
    obtain ⟨A, c, rfl⟩ := own_form h1
    exact h A c w' h3 h2 ((Below.refl B w).grown h2 hB (fun j hj => (World.ownsRow.lt hown j hj).1)) h2.size

theorem append_rowV {w : World} {ops : Array Oper} {rest : List Oper} {o : Oper} {a : Act} {Q : Exit → Act → World → Prop} (hgd : o.guard = none) (s x : Operand)
    (ho : o.op = .call { callee := .builtin .append, args := #[s, x], argTypes := #[22, 22] })
    (B : Nat) (v u : Value) (l m : List Int) (hs : a.eval s = v) (hx : a.eval x = u) (hown : OwnL w B v l) (hu : Rds w u m) (hp : Proper u) (hl : l.length + m.length ≤ 1000000) (hB : B ≤ w.heap.size)
    (h : ∀ v' w', OwnL w' B v' (l ++ m) → w.grownBy w' v.ownBlock → Below B w w' → w.heap.size ≤ w'.heap.size →
      wpList Tryd.prog ops Q rest (a.put o.dst v') w') : wpList Tryd.prog ops Q (o :: rest) a w :=
  append_rowI hgd s x ho B v u l m hs hx hown hu hp hl hB (fun A c w' h1 h2 h3 h4 => h _ w' h1 h2 h3 h4)
end Go.Proofs.YthogkhifgkgplaaDoor
