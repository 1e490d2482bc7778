/-
  Facts for the walk of the model's turns. Conditions: where the lists lie, and the bounds that are typed.
-/
import Derived.Test.YtnghpipkdodgiaaWvf
import Derived.Test.YtnghpipkdodgiaaFtv
import Derived.ArgAppend
import Derived.RegionTactic
import Derived.BigQuiet
import Derived.ChangeAlike
namespace Go.Proofs.Ytnghpipkdodgiaa
open Go.RowKit
set_option linter.unusedVariables false

/-- What lies in out: the empty list that the call made first, or a row behind all that the call made first. -/
def OwnE (w : World) (a B : Nat) (v : Value) (l : List Int) : Prop :=
  (v = .slice (some ⟨a, 0, none⟩) 0 0 ∧ l = [] ∧ w.heap[a]? = some (.cells #[] 3 (0, 0))) ∨ OwnL w B v l
theorem OwnE.form {w : World} {a B : Nat} {v : Value} {l : List Int} (h : OwnE w a B v l) : ∃ A c, v = .slice A l.length c := by
  rcases h with ⟨rfl, rfl, _⟩ | h
  · exact ⟨_, _, rfl⟩
  · exact own_form h
theorem OwnE.own {w : World} {a B : Nat} {v : Value} {l : List Int} (h : OwnE w a B v l) (hB : a ≤ B) : OwnL w a v l := by
  rcases h with ⟨rfl, rfl, h⟩ | h
  · exact ⟨rfl, .inr ⟨a, 0, #[], rfl, Nat.le_refl _, h, Nat.le_refl _, Nat.zero_le _, rfl, rfl⟩⟩
  · obtain ⟨h1, h2⟩ := h
    refine ⟨h1, ?_⟩
    rcases h2 with h2 | ⟨g, cap, cur, e1, e2, e3⟩
    · exact .inl h2
    · exact .inr ⟨g, cap, cur, e1, Nat.le_trans hB e2, e3⟩
theorem OwnE.below {w w' : World} {a B : Nat} {v : Value} {l : List Int} (h : OwnE w a B v l) (ha : a < w.heap.size) (hb : Below w.heap.size w w') : OwnE w' a B v l := by
  rcases h with ⟨rfl, rfl, h⟩ | h
  · exact .inl ⟨rfl, rfl, (hb.block a ha).trans h⟩
  · exact .inr (own_below h hb (fun g hg => (World.ownsRow.lt h g hg).2))
theorem OwnE.set {w : World} {a B b j : Nat} {u v : Value} {l : List Int} (h : OwnE w a B v l) (h1 : b ≠ a) (h2 : b < B) : OwnE (w.setCell ⟨b, j, none⟩ u) a B v l := by
  rcases h with ⟨rfl, rfl, h⟩ | h
  · exact .inl ⟨rfl, rfl, (Below.heap_setCell w ⟨b, j, none⟩ u a (by simp; omega)).trans h⟩
  · refine .inr (World.ownsRow.kept h (row := some b) ⟨rfl, rfl, rfl, by simp [World.setCell], fun k hk hn => Below.heap_setCell w ⟨b, j, none⟩ u k (fun e => hn (by rw [e]))⟩ ?_)
    cases hob : v.ownBlock with
    | none => exact .inl rfl
    | some k => exact .inr (by have := (World.ownsRow.lt h k hob).1; simp; omega)

/-- A number is appended onto such a list. -/
theorem append_oneE {w0 : World} {ops : Array Oper} {rest : List Oper} {o : Oper} {a : Act} {Q : Exit → Act → World → Prop} (hgd : o.guard = none) (s x : Operand)
    (ho : o.op = .call { callee := .builtin .append, args := #[s, x], argTypes := #[24, 24] })
    (e B : Nat) (v : Value) (l : List Int) (y : Int) (hs : a.eval s = v) (hx : a.eval x = .slice (some ⟨w0.heap.size, 0, none⟩) 1 1) (hown : OwnE w0 e B v l) (hl : l.length ≤ 1000000) (hB : B ≤ w0.heap.size)
    (h : ∀ A c w', OwnE w' e B (.slice A (l.length + 1) c) (l ++ [y]) → Below B w0 w' → w0.heap.size ≤ w'.heap.size →
      wpList Try.prog ops Q rest (a.put o.dst (.slice A (l.length + 1) c)) w') : wpList Try.prog ops Q (o :: rest) a (w0.alloc (.cells #[.int .i64 y] 3)) := by
  rcases hown with ⟨rfl, rfl, hh⟩ | hown
  · obtain ⟨i0, hi, hz0, hz1, hz2⟩ := info_parts info3
    refine wpList_append_grows _ hgd s x 24 ho 3 i0 (.int .i64 0) 1 8 Try.underlying24 hi hz0 hz1 hz2 rfl (by decide) (some ⟨e, 0, none⟩) 0 0 [] hs (fun h => by cases h) rfl (fun b _ j u hj => by simp at hj) ⟨w0.heap.size, 0, none⟩ 1 1 [.int .i64 y] hx rfl (cell_new1 _ _ _) (one_cell _ rfl) (by decide) (by decide) (by decide) ?_
    intro v' w' h1 h2
    have h3 : OwnL w' B v' ([] ++ [y]) := by
      obtain ⟨a1, a2⟩ := h1
      refine ⟨a1, ?_⟩
      rcases a2 with a2 | ⟨g, cap, cur, e1, e2, e3⟩
      · exact .inl a2
      · exact .inr ⟨g, cap, cur, e1, by simp at e2; omega, e3⟩
    obtain ⟨A, c, rfl⟩ := own_form h1
    exact h A c w' (.inr h3) (((Below.refl B w0).alloc hB _).grown h2 (by simp; omega) (fun j hj => by cases hj)) (by have := h2.size; simp at this; omega)
  · exact append_oneI hgd s x ho B v l y hs hx hown hl hB (fun A c w' h1 _ h3 h4 => h A c w' (.inr h1) h3 h4)
/-- How much is to come, told by two rows in memory. -/
def cellI (w : World) (a : Addr) : Int := match w.cell? a with | some v => intOf v | none => 0
def mesW (wr : World) (b1 b2 : Nat) : List (List Int) → Nat → Nat
  | [], _ => 0
  | l :: L, j => mesV l (cellI wr ⟨b1, j, none⟩) (cellI wr ⟨b2, j, none⟩) + mesW wr b1 b2 L (j + 1)
theorem mesW_is {wr : World} {b1 b2 : Nat} {F G : List Int → Int} : ∀ (L : List (List Int)) (o : Nat), (∀ j, j < L.length → wr.cell? ⟨b1, o + j, none⟩ = some (.int .i64 (F (L.getD j []))) ∧ wr.cell? ⟨b2, o + j, none⟩ = some (.int .i64 (G (L.getD j [])))) → mesW wr b1 b2 L o = sumF (fun l => mesV l (F l) (G l)) L
  | [], o, _ => rfl
  | l :: L, o, h => by
    have ih := mesW_is L (o + 1) (fun j hj => by
      have := h (j + 1) (by simp; omega)
      simpa [Nat.add_assoc, Nat.add_comm 1 j] using this)
    obtain ⟨h1, h2⟩ := h 0 (by simp)
    show mesV l (cellI wr ⟨b1, o, none⟩) (cellI wr ⟨b2, o, none⟩) + mesW wr b1 b2 L (o + 1) = mesV l (F l) (G l) + sumF (fun l => mesV l (F l) (G l)) L
    rw [ih]
    have e1 : cellI wr ⟨b1, o, none⟩ = F l := by unfold cellI; rw [Nat.add_zero] at h1; rw [h1]; rfl
    have e2 : cellI wr ⟨b2, o, none⟩ = G l := by unfold cellI; rw [Nat.add_zero] at h2; rw [h2]; rfl
    rw [e1, e2]
/-- Of a flow in memory: where its list lies, and where its packets lie. -/
theorem RdsL.flow {w : World} {A : Option Addr} {c : Nat} {L : List (List Int)} (h : RdsL w (.slice A L.length c) L) (f : Nat) (hf : f < L.length) :
    ∃ b off Au cu, A = some ⟨b, off, none⟩ ∧ b < w.heap.size ∧ w.cell? ⟨b, off + f, none⟩ = some (.slice Au (L.getD f []).length cu) ∧
      (0 < (L.getD f []).length → ∃ bb oo, Au = some ⟨bb, oo, none⟩ ∧ bb < w.heap.size ∧ ∀ p, p < (L.getD f []).length → w.cell? ⟨bb, oo + p, none⟩ = some (.int .i64 (lg (L.getD f []) p))) := by
  obtain ⟨b, off, hb, hat⟩ := h.cells (by omega)
  obtain ⟨u, h1, ⟨Au, cu, rfl, hA⟩, _⟩ := hat.2 f hf
  refine ⟨b, off, Au, cu, hb, hat.1, h1, fun h0 => ?_⟩
  obtain ⟨bb, oo, h2, h3⟩ := hA h0
  exact ⟨bb, oo, h2, h3.1, fun p hp => h3.2 p hp⟩
def lenU (v : Value) : Nat := match v with | .slice _ n _ => n | _ => 0
end Go.Proofs.Ytnghpipkdodgiaa
