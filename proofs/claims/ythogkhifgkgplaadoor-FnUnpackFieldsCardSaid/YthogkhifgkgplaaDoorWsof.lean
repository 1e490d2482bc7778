/-
  Lists of fields in memory of the call's own, and the walk of what draws fields. Conditions: where the reader lies, and the bounds that are typed.
-/
import Derived.Test.YthogkhifgkgplaaDoorWsoy
import Derived.Test.YthogkhifgkgplaaDoorFlm
import Derived.Maps.AppendAt
namespace Go.Proofs.YthogkhifgkgplaaDoor
open Go.RowKit
set_option linter.unusedVariables false

theorem infoF : (Tryd.prog.info? 48).map (fun i => (i.zero, i.size, i.bytes)) = some (some (.agg #[.int .i64 0, .slice none 0 0]), 2, 32) := by kernel_rfl
/-- The cells of fields, each with the value of its bytes. -/
def flQ : List (Fd × Value) → List Value
  | [] => []
  | p :: l => .int .i64 p.1.t :: p.2 :: flQ l
theorem flQ_len : ∀ Q, (flQ Q).length = Q.length * 2
  | [] => rfl
  | p :: l => by simp only [flQ, List.length_cons]; have := flQ_len l; omega
theorem flQ_snoc : ∀ Q (p : Fd × Value), flQ (Q ++ [p]) = flQ Q ++ [.int .i64 p.1.t, p.2]
  | [], p => rfl
  | q :: l, p => by simp only [flQ, List.cons_append]; rw [flQ_snoc l p]
theorem flQ_get : ∀ (Q : List (Fd × Value)) (j : Nat), (flQ Q)[j * 2]? = (Q[j]?).map (fun p => Value.int .i64 p.1.t) ∧ (flQ Q)[j * 2 + 1]? = (Q[j]?).map (fun p => p.2)
  | [], j => by simp [flQ]
  | p :: l, 0 => by simp [flQ]
  | p :: l, j + 1 => by
    have := flQ_get l j
    rw [show (j + 1) * 2 = j * 2 + 1 + 1 from by omega]
    simp only [flQ, List.getElem?_cons_succ]
    exact this
/-- A list of fields of the call's own: its cells, and the bytes of each. -/
structure FOwn (w : World) (B : Nat) (v : Value) (Q : List (Fd × Value)) : Prop where
  top : w.ownsRow B 48 2 v Q.length (flQ Q)
  each : ∀ p ∈ Q, OwnL w B p.2 p.1.b ∧ ∀ g, p.2.ownBlock = some g → v.ownBlock ≠ some g
theorem FOwn.form {w : World} {B : Nat} {v : Value} {Q : List (Fd × Value)} (h : FOwn w B v Q) : ∃ A c, v = .slice A Q.length c := by
  rcases h.top.2 with ⟨hv, h0⟩ | ⟨g, cap, cur, hv, _⟩
  · exact ⟨none, 0, by rw [h0]; exact hv⟩
  · exact ⟨_, _, hv⟩
theorem FOwn.rds {w : World} {B : Nat} {v : Value} {Q : List (Fd × Value)} (h : FOwn w B v Q) : FRds w v (Q.map (·.1)) := by
  have hl : (Q.map (·.1)).length = Q.length := List.length_map _
  rcases h.top.2 with ⟨hv, h0⟩ | ⟨g, cap, cur, hv, hB, hg, hn, hc, hcs, htk⟩
  · exact ⟨none, 0, by rw [hl, h0]; exact hv, fun h1 => absurd h1 (by omega)⟩
  · refine ⟨_, cap, by rw [hl]; exact hv, fun h1 => ⟨g, 0, rfl, (Array.getElem?_eq_some_iff.1 hg).1, fun j hj => ?_⟩⟩
    have hj' : j < Q.length := by omega
    have hp : (Q.map (·.1)).getD j f0 = (Q[j]).1 := by simp [List.getD_eq_getElem?_getD, hj']
    have hcell := fun i u hu => h.top.cells (g := g) (by rw [hv]; rfl) i u hu
    have e : ∀ i, (⟨g, 0, none⟩ : Addr).add i = ⟨g, 0 + i, none⟩ := by intro i; unfold Addr.add; split <;> simp_all
    obtain ⟨g1, g2⟩ := flQ_get Q j
    rw [List.getElem?_eq_getElem hj'] at g1 g2
    have k1 := hcell _ _ g1
    have k2 := hcell _ _ g2
    rw [e] at k1 k2
    obtain ⟨o1, _⟩ := h.each _ (List.getElem_mem hj')
    rw [hp]
    exact ⟨k1, _, by rw [Nat.add_assoc]; exact k2, OwnL.rds o1, OwnL.proper o1⟩
theorem own_keeps2 {w w' : World} {B' e n g s : Nat} {v : Value} {xs : List Value} (h : w.ownsRow B' e s v n xs) (hb : Keeps g w w') (hg : g < B') : w'.ownsRow B' e s v n xs := by
  obtain ⟨h1, h2⟩ := h
  refine ⟨h1, ?_⟩
  rcases h2 with h2 | ⟨k, cap, cur, a, b, c, d⟩
  · exact .inl h2
  · exact .inr ⟨k, cap, cur, a, b, by rw [hb.k k (Array.getElem?_eq_some_iff.1 c).1 (by omega)]; exact c, d⟩
theorem FOwn.keeps {w w' : World} {B g : Nat} {v : Value} {Q : List (Fd × Value)} (h : FOwn w B v Q) (hb : Keeps g w w') (hg : g < B) : FOwn w' B v Q :=
  ⟨own_keeps2 h.top hb hg, fun p hp => ⟨OwnL.keeps (h.each p hp).1 hb hg, (h.each p hp).2⟩⟩
theorem cell_two_new (w : World) (x y : Value) (t : TypeId) : ∀ j u, [x, y][j]? = some u → (w.alloc (.cells #[x, y] t)).cell? ((⟨w.heap.size, 0, none⟩ : Addr).add j) = some u := by
  intro j u hj
  have e : (⟨w.heap.size, 0, none⟩ : Addr).add j = ⟨w.heap.size, j, none⟩ := by unfold Addr.add; split <;> simp_all
  rw [e, cell_of_row _ w.heap.size j _ t (0, 0) (heap_alloc_new w _)]
  simpa using hj
theorem FOwn.push {w w' : World} {B : Nat} {v v' : Value} {Q : List (Fd × Value)} {f : Fd} {u : Value} (h : FOwn w B v Q) (hg : w.grownBy w' v.ownBlock)
    (hat : v'.ownBlock = v.ownBlock ∨ v'.ownBlock = some w.heap.size) (hown : w'.ownsRow B 48 2 v' (Q.length + 1) (flQ Q ++ [.int .i64 f.t, u]))
    (hu : OwnL w B u f.b) (hne : ∀ g, u.ownBlock = some g → v.ownBlock ≠ some g) : FOwn w' B v' (Q ++ [(f, u)]) := by
  have step : ∀ (p2 : Value) (l : List Int), OwnL w B p2 l → (∀ g, p2.ownBlock = some g → v.ownBlock ≠ some g) → OwnL w' B p2 l ∧ ∀ g, p2.ownBlock = some g → v'.ownBlock ≠ some g := by
    intro p2 l h1 h2
    refine ⟨World.ownsRow.kept h1 hg ?_, fun g e => ?_⟩
    · cases hb : p2.ownBlock with
      | none => exact .inl rfl
      | some k => exact .inr (fun e => h2 k hb e.symm)
    · rcases hat with hat | hat
      · rw [hat]; exact h2 g e
      · rw [hat]
        have := (World.ownsRow.lt h1 g e).2
        intro e2
        injection e2 with e2
        omega
  refine ⟨?_, fun p hp => ?_⟩
  · rw [flQ_snoc, List.length_append]; exact hown
  · rcases List.mem_append.1 hp with hp | hp
    · exact step _ _ (h.each p hp).1 (h.each p hp).2
    · have : p = (f, u) := by simpa using hp
      subst this
      exact step _ _ hu hne
theorem FOwn.nil (w : World) (B : Nat) (v : Value) (h : w.ownsRow B 48 2 v 0 []) : FOwn w B v [] := ⟨h, fun p hp => absurd hp (List.not_mem_nil)⟩
theorem own_oneCell {w : World} {B : Nat} {u : Value} {l : List Int} (h : OwnL w B u l) : u.oneCell' = true := by
  rcases h.2 with ⟨rfl, _⟩ | ⟨g, cap, cur, rfl, _⟩
  · rfl
  · rfl
/-- What someFields leaves. -/
def SofPost (B W0 : Nat) (w : World) (g p : Nat) (e : Ending) (w' : World) : Prop :=
  ∃ (u : Value) (Q : List (Fd × Value)) (p' : Nat), e = .returned u ∧ FOwn w' W0 u Q ∧ Q.length ≤ 6 ∧ (∀ q ∈ Q, q.1.b.length ≤ 40) ∧ Rd B w' g p' ∧ p' ≤ p + 2000 ∧ BK B g w w'
end Go.Proofs.YthogkhifgkgplaaDoor
