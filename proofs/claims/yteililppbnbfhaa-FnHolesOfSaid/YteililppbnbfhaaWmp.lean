/-
  A map from numbers to answers that a call makes: how it is made, asked, written, and ranged over. Conditions: what the map holds.
-/
import Derived.Test.YteililppbnbfhaaWcov
import Derived.Maps.OwnSet
import Derived.Maps.RangeWalk
namespace Go.Proofs.Yteililppbnbfhaa
open Go.RowKit Go.Maps
set_option linter.unusedVariables false

theorem lawK : Keyed Try.prog 3 := int_keyed Try.underlying3
theorem zeroB (w : World) : (zeroValue 4).run Try.prog w = .ok (.bool false) w := by kernel_rfl
theorem make_hint (n : Int) (w : World) : (Instr.makeMap 44 (some (.int .i64 n))).run Try.prog w = .ok (.map (some w.heap.size)) (w.alloc (.map #[] 0)) := by
  simp [Instr.makeMap, run_underlying Try.underlying44, asInt, Sem.run_bind, Result.andThen]
  rfl

/-- What a map holds: an answer at each number, true where there is one. -/
def Hold (D : DataW Unit) (f : Int → Bool) : Prop := Maps.IsMap D ∧ ∀ k : Int, D.atKey (.int .i64 k) (.lit (.bool false)) = .lit (.bool (f k)) ∧ Maps.has D (.int .i64 k) = f k
theorem keyLit (k : Int) : WideAt.IsKeyLit (.int .i64 k) := by simp [WideAt.IsKeyLit]
theorem key_ne {j k : Int} (h : j ≠ k) : (Lit.int .i64 j) ≠ (Lit.int .i64 k) := fun e => h (by injection e)
theorem Hold.start : Hold (.map []) (fun _ => false) := ⟨Maps.isMap_empty, fun k => ⟨rfl, rfl⟩⟩
theorem Hold.put {D : DataW Unit} {f : Int → Bool} (h : Hold D f) (k : Int) : Hold (D.put (.int .i64 k) (.lit (.bool true))) (fun j => if j = k then true else f j) := by
  refine ⟨h.1.put _ _, fun j => ?_⟩
  by_cases e : j = k
  · subst e
    simp only [if_true]
    exact ⟨Maps.atKey_put_same h.1 (keyLit j) _ _, Maps.has_put_same h.1 (keyLit j) _⟩
  · simp only [if_neg e]
    exact ⟨(Maps.atKey_put_other (key_ne e) _ _).trans (h.2 j).1, (Maps.has_put_other (key_ne e) _).trans (h.2 j).2⟩
theorem Hold.del {D : DataW Unit} {f : Int → Bool} (h : Hold D f) (k : Int) : Hold (D.del (.int .i64 k)) (fun j => if j = k then false else f j) := by
  refine ⟨h.1.del _, fun j => ?_⟩
  by_cases e : j = k
  · subst e
    simp only [if_true]
    exact ⟨Maps.atKey_del_same _, Maps.has_del_same⟩
  · simp only [if_neg e]
    exact ⟨(Maps.atKey_del_other (key_ne e) _).trans (h.2 j).1, (Maps.has_del_other (key_ne e)).trans (h.2 j).2⟩
theorem Hold.ext {D : DataW Unit} {f f' : Int → Bool} (h : Hold D f) (he : ∀ k, f k = f' k) : Hold D f' := by
  have : f = f' := funext he
  rw [← this]; exact h

/-- Block b is a map that holds f. -/
def MapB (w : World) (b n : Nat) (f : Int → Bool) : Prop := ∃ D : DataW Unit, w.ownsMap Try.prog 3 (plainElem Try.prog 4) b n D ∧ Hold D f
theorem MapB.made (w : World) : MapB (w.alloc (.map #[] 0)) w.heap.size 0 (fun _ => false) := ⟨_, World.ownsMap_made _ _ _ _, Hold.start⟩
theorem MapB.lt {w : World} {b n : Nat} {f : Int → Bool} (h : MapB w b n f) : b < w.heap.size := by
  obtain ⟨D, h1, _⟩ := h
  exact h1.lt
theorem MapB.ext {w : World} {b n : Nat} {f f' : Int → Bool} (h : MapB w b n f) (he : ∀ k, f k = f' k) : MapB w b n f' := by
  have : f = f' := funext he
  rw [← this]; exact h
theorem MapB.mono {w : World} {b n n' : Nat} {f : Int → Bool} (h : MapB w b n f) (hn : n ≤ n') : MapB w b n' f := by
  obtain ⟨D, h1, h2⟩ := h
  exact ⟨D, h1.mono hn, h2⟩
theorem MapB.kept {w w' : World} {b n : Nat} {f : Int → Bool} {row : Option Nat} (h : MapB w b n f) (hg : w.grownBy w' row) (hne : some b ≠ row) : MapB w' b n f := by
  obtain ⟨D, h1, h2⟩ := h
  exact ⟨D, h1.kept hg hne, h2⟩
theorem MapB.below {w w' : World} {b n B : Nat} {f : Int → Bool} (h : MapB w b n f) (hb : Below B w w') (hB : b < B) : MapB w' b n f := by
  obtain ⟨D, ⟨es, clock, h0, h1⟩, h2⟩ := h
  exact ⟨D, ⟨es, clock, (hb.block b hB).trans h0, h1⟩, h2⟩
theorem MapB.setCell {w : World} {b n : Nat} {f : Int → Bool} (h : MapB w b n f) {a : Addr} (ha : b ≠ a.block) (u : Value) : MapB (w.setCell a u) b n f := by
  obtain ⟨D, h1, h2⟩ := h
  exact ⟨D, h1.setCell ha u, h2⟩
/-- What is asked is answered. -/
theorem MapB.look {w : World} {b n : Nat} {f : Int → Bool} (h : MapB w b n f) (k : Int) (hk : (Lit.int .i64 k).wf = true) :
    (Instr.lookup 44 (.map (some b)) (.int .i64 k) false).run Try.prog w = .ok (.bool (f k)) w := by
  obtain ⟨D, h1, h2⟩ := h
  obtain ⟨v, ps, hrun, hv⟩ := h1.lookup lawK Try.underlying44 (zeroB w) (plainElem_bool Try.underlying4 false) (keyOf_int_mk Try.underlying3 hk)
  rw [(h2.2 k).1] at hv
  have : v = .bool (f k) := by
    unfold plainElem at hv
    rw [Try.underlying4] at hv
    cases v <;> simp at hv
    rw [hv.1]
  rw [hrun, this]

section
variable {w : World} {ops : Array Oper} {rest : List Oper} {o : Oper} {a : Act} {Q : Exit → Act → World → Prop}
/-- One number more. -/
theorem wp_put (hg : o.guard = none) (m x v : Operand) (hop : o.op = Op.mapUpdate 44 m x v) (b n : Nat) (f : Int → Bool)
    (hm : a.eval m = .map (some b)) (hown : MapB w b n f) (hn : n < maxLen) (k : Int) (hk : (Lit.int .i64 k).wf = true) (hx : a.eval x = .int .i64 k) (hv : a.eval v = .bool true)
    (hK : ∀ w', MapB w' b (n + 1) (fun j => if j = k then true else f j) → w.grownBy w' (some b) → wpList Try.prog ops Q rest (a.put o.dst undef) w') :
    wpList Try.prog ops Q (o :: rest) a w := by
  obtain ⟨D, h1, h2⟩ := hown
  refine wpList_mapUpdate_own w hg m x v _ hop 3 4 lawK Try.underlying44 _ b n D hm h1 hn _ _ _ hx hv (keyOf_int_mk Try.underlying3 hk) _ [] (plainElem_bool Try.underlying4 true) ?_
  intro w' r1 r2
  exact hK w' ⟨_, r1, h2.put k⟩ r2
/-- One number less. -/
theorem wp_del (hg : o.guard = none) (m x : Operand) (hop : o.op = Op.call { callee := Callee.builtin Builtin.delete, args := #[m, x], argTypes := #[44, 3] }) (b n : Nat) (f : Int → Bool)
    (hm : a.eval m = .map (some b)) (hown : MapB w b n f) (k : Int) (hk : (Lit.int .i64 k).wf = true) (hx : a.eval x = .int .i64 k)
    (hK : ∀ w', MapB w' b n (fun j => if j = k then false else f j) → w.grownBy w' (some b) → wpList Try.prog ops Q rest (a.put o.dst (.tuple #[])) w') :
    wpList Try.prog ops Q (o :: rest) a w := by
  obtain ⟨D, h1, h2⟩ := hown
  refine wpList_delete_own w hg m x _ _ hop 4 lawK Try.underlying44 _ b n D hm h1 _ _ hx (keyOf_int_mk Try.underlying3 hk) ?_
  intro w' r1 r2
  exact hK w' ⟨_, r1, h2.del k⟩ r2.grown

/-- A map is ranged over: l says which numbers are still to come, and cnt how many. -/
def Rng (w : World) (b r n : Nat) (f l : Int → Bool) (cnt : Nat) : Prop :=
  ∃ (D : DataW Unit) (left : Lit → Bool), w.ranges Try.prog 3 (plainElem Try.prog 4) b r n D left cnt ∧ Hold D f ∧ ∀ k : Int, left (.int .i64 k) = l k
theorem Rng.map {w : World} {b r n cnt : Nat} {f l : Int → Bool} (h : Rng w b r n f l cnt) : MapB w b n f := by
  obtain ⟨D, left, h1, h2, _⟩ := h
  exact ⟨D, h1.owns, h2⟩
theorem Rng.left_eq {w : World} {b r n cnt : Nat} {f l : Int → Bool} (h : Rng w b r n f l cnt) : w.rangeLeft b r = cnt := by
  obtain ⟨D, left, h1, _⟩ := h
  exact h1.left_eq
theorem Rng.lt {w : World} {b r n cnt : Nat} {f l : Int → Bool} (h : Rng w b r n f l cnt) : r < w.heap.size := by
  obtain ⟨D, left, h1, _⟩ := h
  exact h1.lt
theorem Rng.kept {w w' : World} {b r n cnt : Nat} {f l : Int → Bool} {row : Option Nat} (h : Rng w b r n f l cnt) (hg : w.grownBy w' row) (hb : some b ≠ row) (hr : some r ≠ row) : Rng w' b r n f l cnt := by
  obtain ⟨D, left, h1, h2, h3⟩ := h
  exact ⟨D, left, h1.kept hg hb hr, h2, h3⟩
theorem Rng.below {w w' : World} {b r n cnt B : Nat} {f l : Int → Bool} (h : Rng w b r n f l cnt) (hb : Below B w w') (hB : b < B) (hR : r < B) : Rng w' b r n f l cnt := by
  obtain ⟨D, left, ⟨es, clock, since, seen, c0, k1, k2, k3, k4, k5, k6⟩, h2, h3⟩ := h
  exact ⟨D, left, ⟨es, clock, since, seen, c0, (hb.block b hB).trans k1, k2, k3, k4, (hb.block r hR).trans k5, k6⟩, h2, h3⟩
theorem wp_range (hg : o.guard = none) (m : Operand) (hop : o.op = Op.range 44 m) (b n : Nat) (f : Int → Bool) (hm : a.eval m = .map (some b)) (hown : MapB w b n f)
    (hK : ∀ w' cnt, cnt ≤ n → Rng w' b w.heap.size n f f cnt → w.grownBy w' none → w'.heap.size = w.heap.size + 1 → wpList Try.prog ops Q rest (a.put o.dst (.pointer (some ⟨w.heap.size, 0, none⟩))) w') :
    wpList Try.prog ops Q (o :: rest) a w := by
  obtain ⟨D, h1, h2⟩ := hown
  refine wpList_range_own w hg m _ hop 3 4 lawK Try.underlying44 _ b n D hm h1 ?_
  intro w' r1 r2 r3
  exact hK w' _ h1.size_le ⟨D, _, r1, h2, fun k => (h2.2 k).2⟩ r2 r3
theorem wp_next (hg : o.guard = none) (it : Operand) (hop : o.op = Op.next it false) (b r n : Nat) (f l : Int → Bool) (cnt : Nat) (hit : a.eval it = .pointer (some ⟨r, 0, none⟩)) (h : Rng w b r n f l cnt)
    (hDone : cnt = 0 → (∀ k, l k = false) → wpList Try.prog ops Q rest (a.put o.dst (.tuple #[.bool false])) w)
    (hMore : ∀ (x : Int) (w' : World) (cnt' : Nat), (Lit.int .i64 x).wf = true → l x = true → f x = true → Rng w' b r n f (fun k => l k && !decide (k = x)) cnt' → cnt' < cnt → w.grownBy w' (some r) → w'.heap.size = w.heap.size →
      (Instr.entry (.pointer (some ⟨r, 0, none⟩))).run Try.prog w' = .ok (.tuple #[.int .i64 x, .bool true]) w' → wpList Try.prog ops Q rest (a.put o.dst (.tuple #[.bool true, .int .i64 x, .bool true])) w') :
    wpList Try.prog ops Q (o :: rest) a w := by
  obtain ⟨D, left, h1, h2, h3⟩ := h
  refine wpList_next_ranges w hg it hop 3 lawK _ (Value.int .i64) Value.bool (fun key kl hkey => by obtain ⟨x, rfl, _⟩ := Maps.keyOf_int_inv Try.underlying3 hkey; exact ⟨x, rfl⟩) (fun v y hv => by
    unfold plainElem at hv
    rw [Try.underlying4] at hv
    cases v <;> simp at hv
    exact ⟨_, rfl⟩) b r n D left cnt hit h1 (fun h0 hl => hDone h0 (fun k => (h3 k).symm.trans (hl _))) ?_
  intro x c kl y w' cnt' hkey hlk hv hat hrg hlt hgr hsz hen
  obtain ⟨x', ex, rfl, hwx⟩ := Maps.keyOf_int_inv Try.underlying3 hkey
  cases ex
  have hlx : l x = true := (h3 x).symm.trans hlk
  have hfx : f x = true := by
    rw [← (h2.2 x).2]
    exact Maps.has_true_of_atKey hat
  have hc : c = true := by
    have e1 := (h2.2 x).1
    rw [hat _, hfx] at e1
    unfold plainElem at hv
    rw [Try.underlying4] at hv
    simp at hv
    rw [← hv] at e1
    simpa using e1
  subst hc
  refine hMore x w' cnt' hwx hlx hfx ⟨D, _, hrg, h2, fun k => ?_⟩ hlt hgr hsz hen
  show (left (.int .i64 k) && !(Lit.int .i64 k).sameKey (.int .i64 x)) = _
  rw [h3 k]
  congr 2
  by_cases e : k = x
  · subst e
    rw [WideAt.sameKey_self (keyLit k)]; simp
  · rw [Maps.sameKey_ne (key_ne e)]; simp [e]
end
end Go.Proofs.Yteililppbnbfhaa
