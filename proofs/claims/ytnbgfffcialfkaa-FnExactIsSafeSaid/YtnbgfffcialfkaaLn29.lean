/-
  Operations that say no word of the library's, ask nothing of the outside and halt by a panic, a refusal or not at all; what they do hangs on the tape by the answers alone. No condition.
-/
import Derived.Conc.Events
import Derived.RunT
import Derived.Conc.Neutral
import Derived.Conc.Fork
set_option linter.unusedSimpArgs false
set_option linter.unusedVariables false
namespace Go.Proofs.Ytnbgfffcialfkaa
open Go Go.Conc
set_option linter.unusedVariables false

def NiceHalt : Halt → Prop
  | .panic _ | .unsupported _ | .stuck _ => True
  | _ => False
/-- What may stand in the tree of an operation. -/
def Fine {α : Type} (P : Program) (L : α → Prop) : Sem α → Prop
  | .pure a => L a
  | .load _ _ k => ∀ v, Fine P L (k v)
  | .store _ _ _ k => Fine P L k
  | .new _ k => ∀ r, Fine P L (k r)
  | .shape _ k => ∀ s, Fine P L (k s)
  | .freeze _ _ k => Fine P L k
  | .frozen _ k => ∀ b, Fine P L (k b)
  | .getObj _ k => ∀ o, Fine P L (k o)
  | .setObj _ _ k => Fine P L k
  | .choose _ k => ∀ n, Fine P L (k n)
  | .sys _ _ => False
  | .program k => Fine P L (k P)
  | .mark m k => m = .noRoom ∧ Fine P L k
  | .halt h => NiceHalt h
section
variable {P : Program} {α β : Type} {L : α → Prop} {L' : β → Prop}
theorem fine_bind {e : Sem α} {f : α → Sem β} (h : Fine P L e) (hf : ∀ a, L a → Fine P L' (f a)) : Fine P L' (e >>= f) := by
  change Fine P L' (e.bind f)
  induction e with
  | pure a => exact hf a h
  | load m a k ih => exact fun v => ih v (h v)
  | store m a v k ih => exact ih h
  | new o k ih => exact fun r => ih r (h r)
  | shape r k ih => exact fun s => ih s (h s)
  | freeze a n k ih => exact ih h
  | frozen a k ih => exact fun b => ih b (h b)
  | getObj r k ih => exact fun o => ih o (h o)
  | setObj r o k ih => exact ih h
  | choose q k ih => exact fun n => ih n (h n)
  | sys c k ih => exact h.elim
  | program k ih => exact ih P h
  | mark m k ih => exact ⟨h.1, ih h.2⟩
  | halt x => exact h
theorem fine_mono {M : α → Prop} {e : Sem α} (h : Fine P L e) (hf : ∀ a, L a → M a) : Fine P M e := by
  induction e with
  | pure a => exact hf a h
  | load m a k ih => exact fun v => ih v (h v)
  | store m a v k ih => exact ih h
  | new o k ih => exact fun r => ih r (h r)
  | shape r k ih => exact fun s => ih s (h s)
  | freeze a n k ih => exact ih h
  | frozen a k ih => exact fun b => ih b (h b)
  | getObj r k ih => exact fun o => ih o (h o)
  | setObj r o k ih => exact ih h
  | choose q k ih => exact fun n => ih n (h n)
  | sys c k ih => exact h.elim
  | program k ih => exact ih P h
  | mark m k ih => exact ⟨h.1, ih h.2⟩
  | halt x => exact h
end
/-- The world with another tape and another count of draws. -/
def reW (τ : Nat → Question → Nat) (n : Nat) (w : World) : World := { w with tape := τ, drawn := n }
def resW {α : Type} : Result α → World
  | .ok _ w => w
  | .halt _ w => w
def reR {α : Type} (τ : Nat → Question → Nat) (n d : Nat) : Result α → Result α
  | .ok a w => .ok a (reW τ (n + (w.drawn - d)) w)
  | .halt h w => .halt h (reW τ (n + (w.drawn - d)) w)
theorem cell_re (τ : Nat → Question → Nat) (n : Nat) (w : World) (a : Addr) : (reW τ n w).cell? a = w.cell? a := rfl
theorem frozen_re (τ : Nat → Question → Nat) (n : Nat) (w : World) (a : Addr) : (reW τ n w).frozen? a = w.frozen? a := rfl
theorem shape_re (τ : Nat → Question → Nat) (n : Nat) (w : World) (a : Nat) : (reW τ n w).shape? a = w.shape? a := rfl
theorem farLoad_re (P : Program) (τ : Nat → Question → Nat) (n : Nat) (w : World) (a : Addr) (b : Bool) : (reW τ n w).farLoad P a b = w.farLoad P a b := rfl
theorem nice_noCell (w : World) (a : Addr) (s : String) : NiceHalt (w.noCell a s) := by
  unfold World.noCell
  split <;> exact trivial
theorem farLoad_nice {P : Program} {w : World} {a : Addr} {b : Bool} {h : Halt} (e : w.farLoad P a b = .error h) : NiceHalt h := by
  unfold World.farLoad at e
  split at e
  · split at e
    · cases e
    · cases e; exact trivial
  · cases e; exact nice_noCell _ _ _
theorem farStore_nice {P : Program} {w : World} {a : Addr} {v : Value} {b : Bool} {h : Halt} (e : w.farStore P a v b = .error h) : NiceHalt h := by
  unfold World.farStore at e
  split at e
  · split at e
    · cases e
    · cases e; exact trivial
  · cases e; exact nice_noCell _ _ _
theorem viewStore_re (P : Program) (τ : Nat → Question → Nat) (n : Nat) (w : World) (at_ : Addr) (u : TypeId) (a : Addr) (v : Value) (b : Bool) :
    (reW τ n w).viewStore P at_ u a v b = (match w.viewStore P at_ u a v b with | .ok (w', t) => .ok (reW τ n w', t) | .error h => .error h) ∧ (∀ w' t, w.viewStore P at_ u a v b = .ok (w', t) → w'.tape = w.tape ∧ w'.drawn = w.drawn) := by
  have hthrow : ∀ {α : Type} (s : String), (MonadExcept.throw s : Except String α) = .error s := fun _ => rfl
  have hseen : (reW τ n w).seen P at_ u a b = w.seen P at_ u a b := rfl
  have hheap : (reW τ n w).heap = w.heap := rfl
  unfold World.viewStore
  rw [hseen, hheap]
  cases w.seen P at_ u a b with
  | error x => by_cases ht : tight P P.depth u = true <;> simp [ht, hthrow, bind, Except.bind]
  | ok r =>
    obtain ⟨c, e, frozen, first, like, cells⟩ := r
    by_cases ht : tight P P.depth u = true
    · simp only [ht, bind, Except.bind, pure, Except.pure, Bool.not_true, Bool.false_eq_true, if_false]
      cases v.bytes? with
      | none => exact ⟨rfl, fun _ _ e => by cases e⟩
      | some bytes =>
        simp only []
        split
        · exact ⟨rfl, fun _ _ e => by cases e⟩
        · try simp only []
          split
          · exact ⟨rfl, fun _ _ e => by cases e⟩
          · exact ⟨rfl, fun _ _ e => by cases e; exact ⟨rfl, rfl⟩⟩
    · simp [ht, hthrow, bind, Except.bind]
theorem farStore_re (P : Program) (τ : Nat → Question → Nat) (n : Nat) (w : World) (a : Addr) (v : Value) (b : Bool) :
    (reW τ n w).farStore P a v b = (match w.farStore P a v b with | .ok (w', t) => .ok (reW τ n w', t) | .error h => .error h) ∧ (∀ w' t, w.farStore P a v b = .ok (w', t) → w'.tape = w.tape ∧ w'.drawn = w.drawn) := by
  unfold World.farStore
  have hh : (reW τ n w).heap = w.heap := rfl
  rw [hh]
  split
  · rename_i at_ u hv
    obtain ⟨h1, h2⟩ := viewStore_re P τ n w at_ u a v b
    rw [h1]
    cases hs : w.viewStore P at_ u a v b with
    | error x => exact ⟨rfl, fun _ _ e => by cases e⟩
    | ok r =>
      obtain ⟨w', t⟩ := r
      refine ⟨rfl, fun w'' t'' e => ?_⟩
      simp only [Except.ok.injEq, Prod.mk.injEq] at e
      obtain ⟨rfl, rfl⟩ := e
      exact h2 _ _ hs
  · exact ⟨rfl, fun _ _ e => by cases e⟩
def RunOk {α : Type} (L : α → Prop) (w : World) : Result α → Prop
  | .ok a w' => L a ∧ w'.tape = w.tape ∧ w.drawn ≤ w'.drawn
  | .halt x w' => NiceHalt x ∧ w'.tape = w.tape ∧ w.drawn ≤ w'.drawn
theorem RunOk.of {α : Type} {L : α → Prop} {w w' : World} {r : Result α} (h : RunOk L w' r) (h1 : w'.tape = w.tape) (h2 : w.drawn ≤ w'.drawn) : RunOk L w r := by
  cases r <;> exact ⟨h.1, h.2.1.trans h1, Nat.le_trans h2 h.2.2⟩
section
variable {P : Program} {α : Type} {L : α → Prop}
theorem freeze_same (w : World) (a : Addr) (n : Nat) : (w.freeze a n).tape = w.tape ∧ (w.freeze a n).drawn = w.drawn := by
  unfold World.freeze; split <;> exact ⟨rfl, rfl⟩
theorem fine_run {e : Sem α} (h : Fine P L e) : ∀ w, RunOk L w (e.run P w) := by
  induction e with
  | pure a => exact fun w => ⟨h, rfl, Nat.le_refl _⟩
  | load m a k ih =>
    intro w
    simp only [Sem.run]
    split
    · exact ih _ (h _) w
    · split
      · exact ih _ (h _) w
      · rename_i x hx
        exact ⟨farLoad_nice hx, rfl, Nat.le_refl _⟩
  | store m a v k ih =>
    intro w
    have key : RunOk L w (match w.cell? a with
        | some _ => if w.frozen? a then .halt (.unsupported (.unsafePointer "a write to bytes that a string shares")) w else k.run P (w.setCell a v)
        | none => match w.farStore P a v (m == .atomic) with
          | .ok (w, _) => k.run P w
          | .error h => .halt h w) := by
      split
      · split
        · exact ⟨trivial, rfl, Nat.le_refl _⟩
        · exact (ih h (w.setCell a v)).of rfl (Nat.le_refl _)
      · split
        · rename_i w' t hx
          obtain ⟨h1, h2⟩ := (farStore_re P w.tape w.drawn w a v (m == .atomic)).2 _ _ hx
          exact (ih h w').of h1 (by omega)
        · rename_i x hx
          exact ⟨farStore_nice hx, rfl, Nat.le_refl _⟩
    cases v <;> first | exact key | exact ⟨trivial, rfl, Nat.le_refl _⟩
  | new o k ih => exact fun w => (ih _ (h _) { w with heap := w.heap.push o }).of rfl (Nat.le_refl _)
  | shape r k ih => exact fun w => ih _ (h _) w
  | freeze a n k ih => exact fun w => (ih h (w.freeze a n)).of (freeze_same w a n).1 (by rw [(freeze_same w a n).2]; exact Nat.le_refl _)
  | frozen a k ih => exact fun w => ih _ (h _) w
  | getObj r k ih =>
    intro w
    simp only [Sem.run]
    split
    · exact ⟨trivial, rfl, Nat.le_refl _⟩
    · exact ih _ (h _) w
    · exact ⟨trivial, rfl, Nat.le_refl _⟩
  | setObj r o k ih =>
    intro w
    simp only [Sem.run]
    split
    · exact ⟨trivial, rfl, Nat.le_refl _⟩
    · exact (ih h { w with heap := w.heap.setIfInBounds r o }).of rfl (Nat.le_refl _)
    · exact ⟨trivial, rfl, Nat.le_refl _⟩
  | choose q k ih =>
    intro w
    simp only [Sem.run]
    split
    · exact ih _ (h _) w
    · exact (ih _ (h _) { w with drawn := w.drawn + 1 }).of rfl (Nat.le_succ _)
  | sys c k ih => exact h.elim
  | program k ih => exact fun w => ih P h w
  | mark m k ih => exact fun w => ih h.2 w
  | halt x => exact fun w => ⟨h, rfl, Nat.le_refl _⟩
/-- What it lists: no word of the library's. -/
theorem fine_events {e : Sem α} (h : Fine P L e) : ∀ w es, ∀ ev ∈ (e.runT P w es).2, ev ∈ es ∨ ∀ m, ev.loc = .mark m → Neutral m := by
  have new : ∀ (es : Array Event) (r : Array Event) (x : Event), (∀ m, x.loc = .mark m → Neutral m) → (∀ ev ∈ r, ev ∈ es.push x ∨ ∀ m, ev.loc = .mark m → Neutral m) → ∀ ev ∈ r, ev ∈ es ∨ ∀ m, ev.loc = .mark m → Neutral m := by
    intro es r x hx hr ev hev
    rcases hr ev hev with h | h
    · rcases Array.mem_push.1 h with h | rfl
      · exact .inl h
      · exact .inr hx
    · exact .inr h
  have news : ∀ (es : Array Event) (r xs : Array Event), (∀ x ∈ xs, ∀ m, x.loc = .mark m → Neutral m) → (∀ ev ∈ r, ev ∈ es ++ xs ∨ ∀ m, ev.loc = .mark m → Neutral m) → ∀ ev ∈ r, ev ∈ es ∨ ∀ m, ev.loc = .mark m → Neutral m := by
    intro es r xs hx hr ev hev
    rcases hr ev hev with h | h
    · rcases Array.mem_append.1 h with h | h
      · exact .inl h
      · exact .inr (hx _ h)
    · exact .inr h
  have cells : ∀ (t : List Addr) (b c : Bool), ∀ x ∈ t.toArray.map (fun a => (⟨.cell a, b, c⟩ : Event)), ∀ m, x.loc = .mark m → Neutral m := by
    intro t b c x hx m hm
    obtain ⟨a, _, rfl⟩ := Array.mem_map.1 hx
    cases hm
  induction e with
  | pure a => exact fun w es ev h => .inl h
  | load m a k ih =>
    intro w es
    simp only [Sem.runT]
    split
    · exact new _ _ _ (fun _ h => by cases h) (ih _ (h _) _ _)
    · split
      · exact news _ _ _ (cells _ _ _) (ih _ (h _) _ _)
      · exact fun ev h => .inl h
  | store m a v k ih =>
    intro w es
    have key : ∀ ev ∈ (match w.cell? a with
        | some _ =>
          if w.frozen? a then (.halt (.unsupported (.unsafePointer "a write to bytes that a string shares")) w, es)
          else k.runT P (w.setCell a v) (es.push ⟨.cell a, true, m == .atomic⟩)
        | none => match w.farStore P a v (m == .atomic) with
          | .ok (w, touched) => k.runT P w (es ++ touched.toArray.map (⟨.cell ·, true, m == .atomic⟩))
          | .error h => (.halt h w, es) : Result α × Array Event).2, ev ∈ es ∨ ∀ m, ev.loc = .mark m → Neutral m := by
      split
      · split
        · exact fun ev h => .inl h
        · exact new _ _ _ (fun _ h => by cases h) (ih h _ _)
      · split
        · exact news _ _ _ (cells _ _ _) (ih h _ _)
        · exact fun ev h => .inl h
    cases v <;> first | exact key | exact fun ev h => .inl h
  | new o k ih => exact fun w es => ih _ (h _) _ _
  | shape r k ih => exact fun w es => ih _ (h _) _ _
  | freeze a n k ih => exact fun w es => ih h _ _
  | frozen a k ih => exact fun w es => ih _ (h _) _ _
  | getObj r k ih =>
    intro w es
    simp only [Sem.runT]
    split
    · exact fun ev h => .inl h
    · exact new _ _ _ (fun _ h => by cases h) (ih _ (h _) _ _)
    · exact fun ev h => .inl h
  | setObj r o k ih =>
    intro w es
    simp only [Sem.runT]
    split
    · exact fun ev h => .inl h
    · exact new _ _ _ (fun _ h => by cases h) (ih h _ _)
    · exact fun ev h => .inl h
  | choose q k ih =>
    intro w es
    simp only [Sem.runT]
    split
    · exact ih _ (h _) _ _
    · exact ih _ (h _) _ _
  | sys c k ih => exact h.elim
  | program k ih => exact fun w es => ih P h _ _
  | mark m k ih => exact fun w es => new _ _ _ (fun m' e => by cases e; exact h.1) (ih h.2 _ _)
  | halt x => exact fun w es ev h => .inl h
/-- It hangs on the tape by the answers alone. -/
theorem fine_re {e : Sem α} (h : Fine P L e) : ∀ (w : World) (es : Array Event) (τ : Nat → Question → Nat) (n : Nat), (∀ x q, n ≤ x → x < n + ((resW (e.run P w)).drawn - w.drawn) → τ x q = w.tape (w.drawn + (x - n)) q) →
    e.runT P (reW τ n w) es = (reR τ n w.drawn (e.runT P w es).1, (e.runT P w es).2) := by
  induction e with
  | pure a => intro w es τ n _; simp [Sem.runT, reR]
  | load m a k ih =>
    intro w es τ n ht
    simp only [Sem.run] at ht
    simp only [Sem.runT, cell_re, farLoad_re]
    cases hc : w.cell? a with
    | some v => simp only [hc] at ht ⊢; exact ih _ (h _) w _ τ n ht
    | none =>
      simp only [hc] at ht ⊢
      cases hf : w.farLoad P a (m == .atomic) with
      | ok r => obtain ⟨v, t⟩ := r; simp only [hf] at ht ⊢; exact ih _ (h _) w _ τ n ht
      | error x => simp [reR]
  | store m a v k ih =>
    intro w es τ n ht
    have key : (resW (match w.cell? a with
        | some _ => if w.frozen? a then .halt (.unsupported (.unsafePointer "a write to bytes that a string shares")) w else k.run P (w.setCell a v)
        | none => match w.farStore P a v (m == .atomic) with
          | .ok (w, _) => k.run P w
          | .error h => .halt h w)) = resW ((Sem.store m a v k).run P w) → (match (reW τ n w).cell? a with
        | some _ =>
          if (reW τ n w).frozen? a then (.halt (.unsupported (.unsafePointer "a write to bytes that a string shares")) (reW τ n w), es)
          else k.runT P ((reW τ n w).setCell a v) (es.push ⟨.cell a, true, m == .atomic⟩)
        | none => match (reW τ n w).farStore P a v (m == .atomic) with
          | .ok (w, touched) => k.runT P w (es ++ touched.toArray.map (⟨.cell ·, true, m == .atomic⟩))
          | .error h => (.halt h (reW τ n w), es) : Result α × Array Event) = (fun x : Result α × Array Event => (reR τ n w.drawn x.1, x.2)) (match w.cell? a with
        | some _ =>
          if w.frozen? a then (.halt (.unsupported (.unsafePointer "a write to bytes that a string shares")) w, es)
          else k.runT P (w.setCell a v) (es.push ⟨.cell a, true, m == .atomic⟩)
        | none => match w.farStore P a v (m == .atomic) with
          | .ok (w, touched) => k.runT P w (es ++ touched.toArray.map (⟨.cell ·, true, m == .atomic⟩))
          | .error h => (.halt h w, es)) := by
      intro hk
      rw [← hk] at ht
      simp only [cell_re, frozen_re, (farStore_re P τ n w a v (m == .atomic)).1]
      cases hc : w.cell? a with
      | some x =>
        simp only [hc] at ht ⊢
        by_cases hz : w.frozen? a = true
        · simp [hz, reR]
        · simp only [hz] at ht ⊢
          exact ih h (w.setCell a v) _ τ n ht
      | none =>
        simp only [hc] at ht ⊢
        cases hf : w.farStore P a v (m == .atomic) with
        | ok r =>
          obtain ⟨w', t⟩ := r
          obtain ⟨h1, h2⟩ := (farStore_re P τ n w a v (m == .atomic)).2 _ _ hf
          simp only [hf] at ht ⊢
          rw [← h2]
          exact ih h w' _ τ n (by rw [h2, h1]; exact ht)
        | error x => simp [reR]
    cases v <;> first | exact key rfl | (simp [Sem.runT, reR]; done)
  | new o k ih => intro w es τ n ht; exact ih _ (h _) { w with heap := w.heap.push o } es τ n ht
  | shape r k ih => intro w es τ n ht; exact ih _ (h _) w es τ n ht
  | freeze a m k ih =>
    intro w es τ n ht
    obtain ⟨h1, h2⟩ := freeze_same w a m
    have := ih h (w.freeze a m) es τ n (by rw [h2, h1]; exact ht)
    rw [h2] at this
    have e : (reW τ n w).freeze a m = reW τ n (w.freeze a m) := by unfold World.freeze; split <;> rfl
    simp only [Sem.runT, e]
    exact this
  | frozen a k ih => intro w es τ n ht; exact ih _ (h _) w es τ n ht
  | getObj r k ih =>
    intro w es τ n ht
    simp only [Sem.run] at ht
    simp only [Sem.runT, show (reW τ n w).heap = w.heap from rfl]
    cases ho : w.heap[r]? with
    | none => simp [reR]
    | some o =>
      simp only [ho] at ht ⊢
      cases o <;> first | (simp [reR]; done) | exact ih _ (h _) w _ τ n ht
  | setObj r o k ih =>
    intro w es τ n ht
    simp only [Sem.run] at ht
    simp only [Sem.runT, show (reW τ n w).heap = w.heap from rfl]
    cases ho : w.heap[r]? with
    | none => simp [reR]
    | some o' =>
      simp only [ho] at ht ⊢
      cases o' <;> first | (simp [reR]; done) | exact ih h { w with heap := w.heap.setIfInBounds r o } _ τ n ht
  | choose q k ih =>
    intro w es τ n ht
    simp only [Sem.run] at ht
    simp only [Sem.runT]
    by_cases hq : q.forced = true
    · simp only [hq, if_true] at ht ⊢
      exact ih _ (h _) w es τ n ht
    · simp only [hq] at ht ⊢
      have hadv := fine_run (h (q.cut (w.tape w.drawn q))) { w with drawn := w.drawn + 1 }
      have hd : w.drawn + 1 ≤ (resW ((k (q.cut (w.tape w.drawn q))).run P { w with drawn := w.drawn + 1 })).drawn := by
        revert hadv
        cases (k (q.cut (w.tape w.drawn q))).run P { w with drawn := w.drawn + 1 } <;> exact fun h => h.2.2
      simp only [Bool.false_eq_true, if_false] at ht ⊢
      have e0 : τ n q = w.tape w.drawn q := by
        have := ht n q (Nat.le_refl _) (by omega)
        simpa using this
      have := ih _ (h (q.cut (w.tape w.drawn q))) { w with drawn := w.drawn + 1 } es τ (n + 1) (fun x q' h1 h2 => by
        have := ht x q' (by omega) (by simp only [] at h2; omega)
        rw [this]
        simp only []
        congr 1
        omega)
      change (k (q.cut (τ n q))).runT P (reW τ (n + 1) { w with drawn := w.drawn + 1 }) es = _
      rw [e0, this]
      refine Prod.ext ?_ rfl
      simp only []
      have h1 : ((k (q.cut (w.tape w.drawn q))).runT P { w with drawn := w.drawn + 1 } es).1 = (k (q.cut (w.tape w.drawn q))).run P { w with drawn := w.drawn + 1 } := Sem.runT_fst _ _ _ _
      rw [h1]
      revert hd
      cases (k (q.cut (w.tape w.drawn q))).run P { w with drawn := w.drawn + 1 } <;> intro hd <;> simp only [reR, resW] at hd ⊢ <;> congr 2 <;> omega
  | sys c k ih => exact h.elim
  | program k ih => intro w es τ n ht; exact ih P h w es τ n ht
  | mark m k ih => intro w es τ n ht; exact ih h.2 w _ τ n ht
  | halt x => intro w es τ n _; simp [Sem.runT, reR]
end
end Go.Proofs.Ytnbgfffcialfkaa
