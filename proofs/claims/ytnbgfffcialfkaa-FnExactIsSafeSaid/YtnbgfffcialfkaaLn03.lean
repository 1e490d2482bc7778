/-
  A sender and a ranging receiver over a channel without a buffer, both of which make and write memory of their own: the scripts; the end of the run behind the close. No condition.
-/
import Derived.Test.YtnbgfffcialfkaaLn02
set_option linter.unusedSimpArgs false
set_option linter.unusedVariables false
namespace Go.Proofs.Ytnbgfffcialfkaa
open Go Go.Conc
set_option linter.unusedVariables false

/-- Where nobody else does anything but count draws. -/
def RelF : RelyI := fun _ w w₁ => ∃ d, w₁ = w.at d
/-- .. and of a step nothing is asked but that it lists no word of the library's. -/
def DelF : GuarI := fun _ _ _ _ es => ∀ e ∈ es, ∀ m, e.loc = .mark m → Neutral m
theorem termsF : TermsI RelF DelF :=
  ⟨fun _ w => ⟨w.drawn, rfl⟩, fun {_ a b c} h h' => by obtain ⟨d, rfl⟩ := h; obtain ⟨d', rfl⟩ := h'; exact ⟨d', rfl⟩, fun _ _ _ he => by simp at he⟩
section
variable (P : Program) (Low c : Nat)
def AtSendI (v : Value) (Next : OwnP → Goroutine → World → Prop) (Own : OwnP) (g : Goroutine) (w : World) : Prop :=
  g.status = .running ∧ ∃ g₂ z es, stepG P false g w = .comm g₂ #[scase c v z] true .send w es ∧ (∀ e ∈ es, EvO Low Own e) ∧ ∀ w₂, RelO Low (some c) Own w w₂ → Next Own (Conc.served g₂ undef) w₂
def AtCloseI (Own : OwnP) (g : Goroutine) (w : World) : Prop :=
  g.status = .running ∧ mayWake P g = true ∧ ∃ (g₂ : Goroutine) (es : Array Event) (n : Nat), (∀ s r tm, w.heap[c]? = some (.chan 0 #[] false s r tm) → stepG P false g w = .go g₂ (w.shut c s r tm) (es.push ⟨.obj c, true, true⟩)) ∧ (∀ e ∈ es, EvO Low Own e) ∧ QuitsIn P n g₂
/-- The sender's script. -/
def SendsI : List Value → OwnP → Goroutine → World → Prop
  | [] => GoesI P false (RelO Low (some c)) (DelO Low (some c)) (AtCloseI P Low c)
  | v :: vs => GoesI P false (RelO Low (some c)) (DelO Low (some c)) (AtSendI P Low c v (SendsI vs))
def StopBI : List Value → OwnP → Goroutine → World → Prop
  | [] => AtCloseI P Low c
  | v :: vs => AtSendI P Low c v (SendsI P Low c vs)
theorem sendsI_iff (vs : List Value) (Own : OwnP) (g : Goroutine) (w : World) : SendsI P Low c vs Own g w ↔ GoesI P false (RelO Low (some c)) (DelO Low (some c)) (StopBI P Low c vs) Own g w := by
  cases vs <;> exact Iff.rfl
def AtRecvI (z : Value) (Next : OwnP → Goroutine → World → Prop) (Own : OwnP) (g : Goroutine) (w : World) : Prop :=
  g.status = .running ∧ ∃ es, stepG P true g w = .comm (core g) #[rcase c z] true (.recv true) w es ∧ (∀ e ∈ es, EvO Low Own e) ∧ ∀ w₂, RelO Low (some c) Own w w₂ → Next Own (core g) w₂
/-- The receiver's script. -/
def RecvsI (z : Value) (Fin : OwnP → Goroutine → World → Prop) : List Value → OwnP → Goroutine → World → Prop
  | [] => GoesI P true (RelO Low (some c)) (DelO Low (some c)) (AtRecvI P Low c z fun O g₂ w₂ => Fin O (Conc.served g₂ (recvd true z false)) w₂)
  | v :: vs => GoesI P true (RelO Low (some c)) (DelO Low (some c)) (AtRecvI P Low c z fun O g₂ w₂ => RecvsI z Fin vs O (Conc.served g₂ (recvd true v true)) w₂)
def StopAI (z : Value) (Fin : OwnP → Goroutine → World → Prop) : List Value → OwnP → Goroutine → World → Prop
  | [] => AtRecvI P Low c z fun O g₂ w₂ => Fin O (Conc.served g₂ (recvd true z false)) w₂
  | v :: vs => AtRecvI P Low c z fun O g₂ w₂ => RecvsI P Low c z Fin vs O (Conc.served g₂ (recvd true v true)) w₂
theorem recvsI_iff (z : Value) (Fin : OwnP → Goroutine → World → Prop) (vs : List Value) (Own : OwnP) (g : Goroutine) (w : World) :
    RecvsI P Low c z Fin vs Own g w ↔ GoesI P true (RelO Low (some c)) (DelO Low (some c)) (StopAI P Low c z Fin vs) Own g w := by
  cases vs <;> exact Iff.rfl
/-- At the return of goroutine 0. -/
def AtEndI (Post : Value → World → Prop) (O : OwnP) (g : Goroutine) (w : World) : Prop :=
  g.status = .running ∧ ∃ v es, stepG P true g w = .ended (.done v) w es ∧ (∀ e ∈ es, ∀ m, e.loc = .mark m → Neutral m) ∧ Post v w
/-- Goroutine 0 behind the close: on its way to the return, by itself. -/
def FinI (Post : Value → World → Prop) : OwnP → Goroutine → World → Prop := GoesI P true RelF DelF (AtEndI P Post)
end
/-- The run from here on ends, well. -/
inductive EndsG (P : Program) (Post : Value → World → Prop) : Machine → Trace → Prop
  | done {m : Machine} {t : Trace} {o : Outcome} {w : World} {ops : Array MemOp} (hs : stepT P m = (.ended o w, ops)) (hq : Good P Post m o w (t ++ ops)) : EndsG P Post m t
  | next {m m' : Machine} {t : Trace} {ops : Array MemOp} (hs : stepT P m = (.next m', ops)) (hn : EndsG P Post m' (t ++ ops)) : EndsG P Post m t
theorem EndsG.run {P : Program} {Post : Value → World → Prop} {m : Machine} {t : Trace} (h : EndsG P Post m t) :
    ∃ n last o w t', runNT P (n + 1) m t = (.ended o w, t') ∧ runN P n m = .next last ∧ step P last = .ended o w ∧ Good P Post last o w t' := by
  induction h with
  | done hs hq => exact ⟨0, _, _, _, _, by simp only [runNT, hs], rfl, by simp [step, hs], hq⟩
  | next hs _ ih =>
    obtain ⟨n, last, o, w, t', h1, h2, h3, h4⟩ := ih
    exact ⟨n + 1, last, o, w, t', by rw [runNT_succ_next hs]; exact h1, by rw [runN_succ_next hs]; exact h2, h3, h4⟩
/-- The trace behind the receive from the closed channel: goroutine 0 alone goes on. -/
structure FinT (own : Loc → Option Nat) (c p pc pr N : Nat) (t : Trace) : Prop where
  wordless : Wordless t
  go : ∃ op, t[p]? = some op ∧ op.g = 0 ∧ op.act = .go 1
  start : ∃ op, t[p + 1]? = some op ∧ op.g = 1 ∧ op.act = .start
  early : ∀ i op, t[i]? = some op → i < p → op.g = 0
  late : ∀ i op, t[i]? = some op → p + 1 < i → i < N → Late2 own op
  tail : ∀ i op, t[i]? = some op → N ≤ i → op.g = 0
  closed : Closed c t pc
  recv : ∃ op, t[pr]? = some op ∧ op.g = 0 ∧ op.act = .recvClosed c
  lt : pr < N ∧ p + 1 < N
theorem FinT.of {own : Loc → Option Nat} {c p pc pr : Nat} {t : Trace} (hf : Forked2 own t p) (hc : Closed c t pc) (hr : ∃ op, t[pr]? = some op ∧ op.g = 0 ∧ op.act = .recvClosed c) : FinT own c p pc pr t.size t :=
  ⟨hf.wordless, hf.go, hf.start, hf.early, fun i op h1 h2 _ => hf.late i op h1 h2, fun i op h1 h2 => absurd (lt_size_of_getElem? h1) (by omega), hc, hr, by obtain ⟨op, h1, _⟩ := hr; exact lt_size_of_getElem? h1, by obtain ⟨op, h1, _⟩ := hf.start; exact lt_size_of_getElem? h1⟩
theorem FinT.add {own : Loc → Option Nat} {c p pc pr N : Nat} {t u : Trace} (h : FinT own c p pc pr N t) (hN : N ≤ t.size) (hw : Wordless u) (h0 : ∀ op ∈ u, op.g = 0) : FinT own c p pc pr N (t ++ u) := by
  obtain ⟨g, hg, hg1, hg2⟩ := h.go
  obtain ⟨s, hs, hs1, hs2⟩ := h.start
  obtain ⟨r, hr, hr1, hr2⟩ := h.recv
  have old : ∀ {k : Nat} {op : MemOp}, t[k]? = some op → (t ++ u)[k]? = some op := fun h => by rw [getElem?_append_old (lt_size_of_getElem? h)]; exact h
  refine ⟨h.wordless.append hw, ⟨g, old hg, hg1, hg2⟩, ⟨s, old hs, hs1, hs2⟩, fun i op hi hlt => ?_, fun i op hi hlt hN' => ?_, fun i op hi hN' => ?_, h.closed.append h0, ⟨r, old hr, hr1, hr2⟩, h.lt⟩
  · rw [getElem?_append_old (by have := lt_size_of_getElem? hg; omega)] at hi; exact h.early i op hi hlt
  · rw [getElem?_append_old (by omega)] at hi; exact h.late i op hi hlt hN'
  · rcases getElem?_append_cases hi with ⟨_, hi'⟩ | ⟨_, hm⟩
    · exact h.tail i op hi' hN'
    · exact h0 op hm
theorem FinT.handedOver {own : Loc → Option Nat} {c p pc pr N : Nat} {t : Trace} (h : FinT own c p pc pr N t) : t.HandedOver := handedOver_of_closed h.wordless h.closed h.recv
theorem FinT.noRace {own : Loc → Option Nat} {c p pc pr N : Nat} {t : Trace} (h : FinT own c p pc pr N t) (said : Bool) : ¬ Race said t := by
  rintro ⟨i, j, hij, ⟨x, y, hx, hy, hloc, _, hwr, _⟩, hn, _⟩
  obtain ⟨oi, hoi, hxi⟩ := touch_of hx
  obtain ⟨oj, hoj, hyj⟩ := touch_of hy
  obtain ⟨g, hg, hg1, hg2⟩ := h.go
  obtain ⟨s, hs, hs1, hs2⟩ := h.start
  have nip : i ≠ p := by rintro rfl; rw [hg] at hoi; cases hoi; simp [hg2, MemAct.touch?] at hxi
  have nip1 : i ≠ p + 1 := by rintro rfl; rw [hs] at hoi; cases hoi; simp [hs2, MemAct.touch?] at hxi
  have njp : j ≠ p := by rintro rfl; rw [hg] at hoj; cases hoj; simp [hg2, MemAct.touch?] at hyj
  have njp1 : j ≠ p + 1 := by rintro rfl; rw [hs] at hoj; cases hoj; simp [hs2, MemAct.touch?] at hyj
  apply hn
  by_cases hjN : N ≤ j
  · have gj := h.tail j oj hoj hjN
    by_cases gi : oi.g = 0
    · exact hb_po hij hoi hoj (by rw [gi, gj])
    · obtain ⟨k, hk, hk1, hk2⟩ := h.closed.close
      obtain ⟨r, hr, hr1, hr2⟩ := h.recv
      obtain ⟨g1, hle⟩ := h.closed.last i oi hoi gi
      have hne' : i ≠ pc := by rintro rfl; rw [hk] at hoi; cases hoi; simp [hk2, MemAct.touch?] at hxi
      have e1 : HappensBefore t i pc := hb_po (by omega) hoi hk (by rw [g1, hk1])
      have e2 : HappensBefore t pc pr := .single (.inr ⟨.closed (c := c) (by simp [Trace.act?, hk, hk2]) (by simp [Trace.act?, hr, hr2]), h.wordless.heard hk, h.wordless.heard hr⟩)
      have e3 : HappensBefore t pr j := hb_po (by have := h.lt.1; omega) hr hoj (by rw [hr1, gj])
      exact (e1.trans e2).trans e3
  by_cases hi : i < p
  · have gi := h.early i oi hoi hi
    by_cases hj : j < p
    · exact hb_po hij hoi hoj (by rw [gi, h.early j oj hoj hj])
    · rcases (h.late j oj hoj (by omega) (by omega)).1 with gj | gj
      · exact hb_po hij hoi hoj (by rw [gi, gj])
      · have e1 : HappensBefore t i p := hb_po hi hoi hg (by rw [gi, hg1])
        have e2 : HappensBefore t p (p + 1) := .single (.inr ⟨.spawn (child := 1) (by simp [Trace.act?, hg, hg2]) (by simp [Trace.act?, hs, hs2]) (by simp [Trace.g?, hs, hs1]), h.wordless.heard hg, h.wordless.heard hs⟩)
        have e3 : HappensBefore t (p + 1) j := hb_po (by omega) hs hoj (by rw [hs1, gj])
        exact (e1.trans e2).trans e3
  · have li := h.late i oi hoi (by omega) (by omega)
    have lj := h.late j oj hoj (by omega) (by omega)
    rcases li.2 x hxi with ⟨wi, ni⟩ | ni <;> rcases lj.2 y hyj with ⟨wj, nj⟩ | nj
    · exfalso
      rcases hwr with hw | hw
      · rw [wi] at hw; cases hw
      · rw [wj] at hw; cases hw
    · rw [hloc] at ni; rw [ni] at nj; cases nj
    · rw [hloc] at ni; rw [ni] at nj; cases nj
    · rw [hloc] at ni
      rw [ni] at nj
      injection nj with nj
      exact hb_po hij hoi hoj nj
theorem good_fin {P : Program} {Post : Value → World → Prop} {own : Loc → Option Nat} {c p pc pr N k : Nat} {a b : Goroutine} {w w' : World} {sl : Option (Nat × Nat)} {t : Trace} {v : Value} (hp : Post v w') (hT : FinT own c p pc pr N t) (hB : QuitsIn P k b) :
    Good P Post (duo a b w sl) (.done v) w' t := by
  refine ⟨v, rfl, hp, hT.noRace, hT.handedOver, ⟨?_, rfl⟩, ?_⟩
  · intro g hg
    have : g = b := by simpa [duo] using hg
    rw [this]
    exact ⟨k, hB.leaves⟩
  · intro i g hg hne
    match i, hg, hne with
    | 0, _, hne => exact absurd rfl hne
    | 1, hg, _ =>
      have : g = b := by simpa [duo] using hg.symm
      rw [this, hT.wordless.deaf]
      exact ⟨k, hB.hears _ 0⟩
    | i + 2, hg, _ => simp [duo] at hg
theorem quits_step {P : Program} {k : Nat} {b : Goroutine} (h : QuitsIn P k b) (hr : b.status = .running) : ∃ k' b', k = k' + 1 ∧ (∀ w, stepG P false b w = .go b' w #[]) ∧ QuitsIn P k' b' := by
  cases k with
  | zero => rw [show b.status = .finished from h] at hr; cases hr
  | succ k =>
    rcases h with h | ⟨_, b', hw, hq⟩
    · rw [h] at hr; cases hr
    · exact ⟨k, b', rfl, hw, hq⟩
/-- Behind the receive from the closed channel. -/
theorem ends_fin {P : Program} {Post : Value → World → Prop} {own : Loc → Option Nat} {c p pc pr N : Nat} {O : OwnP} {a : Goroutine} {w : World} (hA : FinI P Post O a w) :
    ∀ (k : Nat) (d : Nat) (b : Goroutine) (sl : Option (Nat × Nat)) (t : Trace), QuitsIn P k b → FinT own c p pc pr N t → N ≤ t.size → EndsG P Post (duo a b (w.at d) sl) t := by
  unfold FinI at hA
  have hra0 := hA.running termsF (fun _ _ _ h => h.1)
  induction hA with
  | stop h =>
    rename_i O a w
    intro k
    induction k with
    | zero =>
      intro d b sl t hB hT hN
      have sB := hB.status
      have awB : awake b := awake_of (sB.elim .inl fun h => .inr (.inr h))
      obtain ⟨d', sl', hmv⟩ := duo_pick (P := P) (w := w.at d) (sl := sl) (awake_of (.inl hra0)) awB (.inl hra0)
      rcases hmv with ⟨_, hst⟩ | ⟨hrb, hst⟩
      · obtain ⟨_, v, es, hend, hes, hpost⟩ := h ((w.at d).at d') ⟨d', rfl⟩
        have hT2 := hT.add hN (early0 (fn := a.frame.fn) (pos := a.frame.place) hes).1 (early0 hes).2
        exact .done (hst.trans (runT_duo0_ended hend)) (good_fin hpost hT2 hB)
      · rw [show b.status = .finished from hB] at hrb; cases hrb
    | succ k ih =>
      intro d b sl t hB hT hN
      have sB := hB.status
      have awB : awake b := awake_of (sB.elim .inl fun h => .inr (.inr h))
      obtain ⟨d', sl', hmv⟩ := duo_pick (P := P) (w := w.at d) (sl := sl) (awake_of (.inl hra0)) awB (.inl hra0)
      rcases hmv with ⟨_, hst⟩ | ⟨hrb, hst⟩
      · obtain ⟨_, v, es, hend, hes, hpost⟩ := h ((w.at d).at d') ⟨d', rfl⟩
        have hT2 := hT.add hN (early0 (fn := a.frame.fn) (pos := a.frame.place) hes).1 (early0 hes).2
        exact .done (hst.trans (runT_duo0_ended hend)) (good_fin hpost hT2 hB)
      · obtain ⟨k', b', e, hw, hq⟩ := quits_step hB hrb
        injection e with e
        subst e
        refine .next (hst.trans (runT_duo1 (hw _))) ?_
        rw [woken_running hra0, ofEvents_none, Array.append_empty]
        exact ih d' b' sl' t hq hT hN
  | step hs g' w' es O' h1 h2 h3 ih =>
    rename_i O a w
    intro k
    induction k with
    | zero =>
      intro d b sl t hB hT hN
      have sB := hB.status
      have awB : awake b := awake_of (sB.elim .inl fun h => .inr (.inr h))
      obtain ⟨d', sl', hmv⟩ := duo_pick (P := P) (w := w.at d) (sl := sl) (awake_of (.inl hra0)) awB (.inl hra0)
      rcases hmv with ⟨_, hst⟩ | ⟨hrb, hst⟩
      · have r : RelF O w ((w.at d).at d') := ⟨d', rfl⟩
        refine .next (hst.trans (runT_duo0 (h1 _ r))) ?_
        rw [woken_quits hB]
        exact ih _ r ((h3 _ r).running termsF (fun _ _ _ h => h.1)) 0 (w' _ r).drawn b sl' _ hB (hT.add hN (early0 (h2 _ r)).1 (early0 (h2 _ r)).2) (by rw [Array.size_append]; omega)
      · rw [show b.status = .finished from hB] at hrb; cases hrb
    | succ k ihk =>
      intro d b sl t hB hT hN
      have sB := hB.status
      have awB : awake b := awake_of (sB.elim .inl fun h => .inr (.inr h))
      obtain ⟨d', sl', hmv⟩ := duo_pick (P := P) (w := w.at d) (sl := sl) (awake_of (.inl hra0)) awB (.inl hra0)
      rcases hmv with ⟨_, hst⟩ | ⟨hrb, hst⟩
      · have r : RelF O w ((w.at d).at d') := ⟨d', rfl⟩
        refine .next (hst.trans (runT_duo0 (h1 _ r))) ?_
        rw [woken_quits hB]
        exact ih _ r ((h3 _ r).running termsF (fun _ _ _ h => h.1)) (k + 1) (w' _ r).drawn b sl' _ hB (hT.add hN (early0 (h2 _ r)).1 (early0 (h2 _ r)).2) (by rw [Array.size_append]; omega)
      · obtain ⟨k', b', e, hw, hq⟩ := quits_step hB hrb
        injection e with e
        subst e
        refine .next (hst.trans (runT_duo1 (hw _))) ?_
        rw [woken_running hra0, ofEvents_none, Array.append_empty]
        exact ihk d' b' sl' t hq hT hN
end Go.Proofs.Ytnbgfffcialfkaa
