/-
  Three goroutines: the first, one that only leaves, and a sender: who moves, and what a move is. No condition.
  Traces of three goroutines, the third started behind the end of the second's sends. No condition.
  The theorem of the machine, once more: the sender and the receiver of a second survey, beside a goroutine that only leaves. No condition.
-/
import Derived.Test.YtnbgfffcialfkaaLn03
import Derived.Test.YtnbgfffcialfkaaLn19
set_option linter.unusedSimpArgs false
set_option linter.unusedVariables false
namespace Go.Proofs.Ytnbgfffcialfkaa
open Go Go.Conc
set_option linter.unusedVariables false

def trio (a q b : Goroutine) (w : World) (sl : Option (Nat × Nat)) : Machine :=
  { world := w, gs := #[a, q, b], rest := { timers := #[], alone := none, slice := sl } }
theorem trio_at (a q b : Goroutine) (w : World) (sl sl' : Option (Nat × Nat)) (d : Nat) : (trio a q b w sl).at d sl' = trio a q b (w.at d) sl' := rfl
theorem trio_pick {P : Program} {a q b : Goroutine} {w : World} {sl : Option (Nat × Nat)} (ha : awake a) (hq : awake q) (hb : awake b) (some1 : a.status = .running ∨ b.status = .running) :
    ∃ d sl', (a.status = .running ∧ stepT P (trio a q b w sl) = runT P (trio a q b (w.at d) sl') 0) ∨ (q.status = .running ∧ stepT P (trio a q b w sl) = runT P (trio a q b (w.at d) sl') 1) ∨ (b.status = .running ∧ stepT P (trio a q b w sl) = runT P (trio a q b (w.at d) sl') 2) := by
  have hah : ahead (trio a q b w sl) true = none := by
    cases hsa : a.status <;> cases hsq : q.status <;> cases hsb : b.status <;> first | exact absurd hsa (ha _) | exact absurd hsq (hq _) | exact absurd hsb (hb _) | simp [ahead, trio, hsa, hsq, hsb]
  have hne : runnable (trio a q b w sl).gs (trio a q b w sl).world.os.mono ≠ [] := by
    intro h
    rcases some1 with h1 | h1
    · have : 0 ∈ runnable (trio a q b w sl).gs (trio a q b w sl).world.os.mono := mem_runnable.2 (by simp [trio, Goroutine.canRun, h1])
      rw [h] at this; cases this
    · have : 2 ∈ runnable (trio a q b w sl).gs (trio a q b w sl).world.os.mono := mem_runnable.2 (by simp [trio, Goroutine.canRun, h1])
      rw [h] at this; cases this
  obtain ⟨i, hi, d, sl', hs⟩ := stepT_pick (P := P) (m := trio a q b w sl) rfl rfl (by simp [due, trio]) hah rfl hne
  have hc := mem_runnable.1 hi
  refine ⟨d, sl', ?_⟩
  rw [trio_at] at hs
  match i, hc, hs with
  | 0, hc, hs => exact .inl ⟨(canRun_iff ha _).1 (by simpa [trio] using hc), hs⟩
  | 1, hc, hs => exact .inr (.inl ⟨(canRun_iff hq _).1 (by simpa [trio] using hc), hs⟩)
  | 2, hc, hs => exact .inr (.inr ⟨(canRun_iff hb _).1 (by simpa [trio] using hc), hs⟩)
  | i + 3, hc, _ => simp [trio] at hc
section
variable {P : Program} {a a' a₂ q q' b b' b₂ : Goroutine} {w w' w₁ : World} {sl : Option (Nat × Nat)} {es : Array Event} {c s r : Nat} {z z' v : Value} {tm ok : Bool}
theorem runT_trio0 (h : stepG P true a w = .go a' w' es) :
    runT P (trio a q b w sl) 0 = (.next (trio a' (Conc.woken P a a' w' q) (Conc.woken P a a' w' b) w' sl), MemOp.ofEvents 0 a.frame.fn a.frame.place es) := by
  simp only [runT, trio, Array.swapAt!, Array.swapAt, List.size_toArray, List.length_cons, List.length_nil, Nat.zero_add, Nat.reduceAdd, Nat.zero_lt_succ, dite_true, beq_self_eq_true, List.getElem_toArray, List.getElem_cons_zero, Conc.woken]
  by_cases hw : (mayWake P a && a'.status != .blocked && a'.status != .waiting) = true <;> simp [hw, h, GStep.es]
theorem runT_trio1 (h : stepG P false q w = .go q' w' es) :
    runT P (trio a q b w sl) 1 = (.next (trio (Conc.woken P q q' w' a) q' (Conc.woken P q q' w' b) w' sl), MemOp.ofEvents 1 q.frame.fn q.frame.place es) := by
  simp only [runT, trio, Array.swapAt!, Array.swapAt, List.size_toArray, List.length_cons, List.length_nil, Nat.zero_add, Nat.reduceAdd, Nat.lt_add_one, Nat.reduceLT, dite_true, List.getElem_toArray, List.getElem_cons_succ, List.getElem_cons_zero, show ((1 : Nat) == 0) = false from rfl, Conc.woken]
  by_cases hw : (mayWake P q && q'.status != .blocked && q'.status != .waiting) = true <;> simp [hw, h, GStep.es]
theorem runT_trio2 (h : stepG P false b w = .go b' w' es) :
    runT P (trio a q b w sl) 2 = (.next (trio (Conc.woken P b b' w' a) (Conc.woken P b b' w' q) b' w' sl), MemOp.ofEvents 2 b.frame.fn b.frame.place es) := by
  simp only [runT, trio, Array.swapAt!, Array.swapAt, List.size_toArray, List.length_cons, List.length_nil, Nat.zero_add, Nat.reduceAdd, Nat.lt_add_one, Nat.reduceLT, dite_true, List.getElem_toArray, List.getElem_cons_succ, List.getElem_cons_zero, show ((2 : Nat) == 0) = false from rfl, Conc.woken]
  by_cases hw : (mayWake P b && b'.status != .blocked && b'.status != .waiting) = true <;> simp [hw, h, GStep.es]
theorem runT_trio0_ended {o : Outcome} (h : stepG P true a w = .ended o w' es) :
    runT P (trio a q b w sl) 0 = (.ended o w', MemOp.ofEvents 0 a.frame.fn a.frame.place es) := by
  simp [runT, trio, Array.swapAt!, Array.swapAt, h, GStep.es]
theorem runT_duo_spawn {child : Goroutine} (h : stepG P true a w = .spawn a' child w' es) :
    runT P (duo a q w sl) 0 = (.next (trio a' q child w' sl), (MemOp.ofEvents 0 a.frame.fn a.frame.place es).push { g := 0, fn := a.frame.fn, pos := a.frame.place, act := .go 2 } |>.push { g := 2, fn := child.frame.fn, pos := a.frame.place, act := .start }) := by
  simp [runT, duo, trio, Array.swapAt!, Array.swapAt, h, GStep.es]
theorem runT3_recv_waits (h : stepG P true a w = .comm a₂ #[rcase c z] true (.recv ok) w₁ es) (hc : w₁.heap[c]? = some (.chan 0 #[] false s r tm)) (hq : q.status ≠ .blocked) (hb : b.status ≠ .blocked) :
    runT P (trio a q b w sl) 0 = (.next (trio (parked a₂ #[rcase c z] (.recv ok)) q b w₁ sl), MemOp.ofEvents 0 a.frame.fn a.frame.place es) := by
  have hp : partners #[{ (default : Goroutine) with status := .finished }, q, b] c true = [] := by
    cases hs : b.status <;> cases hs' : q.status <;> simp_all [partners]
  cases ok <;> simp [runT, trio, Array.swapAt!, Array.swapAt, h, GStep.es, communicate, ways, rcase, hc, hp, waitingAt, timerAhead, parked]
theorem runT3_recv_closed (h : stepG P true a w = .comm a₂ #[rcase c z] true (.recv ok) w₁ es) (hc : w₁.heap[c]? = some (.chan 0 #[] true s r tm)) (hq : q.status ≠ .blocked) (hb : b.status ≠ .blocked) :
    runT P (trio a q b w sl) 0 = (.next (trio (Conc.served a₂ (recvd ok z false)) q b w₁ sl),
      MemOp.ofEvents 0 a.frame.fn a.frame.place es ++ #[{ g := 0, fn := a₂.frame.fn, pos := a₂.frame.place, act := .recvClosed c }]) := by
  have hp : partners #[{ (default : Goroutine) with status := .finished }, q, b] c true = [] := by
    cases hs : b.status <;> cases hs' : q.status <;> simp_all [partners]
  cases ok <;> simp [runT, trio, Array.swapAt!, Array.swapAt, h, GStep.es, communicate, ways, rcase, hc, hp, choose, Sem.run, Question.forced, bind, Sem.bind, pure, Goroutine.finishComm, commResult, Conc.served, recvd]
theorem runT3_send_waits (h : stepG P false b w = .comm b₂ #[scase c v z'] true .send w₁ es) (hc : w₁.heap[c]? = some (.chan 0 #[] false s r tm)) (hq : q.status ≠ .blocked) (ha : a.status ≠ .blocked) :
    runT P (trio a q b w sl) 2 = (.next (trio a q (parked b₂ #[scase c v z'] .send) w₁ sl), MemOp.ofEvents 2 b.frame.fn b.frame.place es) := by
  have hp : partners #[a, q, { (default : Goroutine) with status := .finished }] c false = [] := by
    cases hs : a.status <;> cases hs' : q.status <;> simp_all [partners]
  simp [runT, trio, Array.swapAt!, Array.swapAt, h, GStep.es, communicate, ways, scase, hc, hp, waitingAt, timerAhead, parked]
theorem runT3_recv_meets (h : stepG P true a w = .comm a₂ #[rcase c z] true (.recv ok) w₁ es) (hc : w₁.heap[c]? = some (.chan 0 #[] false s r tm)) (hq : q.status ≠ .blocked) (hb : b = parked b₂ #[scase c v z'] .send) :
    runT P (trio a q b w sl) 0 = (.next (trio (Conc.served a₂ (recvd ok v true)) q (Conc.served b₂ undef) (w₁.passed c s r tm) sl),
      MemOp.ofEvents 0 a.frame.fn a.frame.place es ++ #[{ g := 2, fn := b₂.frame.fn, pos := b₂.frame.place, act := .send c s }, { g := 0, fn := a₂.frame.fn, pos := a₂.frame.place, act := .recv c r 0 },
        { g := 2, fn := b₂.frame.fn, pos := b₂.frame.place, act := .sendDone c s }, { g := 0, fn := a₂.frame.fn, pos := a₂.frame.place, act := .recvDone c r }]) := by
  subst hb
  have hp : partners #[{ (default : Goroutine) with status := .finished }, q, parked b₂ #[scase c v z'] .send] c true = [(2, 0)] := by
    cases hs' : q.status <;> simp_all [partners, parked, scase]
  simp only [parked, scase] at hp
  cases ok <;> simp [runT, trio, Array.swapAt!, Array.swapAt, h, GStep.es, communicate, ways, rcase, hc, hp, choose, Sem.run, Question.forced, bind, Sem.bind, pure, finishPartner, offeredValue, Goroutine.finishComm, commResult, parked, scase, Conc.served, World.passed, recvd]
theorem runT3_send_meets (h : stepG P false b w = .comm b₂ #[scase c v z'] true .send w₁ es) (hc : w₁.heap[c]? = some (.chan 0 #[] false s r tm)) (hq : q.status ≠ .blocked) (ha : a = parked a₂ #[rcase c z] (.recv ok)) :
    runT P (trio a q b w sl) 2 = (.next (trio (Conc.served a₂ (recvd ok v true)) q (Conc.served b₂ undef) (w₁.passed c s r tm) sl),
      MemOp.ofEvents 2 b.frame.fn b.frame.place es ++ #[{ g := 2, fn := b₂.frame.fn, pos := b₂.frame.place, act := .send c s }, { g := 0, fn := a₂.frame.fn, pos := a₂.frame.place, act := .recv c r 0 },
        { g := 2, fn := b₂.frame.fn, pos := b₂.frame.place, act := .sendDone c s }, { g := 0, fn := a₂.frame.fn, pos := a₂.frame.place, act := .recvDone c r }]) := by
  subst ha
  have hp : partners #[parked a₂ #[rcase c z] (.recv ok), q, { (default : Goroutine) with status := .finished }] c false = [(0, 0)] := by
    cases hs' : q.status <;> simp_all [partners, parked, rcase]
  simp only [parked, rcase] at hp
  cases ok <;> simp [runT, trio, Array.swapAt!, Array.swapAt, h, GStep.es, communicate, ways, scase, hc, hp, choose, Sem.run, Question.forced, bind, Sem.bind, pure, finishPartner, Goroutine.finishComm, commResult, parked, rcase, Conc.served, World.passed, recvd]
end
end Go.Proofs.Ytnbgfffcialfkaa

namespace Go.Proofs.Ytnbgfffcialfkaa
open Go Go.Conc
set_option linter.unusedVariables false

/-- What lay ahead of the second go statement. -/
structure Past (own : Loc → Option Nat) (c p0 pc pr N p : Nat) (t : Trace) : Prop where
  go : ∃ op, t[p0]? = some op ∧ op.g = 0 ∧ op.act = .go 1
  start : ∃ op, t[p0 + 1]? = some op ∧ op.g = 1 ∧ op.act = .start
  early : ∀ i op, t[i]? = some op → i < p0 → op.g = 0
  late : ∀ i op, t[i]? = some op → p0 + 1 < i → i < N → Late2 own op
  tail : ∀ i op, t[i]? = some op → N ≤ i → i < p → op.g = 0
  close : ∃ op, t[pc]? = some op ∧ op.g = 1 ∧ op.act = .close c
  last : ∀ i op, t[i]? = some op → i < p → op.g ≠ 0 → op.g = 1 ∧ i ≤ pc
  recv : ∃ op, t[pr]? = some op ∧ op.g = 0 ∧ op.act = .recvClosed c
  lt : pr < N ∧ p0 + 1 < N ∧ N ≤ p
  sz : p ≤ t.size
theorem Past.of {own : Loc → Option Nat} {c p0 pc pr N : Nat} {t : Trace} (h : FinT own c p0 pc pr N t) (hN : N ≤ t.size) : Past own c p0 pc pr N t.size t :=
  ⟨h.go, h.start, h.early, h.late, fun i op hi hN' _ => h.tail i op hi hN', h.closed.close, fun i op hi _ hne => h.closed.last i op hi hne, h.recv, ⟨h.lt.1, h.lt.2, hN⟩, Nat.le_refl _⟩
theorem Past.append {own : Loc → Option Nat} {c p0 pc pr N p : Nat} {t u : Trace} (h : Past own c p0 pc pr N p t) : Past own c p0 pc pr N p (t ++ u) := by
  obtain ⟨g, hg, hg1, hg2⟩ := h.go
  obtain ⟨s, hs, hs1, hs2⟩ := h.start
  obtain ⟨r, hr, hr1, hr2⟩ := h.recv
  obtain ⟨k, hk, hk1, hk2⟩ := h.close
  have old : ∀ {k : Nat} {op : MemOp}, t[k]? = some op → (t ++ u)[k]? = some op := fun h => by rw [getElem?_append_old (lt_size_of_getElem? h)]; exact h
  have hsz := h.sz
  have hlt := h.lt
  have hp0 := lt_size_of_getElem? hg
  refine ⟨⟨g, old hg, hg1, hg2⟩, ⟨s, old hs, hs1, hs2⟩, fun i op hi hlt => ?_, fun i op hi hlt hN' => ?_, fun i op hi hN' hp => ?_, ⟨k, old hk, hk1, hk2⟩, fun i op hi hp hne => ?_, ⟨r, old hr, hr1, hr2⟩, h.lt, by rw [Array.size_append]; omega⟩
  · rw [getElem?_append_old (by omega)] at hi; exact h.early i op hi hlt
  · rw [getElem?_append_old (by omega)] at hi; exact h.late i op hi hlt hN'
  · rw [getElem?_append_old (by omega)] at hi; exact h.tail i op hi hN' hp
  · rw [getElem?_append_old (by omega)] at hi; exact h.last i op hi hp hne
theorem Past.heard {own : Loc → Option Nat} {c p0 pc pr N p : Nat} {t : Trace} (h : Past own c p0 pc pr N p t) (hw : Wordless t) {i : Nat} {op : MemOp} {x : Touch} (hi : t[i]? = some op) (hx : op.act.touch? = some x) (hp : i < p) (hne : op.g ≠ 0) : HappensBefore t i pr := by
  obtain ⟨k, hk, hk1, hk2⟩ := h.close
  obtain ⟨r, hr, hr1, hr2⟩ := h.recv
  obtain ⟨g1, hle⟩ := h.last i op hi hp hne
  have hne' : i ≠ pc := by rintro rfl; rw [hk] at hi; cases hi; simp [hk2, MemAct.touch?] at hx
  have e1 : HappensBefore t i pc := hb_po (by omega) hi hk (by rw [g1, hk1])
  have e2 : HappensBefore t pc pr := .single (.inr ⟨.closed (c := c) (by simp [Trace.act?, hk, hk2]) (by simp [Trace.act?, hr, hr2]), hw.heard hk, hw.heard hr⟩)
  exact e1.trans e2
theorem Past.hb {own : Loc → Option Nat} {c p0 pc pr N p : Nat} {t : Trace} (h : Past own c p0 pc pr N p t) (hw : Wordless t) {i : Nat} {op g : MemOp} {x : Touch} (hi : t[i]? = some op) (hx : op.act.touch? = some x) (hp : i < p) (hg : t[p]? = some g) (hg0 : g.g = 0) : HappensBefore t i p := by
  by_cases gi : op.g = 0
  · exact hb_po hp hi hg (by rw [gi, hg0])
  · obtain ⟨r, hr, hr1, hr2⟩ := h.recv
    exact (h.heard hw hi hx hp gi).trans (hb_po (by have := h.lt; omega) hr hg (by rw [hr1, hg0]))
theorem Past.order {own : Loc → Option Nat} {c p0 pc pr N p : Nat} {t : Trace} (h : Past own c p0 pc pr N p t) (hw : Wordless t) {i j : Nat} {oi oj : MemOp} {x y : Touch} (hij : i < j) (hj : j < p) (hoi : t[i]? = some oi) (hoj : t[j]? = some oj) (hxi : oi.act.touch? = some x) (hyj : oj.act.touch? = some y) (hloc : x.loc = y.loc) (hwr : x.write = true ∨ y.write = true) : HappensBefore t i j := by
  obtain ⟨g, hg, hg1, hg2⟩ := h.go
  obtain ⟨s, hs, hs1, hs2⟩ := h.start
  have nip : i ≠ p0 := by rintro rfl; rw [hg] at hoi; cases hoi; simp [hg2, MemAct.touch?] at hxi
  have nip1 : i ≠ p0 + 1 := by rintro rfl; rw [hs] at hoi; cases hoi; simp [hs2, MemAct.touch?] at hxi
  have njp : j ≠ p0 := by rintro rfl; rw [hg] at hoj; cases hoj; simp [hg2, MemAct.touch?] at hyj
  have njp1 : j ≠ p0 + 1 := by rintro rfl; rw [hs] at hoj; cases hoj; simp [hs2, MemAct.touch?] at hyj
  by_cases hjN : N ≤ j
  · have gj := h.tail j oj hoj hjN hj
    by_cases gi : oi.g = 0
    · exact hb_po hij hoi hoj (by rw [gi, gj])
    · obtain ⟨r, hr, hr1, hr2⟩ := h.recv
      exact (h.heard hw hoi hxi (by omega) gi).trans (hb_po (by have := h.lt.1; omega) hr hoj (by rw [hr1, gj]))
  by_cases hi : i < p0
  · have gi := h.early i oi hoi hi
    by_cases hj : j < p0
    · exact hb_po hij hoi hoj (by rw [gi, h.early j oj hoj hj])
    · rcases (h.late j oj hoj (by omega) (by omega)).1 with gj | gj
      · exact hb_po hij hoi hoj (by rw [gi, gj])
      · have e1 : HappensBefore t i p0 := hb_po hi hoi hg (by rw [gi, hg1])
        have e2 : HappensBefore t p0 (p0 + 1) := .single (.inr ⟨.spawn (child := 1) (by simp [Trace.act?, hg, hg2]) (by simp [Trace.act?, hs, hs2]) (by simp [Trace.g?, hs, hs1]), hw.heard hg, hw.heard hs⟩)
        have e3 : HappensBefore t (p0 + 1) j := hb_po (by omega) hs hoj (by rw [hs1, gj])
        exact (e1.trans e2).trans e3
  · have li := h.late i oi hoi (by omega) (by omega)
    have lj := h.late j oj hoj (by omega) (by omega)
    rcases li.2 x hxi with ⟨wi, ni⟩ | ni <;> rcases lj.2 y hyj with ⟨wj, nj⟩ | nj
    · exfalso
      rcases hwr with hw | hw
      · rw [wi] at hw; cases hw
      · rw [wj] at hw; cases hw
    · rw [hloc] at ni; rw [ni] at nj; cases nj
    · rw [hloc] at ni; rw [ni] at nj; cases nj
    · rw [hloc] at ni
      rw [ni] at nj
      injection nj with nj
      exact hb_po hij hoi hoj nj
/-! ### behind the second start -/
def Late3 (own : Loc → Option Nat) (op : MemOp) : Prop :=
  (op.g = 0 ∨ op.g = 2) ∧ ∀ x, op.act.touch? = some x → (x.write = false ∧ own x.loc = none) ∨ own x.loc = some op.g
structure Forked3 (own : Loc → Option Nat) (t : Trace) (p : Nat) : Prop where
  past : ∃ own1 c1 p0 pc pr N, Past own1 c1 p0 pc pr N p t
  wordless : Wordless t
  go : ∃ op, t[p]? = some op ∧ op.g = 0 ∧ op.act = .go 2
  start : ∃ op, t[p + 1]? = some op ∧ op.g = 2 ∧ op.act = .start
  late : ∀ i op, t[i]? = some op → p + 1 < i → Late3 own op
theorem Forked3.append {own : Loc → Option Nat} {t u : Trace} {p : Nat} (h : Forked3 own t p) (hw : Wordless u) (hu : ∀ op ∈ u, Late3 own op) : Forked3 own (t ++ u) p := by
  obtain ⟨g, hg, hg1, hg2⟩ := h.go
  obtain ⟨s, hs, hs1, hs2⟩ := h.start
  obtain ⟨o1, c1, q0, qc, qr, M, hpast⟩ := h.past
  have hp1 := lt_size_of_getElem? hs
  refine ⟨⟨o1, c1, q0, qc, qr, M, hpast.append⟩, h.wordless.append hw, ⟨g, by rw [getElem?_append_old (by omega)]; exact hg, hg1, hg2⟩, ⟨s, by rw [getElem?_append_old hp1]; exact hs, hs1, hs2⟩, fun i op hi hlt => ?_⟩
  rcases getElem?_append_cases hi with ⟨_, hi'⟩ | ⟨_, hm⟩
  · exact h.late i op hi' hlt
  · exact hu op hm
theorem Forked3.anew {own own' : Loc → Option Nat} {t : Trace} {p : Nat} (h : Forked3 own t p) (he : ∀ i op x, t[i]? = some op → p + 1 < i → op.act.touch? = some x → own' x.loc = own x.loc) : Forked3 own' t p :=
  ⟨h.past, h.wordless, h.go, h.start, fun i op hi hlt => ⟨(h.late i op hi hlt).1, fun x hx => by rw [he i op x hi hlt hx]; exact (h.late i op hi hlt).2 x hx⟩⟩
theorem Forked3.two {own : Loc → Option Nat} {t : Trace} {p : Nat} (hT : Forked3 own t p) {i : Nat} {op : MemOp} (h : t[i]? = some op) (hi : p ≤ i) : op.g = 0 ∨ op.g = 2 := by
  obtain ⟨g, hg, hg1, _⟩ := hT.go
  obtain ⟨s, hs, hs1, _⟩ := hT.start
  by_cases h0 : i = p
  · subst h0; rw [hg] at h; cases h; exact .inl hg1
  · by_cases h1 : i = p + 1
    · subst h1; rw [hs] at h; cases h; exact .inr hs1
    · exact (hT.late i op h (by omega)).1
structure Closed3 (c p : Nat) (t : Trace) (pc : Nat) : Prop where
  close : ∃ op, t[pc]? = some op ∧ op.g = 2 ∧ op.act = .close c
  last : ∀ i op, t[i]? = some op → p ≤ i → op.g ≠ 0 → op.g = 2 ∧ i ≤ pc
theorem Closed3.append {c p : Nat} {t u : Trace} {pc : Nat} (h : Closed3 c p t pc) (hu : ∀ op ∈ u, op.g = 0) : Closed3 c p (t ++ u) pc := by
  obtain ⟨k, hk, hk1, hk2⟩ := h.close
  refine ⟨⟨k, by rw [getElem?_append_old (lt_size_of_getElem? hk)]; exact hk, hk1, hk2⟩, fun i op hi hp hne => ?_⟩
  rcases getElem?_append_cases hi with ⟨_, hi'⟩ | ⟨_, hm⟩
  · exact h.last i op hi' hp hne
  · exact absurd (hu op hm) hne
theorem Closed3.ofPush {own : Loc → Option Nat} {c p : Nat} {u : Trace} {y : MemOp} (hT : Forked3 own (u.push y) p) (h1 : y.g = 2) (h2 : y.act = .close c) : Closed3 c p (u.push y) u.size := by
  refine ⟨⟨y, by simp, h1, h2⟩, fun i op hi hp hne => ?_⟩
  have hlt := lt_size_of_getElem? hi
  simp only [Array.size_push] at hlt
  exact ⟨(hT.two hi hp).resolve_left hne, by omega⟩
/-- The trace behind the second receive from a closed channel. -/
structure FinT3 (own : Loc → Option Nat) (c p pc pr N : Nat) (t : Trace) : Prop where
  past : ∃ own1 c1 p0 pc1 pr1 N1, Past own1 c1 p0 pc1 pr1 N1 p t
  wordless : Wordless t
  go : ∃ op, t[p]? = some op ∧ op.g = 0 ∧ op.act = .go 2
  start : ∃ op, t[p + 1]? = some op ∧ op.g = 2 ∧ op.act = .start
  late : ∀ i op, t[i]? = some op → p + 1 < i → i < N → Late3 own op
  tail : ∀ i op, t[i]? = some op → N ≤ i → op.g = 0
  closed : Closed3 c p t pc
  recv : ∃ op, t[pr]? = some op ∧ op.g = 0 ∧ op.act = .recvClosed c
  lt : pr < N ∧ p + 1 < N
theorem FinT3.of {own : Loc → Option Nat} {c p pc pr : Nat} {t : Trace} (hf : Forked3 own t p) (hc : Closed3 c p t pc) (hr : ∃ op, t[pr]? = some op ∧ op.g = 0 ∧ op.act = .recvClosed c) : FinT3 own c p pc pr t.size t :=
  ⟨hf.past, hf.wordless, hf.go, hf.start, fun i op h1 h2 _ => hf.late i op h1 h2, fun i op h1 h2 => absurd (lt_size_of_getElem? h1) (by omega), hc, hr, by obtain ⟨op, h1, _⟩ := hr; exact lt_size_of_getElem? h1, by obtain ⟨op, h1, _⟩ := hf.start; exact lt_size_of_getElem? h1⟩
theorem FinT3.add {own : Loc → Option Nat} {c p pc pr N : Nat} {t u : Trace} (h : FinT3 own c p pc pr N t) (hN : N ≤ t.size) (hw : Wordless u) (h0 : ∀ op ∈ u, op.g = 0) : FinT3 own c p pc pr N (t ++ u) := by
  obtain ⟨g, hg, hg1, hg2⟩ := h.go
  obtain ⟨s, hs, hs1, hs2⟩ := h.start
  obtain ⟨r, hr, hr1, hr2⟩ := h.recv
  obtain ⟨o1, c1, q0, qc, qr, M, hpast⟩ := h.past
  have old : ∀ {k : Nat} {op : MemOp}, t[k]? = some op → (t ++ u)[k]? = some op := fun h => by rw [getElem?_append_old (lt_size_of_getElem? h)]; exact h
  refine ⟨⟨o1, c1, q0, qc, qr, M, hpast.append⟩, h.wordless.append hw, ⟨g, old hg, hg1, hg2⟩, ⟨s, old hs, hs1, hs2⟩, fun i op hi hlt hN' => ?_, fun i op hi hN' => ?_, h.closed.append h0, ⟨r, old hr, hr1, hr2⟩, h.lt⟩
  · rw [getElem?_append_old (by omega)] at hi; exact h.late i op hi hlt hN'
  · rcases getElem?_append_cases hi with ⟨_, hi'⟩ | ⟨_, hm⟩
    · exact h.tail i op hi' hN'
    · exact h0 op hm
theorem FinT3.heard {own : Loc → Option Nat} {c p pc pr N : Nat} {t : Trace} (h : FinT3 own c p pc pr N t) {i : Nat} {op : MemOp} {x : Touch} (hi : t[i]? = some op) (hx : op.act.touch? = some x) (hp : p ≤ i) (hne : op.g ≠ 0) : HappensBefore t i pr := by
  obtain ⟨k, hk, hk1, hk2⟩ := h.closed.close
  obtain ⟨r, hr, hr1, hr2⟩ := h.recv
  obtain ⟨g1, hle⟩ := h.closed.last i op hi hp hne
  have hne' : i ≠ pc := by rintro rfl; rw [hk] at hi; cases hi; simp [hk2, MemAct.touch?] at hx
  have e1 : HappensBefore t i pc := hb_po (by omega) hi hk (by rw [g1, hk1])
  have e2 : HappensBefore t pc pr := .single (.inr ⟨.closed (c := c) (by simp [Trace.act?, hk, hk2]) (by simp [Trace.act?, hr, hr2]), h.wordless.heard hk, h.wordless.heard hr⟩)
  exact e1.trans e2
theorem FinT3.handedOver {own : Loc → Option Nat} {c p pc pr N : Nat} {t : Trace} (h : FinT3 own c p pc pr N t) : t.HandedOver := by
  intro i g hg hne hcount
  obtain ⟨x, hx, _, _⟩ := hcount
  obtain ⟨oi, hoi, hxi⟩ := touch_of hx
  have hgi : oi.g = g := by simpa [Trace.g?, hoi] using hg
  have hne' : oi.g ≠ 0 := by rw [hgi]; exact hne
  by_cases hp : i < p
  · obtain ⟨o1, c1, q0, qc, qr, M, hpast⟩ := h.past
    obtain ⟨r, hr, hr1, hr2⟩ := hpast.recv
    exact ⟨qr, by simp [Trace.g?, hr, hr1], hpast.heard h.wordless hoi hxi hp hne'⟩
  · obtain ⟨r, hr, hr1, hr2⟩ := h.recv
    exact ⟨pr, by simp [Trace.g?, hr, hr1], h.heard hoi hxi (by omega) hne'⟩
theorem FinT3.noRace {own : Loc → Option Nat} {c p pc pr N : Nat} {t : Trace} (h : FinT3 own c p pc pr N t) (said : Bool) : ¬ Race said t := by
  rintro ⟨i, j, hij, ⟨x, y, hx, hy, hloc, _, hwr, _⟩, hn, _⟩
  obtain ⟨oi, hoi, hxi⟩ := touch_of hx
  obtain ⟨oj, hoj, hyj⟩ := touch_of hy
  obtain ⟨g, hg, hg1, hg2⟩ := h.go
  obtain ⟨s, hs, hs1, hs2⟩ := h.start
  obtain ⟨o1, c1, q0, qc, qr, M, hpast⟩ := h.past
  have nip : i ≠ p := by rintro rfl; rw [hg] at hoi; cases hoi; simp [hg2, MemAct.touch?] at hxi
  have nip1 : i ≠ p + 1 := by rintro rfl; rw [hs] at hoi; cases hoi; simp [hs2, MemAct.touch?] at hxi
  have njp : j ≠ p := by rintro rfl; rw [hg] at hoj; cases hoj; simp [hg2, MemAct.touch?] at hyj
  have njp1 : j ≠ p + 1 := by rintro rfl; rw [hs] at hoj; cases hoj; simp [hs2, MemAct.touch?] at hyj
  apply hn
  by_cases hj : j < p
  · exact hpast.order h.wordless hij hj hoi hoj hxi hyj hloc hwr
  by_cases hi : i < p
  · have e1 := hpast.hb h.wordless hoi hxi hi hg hg1
    have gj : oj.g = 0 ∨ oj.g = 2 := by
      by_cases hjN : N ≤ j
      · exact .inl (h.tail j oj hoj hjN)
      · exact (h.late j oj hoj (by omega) (by omega)).1
    rcases gj with gj | gj
    · exact e1.trans (hb_po (by omega) hg hoj (by rw [hg1, gj]))
    · have e2 : HappensBefore t p (p + 1) := .single (.inr ⟨.spawn (child := 2) (by simp [Trace.act?, hg, hg2]) (by simp [Trace.act?, hs, hs2]) (by simp [Trace.g?, hs, hs1]), h.wordless.heard hg, h.wordless.heard hs⟩)
      exact (e1.trans e2).trans (hb_po (by omega) hs hoj (by rw [hs1, gj]))
  by_cases hjN : N ≤ j
  · have gj := h.tail j oj hoj hjN
    by_cases gi : oi.g = 0
    · exact hb_po hij hoi hoj (by rw [gi, gj])
    · obtain ⟨r, hr, hr1, hr2⟩ := h.recv
      exact (h.heard hoi hxi (by omega) gi).trans (hb_po (by have := h.lt.1; omega) hr hoj (by rw [hr1, gj]))
  have li := h.late i oi hoi (by omega) (by omega)
  have lj := h.late j oj hoj (by omega) (by omega)
  rcases li.2 x hxi with ⟨wi, ni⟩ | ni <;> rcases lj.2 y hyj with ⟨wj, nj⟩ | nj
  · exfalso
    rcases hwr with hw | hw
    · rw [wi] at hw; cases hw
    · rw [wj] at hw; cases hw
  · rw [hloc] at ni; rw [ni] at nj; cases nj
  · rw [hloc] at ni; rw [ni] at nj; cases nj
  · rw [hloc] at ni
    rw [ni] at nj
    injection nj with nj
    exact hb_po hij hoi hoj nj
/-! ### whose each place is -/
/-- Whom a place belongs to. -/
noncomputable def ownOf3 (A B : Nat → Prop) (l : Loc) : Option Nat := by
  classical
  exact match blkOf l with
    | some k => if A k then some 0 else if B k then some 2 else none
    | none => none
theorem late_a3 {Low : Nat} {A B : Nat → Prop} {fn : FuncId} {pos : String} {es : Array Event} (hl : ∀ k, A k ∨ B k → Low ≤ k) (h : ∀ e ∈ es, EvO Low A e) :
    Wordless (MemOp.ofEvents 0 fn pos es) ∧ ∀ op ∈ MemOp.ofEvents 0 fn pos es, Late3 (ownOf3 A B) op ∧ op.g = 0 := by
  rw [ofEvents_eq]
  refine ⟨fun op hop => ?_, fun op hop => ?_⟩ <;> obtain ⟨e, he, rfl⟩ := Array.mem_map.1 hop
  · exact ofEvent_noMark (h e he).1
  · refine ⟨⟨.inl rfl, fun x hx => ?_⟩, rfl⟩
    obtain ⟨h1, h2⟩ := ofEvent_touch (h e he).1 hx
    obtain ⟨k, hk, hko⟩ := (h e he).blk hx
    rw [h1, h2]
    unfold ownOf3
    rw [hk]
    rcases hko with ⟨hw, hlow⟩ | ho
    · refine .inl ⟨hw, ?_⟩
      have na : ¬ A k := fun ha => absurd (hl k (.inl ha)) (by omega)
      have nb : ¬ B k := fun hb => absurd (hl k (.inr hb)) (by omega)
      simp [na, nb]
    · exact .inr (by simp [ho])
theorem late_b3 {Low : Nat} {A B : Nat → Prop} {fn : FuncId} {pos : String} {es : Array Event} (hl : ∀ k, A k ∨ B k → Low ≤ k) (hd : ∀ k, B k → ¬ A k) (h : ∀ e ∈ es, EvO Low B e) :
    Wordless (MemOp.ofEvents 2 fn pos es) ∧ ∀ op ∈ MemOp.ofEvents 2 fn pos es, Late3 (ownOf3 A B) op ∧ op.g = 2 := by
  rw [ofEvents_eq]
  refine ⟨fun op hop => ?_, fun op hop => ?_⟩ <;> obtain ⟨e, he, rfl⟩ := Array.mem_map.1 hop
  · exact ofEvent_noMark (h e he).1
  · refine ⟨⟨.inr rfl, fun x hx => ?_⟩, rfl⟩
    obtain ⟨h1, h2⟩ := ofEvent_touch (h e he).1 hx
    obtain ⟨k, hk, hko⟩ := (h e he).blk hx
    rw [h1, h2]
    unfold ownOf3
    rw [hk]
    rcases hko with ⟨hw, hlow⟩ | ho
    · refine .inl ⟨hw, ?_⟩
      have na : ¬ A k := fun ha => absurd (hl k (.inl ha)) (by omega)
      have nb : ¬ B k := fun hb => absurd (hl k (.inr hb)) (by omega)
      simp [na, nb]
    · exact .inr (by simp [ho, hd k ho])
theorem ownOf3_same {A A' B B' : Nat → Prop} {l : Loc} (h : ∀ k, blkOf l = some k → (A' k ↔ A k) ∧ (B' k ↔ B k)) : ownOf3 A' B' l = ownOf3 A B l := by
  unfold ownOf3
  cases hk : blkOf l with
  | none => rfl
  | some k =>
    obtain ⟨h1, h2⟩ := h k hk
    by_cases ha : A k <;> by_cases hb : B k <;> simp [ha, hb, h1, h2]
/-- What is held of the trace: whose each place is; what was touched behind the start lies below N. -/
structure Tr3 (A B : Nat → Prop) (N : Nat) (t : Trace) (p : Nat) : Prop where
  f : Forked3 (ownOf3 A B) t p
  tch : ∀ i op x k, t[i]? = some op → p + 1 < i → op.act.touch? = some x → blkOf x.loc = some k → k < N
theorem Tr3.grow {A A' B B' : Nat → Prop} {N N' : Nat} {t : Trace} {p : Nat} (h : Tr3 A B N t p) (hN : N ≤ N') (ha : ∀ k, k < N → (A' k ↔ A k)) (hb : ∀ k, k < N → (B' k ↔ B k)) : Tr3 A' B' N' t p :=
  ⟨h.f.anew fun i op x hi hlt hx => ownOf3_same fun k hk => ⟨ha k (h.tch i op x k hi hlt hx hk), hb k (h.tch i op x k hi hlt hx hk)⟩, fun i op x k hi hlt hx hk => Nat.lt_of_lt_of_le (h.tch i op x k hi hlt hx hk) hN⟩
theorem Tr3.append {A B : Nat → Prop} {N : Nat} {t u : Trace} {p : Nat} (h : Tr3 A B N t p) (hw : Wordless u) (hu : ∀ op ∈ u, Late3 (ownOf3 A B) op) (ht : ∀ op ∈ u, ∀ x k, op.act.touch? = some x → blkOf x.loc = some k → k < N) : Tr3 A B N (t ++ u) p :=
  ⟨h.f.append hw hu, fun i op x k hi hlt hx hk => by
    rcases getElem?_append_cases hi with ⟨_, hi'⟩ | ⟨_, hm⟩
    · exact h.tch i op x k hi' hlt hx hk
    · exact ht op hm x k hx hk⟩
theorem Tr3.add0 {Low N : Nat} {A B : Nat → Prop} {t : Trace} {p : Nat} {fn : FuncId} {pos : String} {es : Array Event} (h : Tr3 A B N t p) (hl : ∀ k, A k ∨ B k → Low ≤ k) (ho : ∀ k, A k → k < N) (hL : Low ≤ N) (he : ∀ e ∈ es, EvO Low A e) : Tr3 A B N (t ++ MemOp.ofEvents 0 fn pos es) p :=
  h.append (late_a3 hl he).1 (fun op hop => ((late_a3 hl he).2 op hop).1) (touch_lt hL ho he)
theorem Tr3.add1 {Low N : Nat} {A B : Nat → Prop} {t : Trace} {p : Nat} {fn : FuncId} {pos : String} {es : Array Event} (h : Tr3 A B N t p) (hl : ∀ k, A k ∨ B k → Low ≤ k) (hd : ∀ k, B k → ¬ A k) (ho : ∀ k, B k → k < N) (hL : Low ≤ N) (he : ∀ e ∈ es, EvO Low B e) : Tr3 A B N (t ++ MemOp.ofEvents 2 fn pos es) p :=
  h.append (late_b3 hl hd he).1 (fun op hop => ((late_b3 hl hd he).2 op hop).1) (touch_lt hL ho he)
theorem Tr3.addComm {A B : Nat → Prop} {N : Nat} {t : Trace} {p : Nat} (h : Tr3 A B N t p) (ops : Array MemOp) (ho : ∀ op ∈ ops, (op.g = 0 ∨ op.g = 2) ∧ op.act.touch? = none ∧ ∀ m, op.act = .mark m → Neutral m) : Tr3 A B N (t ++ ops) p :=
  h.append (fun op hop => (ho op hop).2.2) (fun op hop => ⟨(ho op hop).1, fun x hx => by rw [(ho op hop).2.1] at hx; cases hx⟩) (fun op hop x k hx _ => by rw [(ho op hop).2.1] at hx; cases hx)
theorem Tr3.a {Low c : Nat} {A A' B : Nat → Prop} {w w' : World} {es : Array Event} {t : Trace} {p : Nat} {fn : FuncId} {pos : String} (h : Tr3 A B w.heap.size t p) (hw : Tw Low c A B w) (d : DelO Low (some c) A A' w w' es) : Tr3 A' B w'.heap.size (t ++ MemOp.ofEvents 0 fn pos es) p := by
  have hw' := hw.a d
  refine (h.grow (A' := A') (B' := B) d.size (fun k hk => ⟨fun ha => ?_, d.keep k⟩) (fun k _ => Iff.rfl)).add0 hw'.low (fun k ha => hw'.lt k (.inl ha)) hw'.lows d.evs
  rcases d.new k ha with ha | ⟨ha, _⟩
  · exact ha
  · omega
theorem Tr3.b {Low c : Nat} {A B B' : Nat → Prop} {w w' : World} {es : Array Event} {t : Trace} {p : Nat} {fn : FuncId} {pos : String} (h : Tr3 A B w.heap.size t p) (hw : Tw Low c A B w) (d : DelO Low (some c) B B' w w' es) : Tr3 A B' w'.heap.size (t ++ MemOp.ofEvents 2 fn pos es) p := by
  have hw' := hw.b d
  refine (h.grow (A' := A) (B' := B') d.size (fun k _ => Iff.rfl) (fun k hk => ⟨fun hb => ?_, d.keep k⟩)).add1 hw'.low hw'.dis (fun k hb => hw'.lt k (.inr hb)) hw'.lows d.evs
  rcases d.new k hb with hb | ⟨hb, _⟩
  · exact hb
  · omega

end Go.Proofs.Ytnbgfffcialfkaa

namespace Go.Proofs.Ytnbgfffcialfkaa
open Go Go.Conc
set_option linter.unusedVariables false

theorem good_fin3 {P : Program} {Post : Value → World → Prop} {own : Loc → Option Nat} {c p pc pr N k kq : Nat} {a q b : Goroutine} {w w' : World} {sl : Option (Nat × Nat)} {t : Trace} {v : Value} (hp : Post v w') (hT : FinT3 own c p pc pr N t) (hQ : QuitsIn P kq q) (hB : QuitsIn P k b) :
    Good P Post (trio a q b w sl) (.done v) w' t := by
  refine ⟨v, rfl, hp, hT.noRace, hT.handedOver, ⟨?_, rfl⟩, ?_⟩
  · intro g hg
    have : g = q ∨ g = b := by simpa [trio] using hg
    rcases this with rfl | rfl
    · exact ⟨kq, hQ.leaves⟩
    · exact ⟨k, hB.leaves⟩
  · intro i g hg hne
    match i, hg, hne with
    | 0, _, hne => exact absurd rfl hne
    | 1, hg, _ =>
      have : g = q := by simpa [trio] using hg.symm
      rw [this, hT.wordless.deaf]
      exact ⟨kq, hQ.hears _ 0⟩
    | 2, hg, _ =>
      have : g = b := by simpa [trio] using hg.symm
      rw [this, hT.wordless.deaf]
      exact ⟨k, hB.hears _ 0⟩
    | i + 3, hg, _ => simp [trio] at hg
theorem quits_awake {P : Program} {k : Nat} {b : Goroutine} (h : QuitsIn P k b) : awake b := awake_of (h.status.elim .inl fun h => .inr (.inr h))
theorem quits_open {P : Program} {k : Nat} {b : Goroutine} (h : QuitsIn P k b) : b.status ≠ .blocked := by rcases h.status with h | h <;> rw [h] <;> simp
/-- Behind the second receive from a closed channel. -/
theorem ends_fin3 {P : Program} {Post : Value → World → Prop} {own : Loc → Option Nat} {c p pc pr N : Nat} {O : OwnP} {a : Goroutine} {w : World} (hA : FinI P Post O a w) :
    ∀ (n k kq : Nat) (d : Nat) (q b : Goroutine) (sl : Option (Nat × Nat)) (t : Trace), kq + k = n → QuitsIn P kq q → QuitsIn P k b → FinT3 own c p pc pr N t → N ≤ t.size → EndsG P Post (trio a q b (w.at d) sl) t := by
  unfold FinI at hA
  have hra0 := hA.running termsF (fun _ _ _ h => h.1)
  induction hA with
  | stop h =>
    rename_i O a w
    intro n
    induction n using Nat.strongRecOn with
    | _ n ih =>
      intro k kq d q b sl t hn hQ hB hT hN
      obtain ⟨d', sl', hmv⟩ := trio_pick (P := P) (w := w.at d) (sl := sl) (awake_of (.inl hra0)) (quits_awake hQ) (quits_awake hB) (.inl hra0)
      rcases hmv with ⟨_, hst⟩ | ⟨hrq, hst⟩ | ⟨hrb, hst⟩
      · obtain ⟨_, v, es, hend, hes, hpost⟩ := h ((w.at d).at d') ⟨d', rfl⟩
        have hT2 := hT.add hN (early0 (fn := a.frame.fn) (pos := a.frame.place) hes).1 (early0 hes).2
        exact .done (hst.trans (runT_trio0_ended hend)) (good_fin3 hpost hT2 hQ hB)
      · obtain ⟨k', q', e, hw, hq⟩ := quits_step hQ hrq
        refine .next (hst.trans (runT_trio1 (hw _))) ?_
        rw [woken_running hra0, woken_quits hB, ofEvents_none, Array.append_empty]
        exact ih (k' + k) (by omega) k k' d' q' b sl' t rfl hq hB hT hN
      · obtain ⟨k', b', e, hw, hq⟩ := quits_step hB hrb
        refine .next (hst.trans (runT_trio2 (hw _))) ?_
        rw [woken_running hra0, woken_quits hQ, ofEvents_none, Array.append_empty]
        exact ih (kq + k') (by omega) k' kq d' q b' sl' t rfl hQ hq hT hN
  | step hs g' w' es O' h1 h2 h3 ihA =>
    rename_i O a w
    intro n
    induction n using Nat.strongRecOn with
    | _ n ih =>
      intro k kq d q b sl t hn hQ hB hT hN
      obtain ⟨d', sl', hmv⟩ := trio_pick (P := P) (w := w.at d) (sl := sl) (awake_of (.inl hra0)) (quits_awake hQ) (quits_awake hB) (.inl hra0)
      rcases hmv with ⟨_, hst⟩ | ⟨hrq, hst⟩ | ⟨hrb, hst⟩
      · have r : RelF O w ((w.at d).at d') := ⟨d', rfl⟩
        refine .next (hst.trans (runT_trio0 (h1 _ r))) ?_
        rw [woken_quits hQ, woken_quits hB]
        exact ihA _ r ((h3 _ r).running termsF (fun _ _ _ h => h.1)) n k kq (w' _ r).drawn q b sl' _ hn hQ hB (hT.add hN (early0 (h2 _ r)).1 (early0 (h2 _ r)).2) (by rw [Array.size_append]; omega)
      · obtain ⟨k', q', e, hw, hq⟩ := quits_step hQ hrq
        refine .next (hst.trans (runT_trio1 (hw _))) ?_
        rw [woken_running hra0, woken_quits hB, ofEvents_none, Array.append_empty]
        exact ih (k' + k) (by omega) k k' d' q' b sl' t rfl hq hB hT hN
      · obtain ⟨k', b', e, hw, hq⟩ := quits_step hB hrb
        refine .next (hst.trans (runT_trio2 (hw _))) ?_
        rw [woken_running hra0, woken_quits hQ, ofEvents_none, Array.append_empty]
        exact ih (kq + k') (by omega) k' kq d' q b' sl' t rfl hQ hq hT hN
section
variable {P : Program} {Low c : Nat} {z : Value} {Post : Value → World → Prop}
theorem ends_shut3 {A : OwnP} {a : Goroutine} {w : World} (hA : GoesI P true (RelO Low (some c)) (DelO Low (some c)) (StopAI P Low c z (FinI P Post) []) A a w) :
    ∀ (n k kq : Nat) (w₁ : World) (B : OwnP) (q b : Goroutine) (sl : Option (Nat × Nat)) (t : Trace) (s r : Nat) (tm : Bool) (p pc : Nat), kq + k = n → RelO Low (some c) A w w₁ → Tw Low c A B w₁ → w₁.heap[c]? = some (.chan 0 #[] true s r tm) →
      QuitsIn P kq q → QuitsIn P k b → Tr3 A B w₁.heap.size t p → Closed3 c p t pc → EndsG P Post (trio a q b w₁ sl) t := by
  have hra := hA.running (termsO Low (some c)) (fun _ _ _ h => StopAI.running h)
  induction hA with
  | stop hstop =>
    rename_i A a w
    intro n
    induction n using Nat.strongRecOn with
    | _ n ih =>
      intro k kq w₁ B q b sl t s r tm p pc hn hR hW hc hQ hB hT hC
      obtain ⟨d, sl', hmv⟩ := trio_pick (P := P) (w := w₁) (sl := sl) (awake_of (.inl hra)) (quits_awake hQ) (quits_awake hB) (.inl hra)
      have rA : RelO Low (some c) A w (w₁.at d) := hR.trans (RelO.at _ _ _ _ _)
      have hW1 : Tw Low c A B (w₁.at d) := hW.same rfl
      have hT1 : Tr3 A B (w₁.at d).heap.size t p := hT
      have hc1 : (w₁.at d).heap[c]? = some (.chan 0 #[] true s r tm) := hc
      rcases hmv with ⟨_, hst⟩ | ⟨hrq, hst⟩ | ⟨hrb, hst⟩
      · have hat := hstop _ rA
        obtain ⟨es, hcomm, hes⟩ := hat.comm
        have hT2 := hT1.add0 (fn := a.frame.fn) (pos := a.frame.place) hW1.low (fun k ha => hW1.lt k (.inl ha)) hW1.lows hes
        refine .next (hst.trans (runT3_recv_closed hcomm hc1 (quits_open hQ) (quits_open hB))) ?_
        rw [← Array.append_assoc]
        have hT3 := (hT2.addComm #[{ g := 0, fn := (core a).frame.fn, pos := (core a).frame.place, act := .recvClosed c }] (by simp [MemAct.touch?])).f
        exact ends_fin3 (hat.nil _ (RelO.refl _ _ _ _)) _ _ _ d q b sl' _ rfl hQ hB (FinT3.of (pr := (t ++ MemOp.ofEvents 0 a.frame.fn a.frame.place es).size) hT3 ((hC.append fun op hop => ((late_a3 hW1.low hes).2 op hop).2).append (by simp)) ⟨{ g := 0, fn := (core a).frame.fn, pos := (core a).frame.place, act := .recvClosed c }, by rw [Array.getElem?_append]; simp, rfl, rfl⟩) (Nat.le_refl _)
      · obtain ⟨k', q', e, hw, hq⟩ := quits_step hQ hrq
        refine .next (hst.trans (runT_trio1 (hw _))) ?_
        rw [woken_running hra, woken_quits hB, ofEvents_none, Array.append_empty]
        exact ih (k' + k) (by omega) k k' (w₁.at d) B q' b sl' t s r tm p pc rfl rA hW1 hc1 hq hB hT1 hC
      · obtain ⟨k', b', e, hw, hq⟩ := quits_step hB hrb
        refine .next (hst.trans (runT_trio2 (hw _))) ?_
        rw [woken_running hra, woken_quits hQ, ofEvents_none, Array.append_empty]
        exact ih (kq + k') (by omega) k' kq (w₁.at d) B q b' sl' t s r tm p pc rfl rA hW1 hc1 hQ hq hT1 hC
  | step hs g' w' es O' h1 h2 h3 ihA =>
    rename_i A a w
    intro n
    induction n using Nat.strongRecOn with
    | _ n ih =>
      intro k kq w₁ B q b sl t s r tm p pc hn hR hW hc hQ hB hT hC
      obtain ⟨d, sl', hmv⟩ := trio_pick (P := P) (w := w₁) (sl := sl) (awake_of (.inl hra)) (quits_awake hQ) (quits_awake hB) (.inl hra)
      have rA : RelO Low (some c) A w (w₁.at d) := hR.trans (RelO.at _ _ _ _ _)
      have hW1 : Tw Low c A B (w₁.at d) := hW.same rfl
      have hT1 : Tr3 A B (w₁.at d).heap.size t p := hT
      have hc1 : (w₁.at d).heap[c]? = some (.chan 0 #[] true s r tm) := hc
      rcases hmv with ⟨_, hst⟩ | ⟨hrq, hst⟩ | ⟨hrb, hst⟩
      · refine .next (hst.trans (runT_trio0 (h1 _ rA))) ?_
        rw [woken_quits hQ, woken_quits hB]
        exact ihA _ rA ((h3 _ rA).running (termsO Low (some c)) (fun _ _ _ h => StopAI.running h)) n k kq _ B q b sl' _ s r tm p pc hn (RelO.refl _ _ _ _) (hW1.a (h2 _ rA)) ((hW1.chanA (h2 _ rA)).trans hc1) hQ hB (hT1.a hW1 (h2 _ rA)) (hC.append fun op hop => ((late_a3 (hW1.a (h2 _ rA)).low (h2 _ rA).evs).2 op hop).2)
      · obtain ⟨k', q', e, hw, hq⟩ := quits_step hQ hrq
        refine .next (hst.trans (runT_trio1 (hw _))) ?_
        rw [woken_running hra, woken_quits hB, ofEvents_none, Array.append_empty]
        exact ih (k' + k) (by omega) k k' (w₁.at d) B q' b sl' t s r tm p pc rfl rA hW1 hc1 hq hB hT1 hC
      · obtain ⟨k', b', e, hw, hq⟩ := quits_step hB hrb
        refine .next (hst.trans (runT_trio2 (hw _))) ?_
        rw [woken_running hra, woken_quits hQ, ofEvents_none, Array.append_empty]
        exact ih (kq + k') (by omega) k' kq (w₁.at d) B q b' sl' t s r tm p pc rfl rA hW1 hc1 hQ hq hT1 hC
/-- What is to be shown with these values still to be sent. -/
def OpnI3 (P : Program) (Low c : Nat) (z : Value) (Post : Value → World → Prop) (vs : List Value) : Prop :=
  ∀ (A B : OwnP) (a q b : Goroutine) (w : World) (sl : Option (Nat × Nat)) (t : Trace) (s r : Nat) (tm : Bool) (p kq : Nat), Tw Low c A B w → w.heap[c]? = some (.chan 0 #[] false s r tm) → QuitsIn P kq q →
    RecvsI P Low c z (FinI P Post) vs A a w → SendsI P Low c vs B b w → Tr3 A B w.heap.size t p → EndsG P Post (trio a q b w sl) t
theorem ends_close3 {A B : OwnP} {a q b : Goroutine} {w : World} {sl : Option (Nat × Nat)} {t : Trace} {s r : Nat} {tm : Bool} {p kq : Nat} (hW : Tw Low c A B w) (hc : w.heap[c]? = some (.chan 0 #[] false s r tm)) (hQ : QuitsIn P kq q) (hat : AtCloseI P Low c B b w)
    (hA : GoesI P true (RelO Low (some c)) (DelO Low (some c)) (StopAI P Low c z (FinI P Post) []) A a w ∨ ∃ g, a = parked (core g) #[rcase c z] (.recv true) ∧ ∀ w₁, RelO Low (some c) A w w₁ → StopAI P Low c z (FinI P Post) [] A g w₁)
    (hT : Tr3 A B w.heap.size t p) : ∃ m' ops, runT P (trio a q b w sl) 2 = (.next m', ops) ∧ EndsG P Post m' (t ++ ops) := by
  obtain ⟨_, hwake, g₂, es, nq, hclose, hes, hq⟩ := hat
  have hgo := hclose s r tm hc
  have qA : RelO Low (some c) A w (w.shut c s r tm) := RelO.put _ _ _ _ _
  have hW3 : Tw Low c A B (w.shut c s r tm) := hW.same (by simp [World.shut])
  have hs3 : (w.shut c s r tm).heap.size = w.heap.size := by simp [World.shut]
  have hc2 : (w.shut c s r tm).heap[c]? = some (.chan 0 #[] true s r tm) := heap_put hc
  have hwk : ∀ o, Conc.woken P b g₂ (w.shut c s r tm) o = o.again (w.shut c s r tm) := by
    intro o; unfold Go.Conc.woken; rcases hq.status with h | h <;> simp [hwake, h]
  have hA' : GoesI P true (RelO Low (some c)) (DelO Low (some c)) (StopAI P Low c z (FinI P Post) []) A (a.again (w.shut c s r tm)) (w.shut c s r tm) := by
    rcases hA with hg | ⟨g, rfl, hs⟩
    · rw [again_running _ (.inl (hg.running (termsO Low (some c)) (fun _ _ _ h => StopAI.running h)))]
      exact hg.rely (termsO Low (some c)) qA
    · rw [again_parked_shut rfl hc2]
      exact .stop fun w₁ h₁ => (hs w₁ (qA.trans h₁)).again
  refine ⟨_, _, runT_trio2 hgo, ?_⟩
  rw [woken_quits hQ, hwk, ofEvents_push, ← Array.push_append]
  have hF : Tr3 A B w.heap.size ((t ++ MemOp.ofEvents 2 b.frame.fn b.frame.place es).push { g := 2, fn := b.frame.fn, pos := b.frame.place, act := .ofEvent ⟨.obj c, true, true⟩ }) p := by
    rw [Array.push_eq_append]
    exact (hT.add1 hW.low hW.dis (fun k hb => hW.lt k (.inr hb)) hW.lows hes).addComm _ (by simp [MemAct.touch?, MemAct.ofEvent])
  exact ends_shut3 hA' _ nq kq _ B q g₂ sl _ s r tm p _ rfl (RelO.refl _ _ _ _) hW3 hc2 hQ hq (by rw [hs3]; exact hF) (Closed3.ofPush hF.f rfl rfl)
section
variable {vs : List Value}
/-- The receiver waits. -/
theorem ends_waitA3 (ih : ∀ v vs', vs = v :: vs' → OpnI3 P Low c z Post vs') {B : OwnP} {b : Goroutine} {w : World} (hB : GoesI P false (RelO Low (some c)) (DelO Low (some c)) (StopBI P Low c vs) B b w) :
    ∀ (kq : Nat) (w₁ : World) (A : OwnP) (g q : Goroutine) (sl : Option (Nat × Nat)) (t : Trace) (s r : Nat) (tm : Bool) (p : Nat), QuitsIn P kq q → RelO Low (some c) B w w₁ → (∀ w₂, RelO Low (some c) A w₁ w₂ → StopAI P Low c z (FinI P Post) vs A g w₂) → Tw Low c A B w₁ → w₁.heap[c]? = some (.chan 0 #[] false s r tm) →
      Tr3 A B w₁.heap.size t p → EndsG P Post (trio (parked (core g) #[rcase c z] (.recv true)) q b w₁ sl) t := by
  have hrb := hB.running (termsO Low (some c)) (fun _ _ _ h => StopBI.running h)
  induction hB with
  | stop hstop =>
    rename_i B b w
    intro kq
    induction kq using Nat.strongRecOn with
    | _ kq ihq =>
      intro w₁ A g q sl t s r tm p hQ hR hs hW hc hT
      have awA : awake (parked (core g) #[rcase c z] (.recv true)) := awake_of (by simp [parked])
      obtain ⟨d, sl', hmv⟩ := trio_pick (P := P) (w := w₁) (sl := sl) awA (quits_awake hQ) (awake_of (.inl hrb)) (.inr hrb)
      have rB : RelO Low (some c) B w (w₁.at d) := hR.trans (RelO.at _ _ _ _ _)
      have rA : RelO Low (some c) A w₁ (w₁.at d) := RelO.at _ _ _ _ _
      have hW1 : Tw Low c A B (w₁.at d) := hW.same rfl
      have hT1 : Tr3 A B (w₁.at d).heap.size t p := hT
      have hc1 : (w₁.at d).heap[c]? = some (.chan 0 #[] false s r tm) := hc
      rcases hmv with ⟨hra, _⟩ | ⟨hrq, hst⟩ | ⟨_, hst⟩
      · simp [parked] at hra
      · obtain ⟨k', q', e, hw, hq⟩ := quits_step hQ hrq
        refine .next (hst.trans (runT_trio1 (hw _))) ?_
        rw [parkedA_woken hc1, woken_running hrb, ofEvents_none, Array.append_empty]
        exact ihq k' (by omega) (w₁.at d) A g q' sl' t s r tm p hq rB (fun w₂ h₂ => hs w₂ (rA.trans h₂)) hW1 hc1 hT1
      · have hat := hstop _ rB
        cases vs with
        | nil =>
          obtain ⟨m', ops, h1, h2⟩ := ends_close3 (sl := sl') hW1 hc1 hQ hat (.inr ⟨g, rfl, fun w₂ h₂ => hs w₂ (rA.trans h₂)⟩) hT1
          exact .next (hst.trans h1) h2
        | cons v vs' =>
          obtain ⟨_, g₂, z', es, hcm, hes, hnext⟩ := hat
          have hT2 := hT1.add1 (fn := b.frame.fn) (pos := b.frame.place) hW1.low hW1.dis (fun k hb => hW1.lt k (.inr hb)) hW1.lows hes
          have pA : RelO Low (some c) A (w₁.at d) ((w₁.at d).passed c s r tm) := RelO.put _ _ _ _ _
          have pB : RelO Low (some c) B (w₁.at d) ((w₁.at d).passed c s r tm) := RelO.put _ _ _ _ _
          have hW2 : Tw Low c A B ((w₁.at d).passed c s r tm) := hW1.same (by simp [World.passed])
          have hs2 : ((w₁.at d).passed c s r tm).heap.size = (w₁.at d).heap.size := by simp [World.passed]
          refine .next (hst.trans (runT3_send_meets hcm hc1 (quits_open hQ) rfl)) ?_
          rw [← Array.append_assoc]
          exact ih v vs' rfl A B _ q _ _ sl' _ (s + 1) (r + 1) tm p kq hW2 (heap_put hc1) hQ ((hs _ rA).cons _ pA) (hnext _ pB) (by rw [hs2]; exact hT2.addComm _ (by simp [MemAct.touch?]))
  | step hs' g' w' es O' h1 h2 h3 ihB =>
    rename_i B b w
    intro kq
    induction kq using Nat.strongRecOn with
    | _ kq ihq =>
      intro w₁ A g q sl t s r tm p hQ hR hs hW hc hT
      have awA : awake (parked (core g) #[rcase c z] (.recv true)) := awake_of (by simp [parked])
      obtain ⟨d, sl', hmv⟩ := trio_pick (P := P) (w := w₁) (sl := sl) awA (quits_awake hQ) (awake_of (.inl hrb)) (.inr hrb)
      have rB : RelO Low (some c) B w (w₁.at d) := hR.trans (RelO.at _ _ _ _ _)
      have rA : RelO Low (some c) A w₁ (w₁.at d) := RelO.at _ _ _ _ _
      have hW1 : Tw Low c A B (w₁.at d) := hW.same rfl
      have hT1 : Tr3 A B (w₁.at d).heap.size t p := hT
      have hc1 : (w₁.at d).heap[c]? = some (.chan 0 #[] false s r tm) := hc
      rcases hmv with ⟨hra, _⟩ | ⟨hrq, hst⟩ | ⟨_, hst⟩
      · simp [parked] at hra
      · obtain ⟨k', q', e, hw, hq⟩ := quits_step hQ hrq
        refine .next (hst.trans (runT_trio1 (hw _))) ?_
        rw [parkedA_woken hc1, woken_running hrb, ofEvents_none, Array.append_empty]
        exact ihq k' (by omega) (w₁.at d) A g q' sl' t s r tm p hq rB (fun w₂ h₂ => hs w₂ (rA.trans h₂)) hW1 hc1 hT1
      · have hc' := (hW1.chanB (h2 _ rB)).trans hc1
        refine .next (hst.trans (runT_trio2 (h1 _ rB))) ?_
        rw [parkedA_woken hc', woken_quits hQ]
        exact ihB _ rB ((h3 _ rB).running (termsO Low (some c)) (fun _ _ _ h => StopBI.running h)) kq _ A g q sl' _ s r tm p hQ (RelO.refl _ _ _ _) (fun w₂ h₂ => hs w₂ ((rA.trans (hW1.relA (h2 _ rB))).trans h₂)) (hW1.b (h2 _ rB)) hc' (hT1.b hW1 (h2 _ rB))
/-- The sender waits. -/
theorem ends_waitB3 {v : Value} (ih : OpnI3 P Low c z Post vs) {A : OwnP} {a : Goroutine} {w : World} (hA : GoesI P true (RelO Low (some c)) (DelO Low (some c)) (StopAI P Low c z (FinI P Post) (v :: vs)) A a w) :
    ∀ (kq : Nat) (w₁ : World) (B : OwnP) (g₂ q : Goroutine) (z' : Value) (sl : Option (Nat × Nat)) (t : Trace) (s r : Nat) (tm : Bool) (p : Nat), QuitsIn P kq q → RelO Low (some c) A w w₁ → (∀ w₂, RelO Low (some c) B w₁ w₂ → SendsI P Low c vs B (Conc.served g₂ undef) w₂) → Tw Low c A B w₁ → w₁.heap[c]? = some (.chan 0 #[] false s r tm) →
      Tr3 A B w₁.heap.size t p → EndsG P Post (trio a q (parked g₂ #[scase c v z'] .send) w₁ sl) t := by
  have hra := hA.running (termsO Low (some c)) (fun _ _ _ h => StopAI.running h)
  induction hA with
  | stop hstop =>
    rename_i A a w
    intro kq
    induction kq using Nat.strongRecOn with
    | _ kq ihq =>
      intro w₁ B g₂ q z' sl t s r tm p hQ hR hnext hW hc hT
      have awB : awake (parked g₂ #[scase c v z'] .send) := awake_of (by simp [parked])
      obtain ⟨d, sl', hmv⟩ := trio_pick (P := P) (w := w₁) (sl := sl) (awake_of (.inl hra)) (quits_awake hQ) awB (.inl hra)
      have rA : RelO Low (some c) A w (w₁.at d) := hR.trans (RelO.at _ _ _ _ _)
      have rB : RelO Low (some c) B w₁ (w₁.at d) := RelO.at _ _ _ _ _
      have hW1 : Tw Low c A B (w₁.at d) := hW.same rfl
      have hT1 : Tr3 A B (w₁.at d).heap.size t p := hT
      have hc1 : (w₁.at d).heap[c]? = some (.chan 0 #[] false s r tm) := hc
      rcases hmv with ⟨_, hst⟩ | ⟨hrq, hst⟩ | ⟨hrb, _⟩
      · have hat := hstop _ rA
        obtain ⟨es, hcomm, hes⟩ := hat.comm
        have hT2 := hT1.add0 (fn := a.frame.fn) (pos := a.frame.place) hW1.low (fun k ha => hW1.lt k (.inl ha)) hW1.lows hes
        have pA : RelO Low (some c) A (w₁.at d) ((w₁.at d).passed c s r tm) := RelO.put _ _ _ _ _
        have pB : RelO Low (some c) B (w₁.at d) ((w₁.at d).passed c s r tm) := RelO.put _ _ _ _ _
        have hW2 : Tw Low c A B ((w₁.at d).passed c s r tm) := hW1.same (by simp [World.passed])
        have hs2 : ((w₁.at d).passed c s r tm).heap.size = (w₁.at d).heap.size := by simp [World.passed]
        refine .next (hst.trans (runT3_recv_meets hcomm hc1 (quits_open hQ) rfl)) ?_
        rw [← Array.append_assoc]
        exact ih A B _ q _ _ sl' _ (s + 1) (r + 1) tm p kq hW2 (heap_put hc1) hQ (hat.cons _ pA) (hnext _ (rB.trans pB)) (by rw [hs2]; exact hT2.addComm _ (by simp [MemAct.touch?]))
      · obtain ⟨k', q', e, hw, hq⟩ := quits_step hQ hrq
        refine .next (hst.trans (runT_trio1 (hw _))) ?_
        rw [woken_running hra, parkedB_woken hc1, ofEvents_none, Array.append_empty]
        exact ihq k' (by omega) (w₁.at d) B g₂ q' z' sl' t s r tm p hq rA (fun w₂ h₂ => hnext w₂ (rB.trans h₂)) hW1 hc1 hT1
      · simp [parked] at hrb
  | step hs' g' w' es O' h1 h2 h3 ihA =>
    rename_i A a w
    intro kq
    induction kq using Nat.strongRecOn with
    | _ kq ihq =>
      intro w₁ B g₂ q z' sl t s r tm p hQ hR hnext hW hc hT
      have awB : awake (parked g₂ #[scase c v z'] .send) := awake_of (by simp [parked])
      obtain ⟨d, sl', hmv⟩ := trio_pick (P := P) (w := w₁) (sl := sl) (awake_of (.inl hra)) (quits_awake hQ) awB (.inl hra)
      have rA : RelO Low (some c) A w (w₁.at d) := hR.trans (RelO.at _ _ _ _ _)
      have rB : RelO Low (some c) B w₁ (w₁.at d) := RelO.at _ _ _ _ _
      have hW1 : Tw Low c A B (w₁.at d) := hW.same rfl
      have hT1 : Tr3 A B (w₁.at d).heap.size t p := hT
      have hc1 : (w₁.at d).heap[c]? = some (.chan 0 #[] false s r tm) := hc
      rcases hmv with ⟨_, hst⟩ | ⟨hrq, hst⟩ | ⟨hrb, _⟩
      · have hc' := (hW1.chanA (h2 _ rA)).trans hc1
        refine .next (hst.trans (runT_trio0 (h1 _ rA))) ?_
        rw [woken_quits hQ, parkedB_woken hc']
        exact ihA _ rA ((h3 _ rA).running (termsO Low (some c)) (fun _ _ _ h => StopAI.running h)) kq _ B g₂ q z' sl' _ s r tm p hQ (RelO.refl _ _ _ _) (fun w₂ h₂ => hnext w₂ ((rB.trans (hW1.relB (h2 _ rA))).trans h₂)) (hW1.a (h2 _ rA)) hc' (hT1.a hW1 (h2 _ rA))
      · obtain ⟨k', q', e, hw, hq⟩ := quits_step hQ hrq
        refine .next (hst.trans (runT_trio1 (hw _))) ?_
        rw [woken_running hra, parkedB_woken hc1, ofEvents_none, Array.append_empty]
        exact ihq k' (by omega) (w₁.at d) B g₂ q' z' sl' t s r tm p hq rA (fun w₂ h₂ => hnext w₂ (rB.trans h₂)) hW1 hc1 hT1
      · simp [parked] at hrb
/-- Both go; goroutine 0's move is seen to. -/
theorem ends_goB3 (ih : ∀ v vs', vs = v :: vs' → OpnI3 P Low c z Post vs') {A : OwnP} {a : Goroutine} {wa : World} (hA : GoesI P true (RelO Low (some c)) (DelO Low (some c)) (StopAI P Low c z (FinI P Post) vs) A a wa)
    (move : ∀ (w₁ : World) (B : OwnP) (q b : Goroutine) (kq : Nat) (sl : Option (Nat × Nat)) (t : Trace) (s r : Nat) (tm : Bool) (p : Nat), QuitsIn P kq q → RelO Low (some c) A wa w₁ → GoesI P false (RelO Low (some c)) (DelO Low (some c)) (StopBI P Low c vs) B b w₁ → Tw Low c A B w₁ → w₁.heap[c]? = some (.chan 0 #[] false s r tm) → Tr3 A B w₁.heap.size t p →
      ∃ m' ops, runT P (trio a q b w₁ sl) 0 = (.next m', ops) ∧ EndsG P Post m' (t ++ ops))
    {B : OwnP} {b : Goroutine} {w : World} (hB : GoesI P false (RelO Low (some c)) (DelO Low (some c)) (StopBI P Low c vs) B b w) :
    ∀ (kq : Nat) (w₁ : World) (q : Goroutine) (sl : Option (Nat × Nat)) (t : Trace) (s r : Nat) (tm : Bool) (p : Nat), QuitsIn P kq q → RelO Low (some c) A wa w₁ → RelO Low (some c) B w w₁ → Tw Low c A B w₁ → w₁.heap[c]? = some (.chan 0 #[] false s r tm) →
      Tr3 A B w₁.heap.size t p → EndsG P Post (trio a q b w₁ sl) t := by
  have hra := hA.running (termsO Low (some c)) (fun _ _ _ h => StopAI.running h)
  have hrb := hB.running (termsO Low (some c)) (fun _ _ _ h => StopBI.running h)
  induction hB with
  | stop hstop =>
    rename_i B b w
    intro kq
    induction kq using Nat.strongRecOn with
    | _ kq ihq =>
      intro w₁ q sl t s r tm p hQ hRA hRB hW hc hT
      obtain ⟨d, sl', hmv⟩ := trio_pick (P := P) (w := w₁) (sl := sl) (awake_of (.inl hra)) (quits_awake hQ) (awake_of (.inl hrb)) (.inl hra)
      have rA : RelO Low (some c) A wa (w₁.at d) := hRA.trans (RelO.at _ _ _ _ _)
      have rB : RelO Low (some c) B w (w₁.at d) := hRB.trans (RelO.at _ _ _ _ _)
      have hW1 : Tw Low c A B (w₁.at d) := hW.same rfl
      have hT1 : Tr3 A B (w₁.at d).heap.size t p := hT
      have hc1 : (w₁.at d).heap[c]? = some (.chan 0 #[] false s r tm) := hc
      rcases hmv with ⟨_, hst⟩ | ⟨hrq, hst⟩ | ⟨_, hst⟩
      · obtain ⟨m', ops, h1, h2⟩ := move _ B q b kq sl' t s r tm p hQ rA (.stop fun w₂ h₂ => hstop w₂ (rB.trans h₂)) hW1 hc1 hT1
        exact .next (hst.trans h1) h2
      · obtain ⟨k', q', e, hw, hq⟩ := quits_step hQ hrq
        refine .next (hst.trans (runT_trio1 (hw _))) ?_
        rw [woken_running hra, woken_running hrb, ofEvents_none, Array.append_empty]
        exact ihq k' (by omega) (w₁.at d) q' sl' t s r tm p hq rA rB hW1 hc1 hT1
      · have hat := hstop _ rB
        cases vs with
        | nil =>
          obtain ⟨m', ops, h1, h2⟩ := ends_close3 (sl := sl') hW1 hc1 hQ hat (.inl (hA.rely (termsO Low (some c)) rA)) hT1
          exact .next (hst.trans h1) h2
        | cons v vs' =>
          obtain ⟨_, g₂, z', es, hcm, hes, hnext⟩ := hat
          have hT2 := hT1.add1 (fn := b.frame.fn) (pos := b.frame.place) hW1.low hW1.dis (fun k hb => hW1.lt k (.inr hb)) hW1.lows hes
          have has : a.status ≠ .blocked := by rw [hra]; simp
          refine .next (hst.trans (runT3_send_waits hcm hc1 (quits_open hQ) has)) ?_
          exact ends_waitB3 (ih v vs' rfl) (hA.rely (termsO Low (some c)) rA) kq _ B g₂ q z' sl' _ s r tm p hQ (RelO.refl _ _ _ _) hnext hW1 hc1 hT2
  | step hs' g' w' es O' h1 h2 h3 ihB =>
    rename_i B b w
    intro kq
    induction kq using Nat.strongRecOn with
    | _ kq ihq =>
      intro w₁ q sl t s r tm p hQ hRA hRB hW hc hT
      obtain ⟨d, sl', hmv⟩ := trio_pick (P := P) (w := w₁) (sl := sl) (awake_of (.inl hra)) (quits_awake hQ) (awake_of (.inl hrb)) (.inl hra)
      have rA : RelO Low (some c) A wa (w₁.at d) := hRA.trans (RelO.at _ _ _ _ _)
      have rB : RelO Low (some c) B w (w₁.at d) := hRB.trans (RelO.at _ _ _ _ _)
      have hW1 : Tw Low c A B (w₁.at d) := hW.same rfl
      have hT1 : Tr3 A B (w₁.at d).heap.size t p := hT
      have hc1 : (w₁.at d).heap[c]? = some (.chan 0 #[] false s r tm) := hc
      rcases hmv with ⟨_, hst⟩ | ⟨hrq, hst⟩ | ⟨_, hst⟩
      · obtain ⟨m', ops, e1, e2⟩ := move _ B q b kq sl' t s r tm p hQ rA ((GoesI.step hs' g' w' es O' h1 h2 h3).rely (termsO Low (some c)) rB) hW1 hc1 hT1
        exact .next (hst.trans e1) e2
      · obtain ⟨k', q', e, hw, hq⟩ := quits_step hQ hrq
        refine .next (hst.trans (runT_trio1 (hw _))) ?_
        rw [woken_running hra, woken_running hrb, ofEvents_none, Array.append_empty]
        exact ihq k' (by omega) (w₁.at d) q' sl' t s r tm p hq rA rB hW1 hc1 hT1
      · have hc' := (hW1.chanB (h2 _ rB)).trans hc1
        refine .next (hst.trans (runT_trio2 (h1 _ rB))) ?_
        rw [woken_running hra, woken_quits hQ]
        exact ihB _ rB ((h3 _ rB).running (termsO Low (some c)) (fun _ _ _ h => StopBI.running h)) kq _ q sl' _ s r tm p hQ (rA.trans (hW1.relA (h2 _ rB))) (RelO.refl _ _ _ _) (hW1.b (h2 _ rB)) hc' (hT1.b hW1 (h2 _ rB))
/-- Both go. -/
theorem ends_go3 (ih : ∀ v vs', vs = v :: vs' → OpnI3 P Low c z Post vs') {A : OwnP} {a : Goroutine} {w : World} (hA : GoesI P true (RelO Low (some c)) (DelO Low (some c)) (StopAI P Low c z (FinI P Post) vs) A a w) :
    ∀ (kq : Nat) (w₁ : World) (B : OwnP) (q b : Goroutine) (sl : Option (Nat × Nat)) (t : Trace) (s r : Nat) (tm : Bool) (p : Nat), QuitsIn P kq q → RelO Low (some c) A w w₁ → GoesI P false (RelO Low (some c)) (DelO Low (some c)) (StopBI P Low c vs) B b w₁ → Tw Low c A B w₁ → w₁.heap[c]? = some (.chan 0 #[] false s r tm) →
      Tr3 A B w₁.heap.size t p → EndsG P Post (trio a q b w₁ sl) t := by
  induction hA with
  | stop hstop =>
    rename_i A a w
    intro kq w₁ B q b sl t s r tm p hQ hR hB hW hc hT
    refine ends_goB3 ih (GoesI.stop hstop) (fun w₂ B₂ q₂ b₂ kq₂ sl₂ t₂ s₂ r₂ tm₂ p₂ hQ₂ hR₂ hB₂ hW₂ hc₂ hT₂ => ?_) hB kq w₁ q sl t s r tm p hQ hR (RelO.refl _ _ _ _) hW hc hT
    have hat := hstop _ hR₂
    obtain ⟨es, hcomm, hes⟩ := hat.comm
    have hT3 := hT₂.add0 (fn := a.frame.fn) (pos := a.frame.place) hW₂.low (fun k ha => hW₂.lt k (.inl ha)) hW₂.lows hes
    have hbs : b₂.status ≠ .blocked := by rw [hB₂.running (termsO Low (some c)) (fun _ _ _ h => StopBI.running h)]; simp
    exact ⟨_, _, runT3_recv_waits hcomm hc₂ (quits_open hQ₂) hbs, ends_waitA3 ih hB₂ kq₂ _ A a q₂ sl₂ _ s₂ r₂ tm₂ p₂ hQ₂ (RelO.refl _ _ _ _) (fun w₃ h₃ => hstop _ (hR₂.trans h₃)) hW₂ hc₂ hT3⟩
  | step hs' g' w' es O' h1 h2 h3 ihA =>
    rename_i A a w
    intro kq w₁ B q b sl t s r tm p hQ hR hB hW hc hT
    refine ends_goB3 ih (GoesI.step hs' g' w' es O' h1 h2 h3) (fun w₂ B₂ q₂ b₂ kq₂ sl₂ t₂ s₂ r₂ tm₂ p₂ hQ₂ hR₂ hB₂ hW₂ hc₂ hT₂ => ?_) hB kq w₁ q sl t s r tm p hQ hR (RelO.refl _ _ _ _) hW hc hT
    have hc' := (hW₂.chanA (h2 _ hR₂)).trans hc₂
    refine ⟨_, _, runT_trio0 (h1 _ hR₂), ?_⟩
    rw [woken_quits hQ₂, woken_running (hB₂.running (termsO Low (some c)) (fun _ _ _ h => StopBI.running h))]
    exact ihA _ hR₂ kq₂ _ B₂ q₂ b₂ sl₂ _ s₂ r₂ tm₂ p₂ hQ₂ (RelO.refl _ _ _ _) (hB₂.rely (termsO Low (some c)) (hW₂.relB (h2 _ hR₂))) (hW₂.a (h2 _ hR₂)) hc' (hT₂.a hW₂ (h2 _ hR₂))
end
theorem ends_opn3 : ∀ vs, OpnI3 P Low c z Post vs := by
  intro vs
  induction vs with
  | nil => exact fun A B a q b w sl t s r tm p kq hW hc hQ hA hB hT => ends_go3 (fun _ _ e => by cases e) ((recvsI_iff ..).1 hA) kq w B q b sl t s r tm p hQ (RelO.refl _ _ _ _) ((sendsI_iff ..).1 hB) hW hc hT
  | cons v vs ih => exact fun A B a q b w sl t s r tm p kq hW hc hQ hA hB hT => ends_go3 (fun _ _ e => by injection e with _ e; subst e; exact ih) ((recvsI_iff ..).1 hA) kq w B q b sl t s r tm p hQ (RelO.refl _ _ _ _) ((sendsI_iff ..).1 hB) hW hc hT
end
/-! ### behind the first close: alone up to the second go statement, or to the return without one -/
theorem forkedI_new3 {own : Loc → Option Nat} {u : Trace} {x y : MemOp} (hp : ∃ own1 c1 p0 pc pr N, Past own1 c1 p0 pc pr N u.size u) (hw : Wordless u) (hx : x.g = 0 ∧ x.act = .go 2) (hy : y.g = 2 ∧ y.act = .start) : Forked3 own ((u.push x).push y) u.size := by
  obtain ⟨o1, c1, q0, qc, qr, M, hp⟩ := hp
  refine ⟨⟨o1, c1, q0, qc, qr, M, ?_⟩, ?_, ⟨x, ?_, hx.1, hx.2⟩, ⟨y, ?_, hy.1, hy.2⟩, fun i op hi hlt => ?_⟩
  · rw [Array.push_eq_append, Array.push_eq_append]
    exact hp.append.append
  · intro op hop m hm
    rcases Array.mem_push.1 hop with hop | rfl
    · rcases Array.mem_push.1 hop with hop | rfl
      · exact hw op hop m hm
      · rw [hx.2] at hm; cases hm
    · rw [hy.2] at hm; cases hm
  · rw [Array.getElem?_push]
    simp
  · rw [Array.getElem?_push]
    simp
  · have := lt_size_of_getElem? hi
    simp only [Array.size_push] at this
    omega
theorem ends_fin2 {P : Program} {Post : Value → World → Prop} {own : Loc → Option Nat} {c p pc pr N : Nat} {O : OwnP} {a : Goroutine} {w : World} (hA : GoesI P true RelF DelF (fun O a w => AtGoI P Post O a w ∨ AtEndI P Post O a w) O a w) :
    ∀ (k : Nat) (d : Nat) (b : Goroutine) (sl : Option (Nat × Nat)) (t : Trace), QuitsIn P k b → FinT own c p pc pr N t → N ≤ t.size → EndsG P Post (duo a b (w.at d) sl) t := by
  have hra0 := hA.running termsF (fun _ _ _ h => h.elim (fun h => h.1) fun h => h.1)
  induction hA with
  | stop h =>
    rename_i O a w
    intro k
    induction k using Nat.strongRecOn with
    | _ k ih =>
      intro d b sl t hB hT hN
      obtain ⟨d', sl', hmv⟩ := duo_pick (P := P) (w := w.at d) (sl := sl) (awake_of (.inl hra0)) (quits_awake hB) (.inl hra0)
      rcases hmv with ⟨_, hst⟩ | ⟨hrb, hst⟩
      · rcases h ((w.at d).at d') ⟨d', rfl⟩ with hat | hat
        · obtain ⟨_, a', child, w', es, Low, c', A, B, z, vs, s, r, tm, hsp, hes, hW, hc, hA, hC⟩ := hat
          have hT2 := hT.add hN (early0 (fn := a.frame.fn) (pos := a.frame.place) hes).1 (early0 hes).2
          have hN2 : N ≤ (t ++ MemOp.ofEvents 0 a.frame.fn a.frame.place es).size := by rw [Array.size_append]; omega
          refine .next (hst.trans (runT_duo_spawn hsp)) ?_
          refine ends_opn3 vs A B a' b child w' sl' _ s r tm (t ++ MemOp.ofEvents 0 a.frame.fn a.frame.place es).size k hW hc hB hA hC ⟨?_, fun i op x k hi hlt _ _ => ?_⟩
          · rw [Array.append_push, Array.append_push]
            exact forkedI_new3 ⟨_, _, _, _, _, _, Past.of hT2 hN2⟩ hT2.wordless ⟨rfl, rfl⟩ ⟨rfl, rfl⟩
          · have := lt_size_of_getElem? hi
            simp only [Array.size_push, Array.size_append] at this
            simp only [Array.size_append] at hlt
            omega
        · obtain ⟨_, v, es, hend, hes, hpost⟩ := hat
          have hT2 := hT.add hN (early0 (fn := a.frame.fn) (pos := a.frame.place) hes).1 (early0 hes).2
          exact .done (hst.trans (runT_duo0_ended hend)) (good_fin hpost hT2 hB)
      · obtain ⟨k', b', e, hw, hq⟩ := quits_step hB hrb
        refine .next (hst.trans (runT_duo1 (hw _))) ?_
        rw [woken_running hra0, ofEvents_none, Array.append_empty]
        exact ih k' (by omega) d' b' sl' t hq hT hN
  | step hs g' w' es O' h1 h2 h3 ihA =>
    rename_i O a w
    intro k
    induction k using Nat.strongRecOn with
    | _ k ih =>
      intro d b sl t hB hT hN
      obtain ⟨d', sl', hmv⟩ := duo_pick (P := P) (w := w.at d) (sl := sl) (awake_of (.inl hra0)) (quits_awake hB) (.inl hra0)
      rcases hmv with ⟨_, hst⟩ | ⟨hrb, hst⟩
      · have r : RelF O w ((w.at d).at d') := ⟨d', rfl⟩
        refine .next (hst.trans (runT_duo0 (h1 _ r))) ?_
        rw [woken_quits hB]
        exact ihA _ r ((h3 _ r).running termsF (fun _ _ _ h => h.elim (fun h => h.1) fun h => h.1)) k (w' _ r).drawn b sl' _ hB (hT.add hN (early0 (h2 _ r)).1 (early0 (h2 _ r)).2) (by rw [Array.size_append]; omega)
      · obtain ⟨k', b', e, hw, hq⟩ := quits_step hB hrb
        refine .next (hst.trans (runT_duo1 (hw _))) ?_
        rw [woken_running hra0, ofEvents_none, Array.append_empty]
        exact ih k' (by omega) d' b' sl' t hq hT hN
end Go.Proofs.Ytnbgfffcialfkaa
