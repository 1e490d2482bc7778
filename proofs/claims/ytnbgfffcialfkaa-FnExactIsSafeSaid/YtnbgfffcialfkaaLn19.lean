/-
  The theorem of the machine: a sender and a ranging receiver over a channel without a buffer, both of which make and write memory of their own, on every tape; from the go statement to the return. No condition.
-/
import Derived.Test.YtnbgfffcialfkaaLn03
set_option linter.unusedSimpArgs false
set_option linter.unusedVariables false
namespace Go.Proofs.Ytnbgfffcialfkaa
open Go Go.Conc
set_option linter.unusedVariables false

section
variable {P : Program} {Low c : Nat} {z : Value} {Fin : OwnP → Goroutine → World → Prop} {Own : OwnP}
theorem StopAI.running {vs : List Value} {g : Goroutine} {w : World} (h : StopAI P Low c z Fin vs Own g w) : g.status = .running := by cases vs <;> exact h.1
theorem StopBI.running {vs : List Value} {g : Goroutine} {w : World} (h : StopBI P Low c vs Own g w) : g.status = .running := by cases vs <;> exact h.1
theorem StopAI.comm {vs : List Value} {g : Goroutine} {w : World} (h : StopAI P Low c z Fin vs Own g w) : ∃ es, stepG P true g w = .comm (core g) #[rcase c z] true (.recv true) w es ∧ ∀ e ∈ es, EvO Low Own e := by
  cases vs <;> exact let ⟨_, es, h1, h2, _⟩ := h; ⟨es, h1, h2⟩
theorem StopAI.cons {v : Value} {vs : List Value} {g : Goroutine} {w : World} (h : StopAI P Low c z Fin (v :: vs) Own g w) : ∀ w₂, RelO Low (some c) Own w w₂ → RecvsI P Low c z Fin vs Own (Conc.served (core g) (recvd true v true)) w₂ :=
  let ⟨_, _, _, _, h3⟩ := h; h3
theorem StopAI.nil {g : Goroutine} {w : World} (h : StopAI P Low c z Fin [] Own g w) : ∀ w₂, RelO Low (some c) Own w w₂ → Fin Own (Conc.served (core g) (recvd true z false)) w₂ :=
  let ⟨_, _, _, _, h3⟩ := h; h3
theorem StopAI.again {vs : List Value} {g : Goroutine} {w : World} (h : StopAI P Low c z Fin vs Own g w) : StopAI P Low c z Fin vs Own { parked (core g) #[rcase c z] (.recv true) with status := .running } w := by
  have e : stepG P true { parked (core g) #[rcase c z] (.recv true) with status := .running } w = stepG P true g w := stepG_same rfl rfl rfl w
  cases vs <;> exact let ⟨_, es, h1, h2, h3⟩ := h; ⟨rfl, es, by rw [e]; exact h1, h2, h3⟩
theorem parkedA_woken {a g' : Goroutine} {g : Goroutine} {w' : World} {s r : Nat} {tm : Bool} (hc : w'.heap[c]? = some (.chan 0 #[] false s r tm)) : Conc.woken P a g' w' (parked (core g) #[rcase c z] (.recv true)) = parked (core g) #[rcase c z] (.recv true) := by
  unfold Go.Conc.woken
  split
  · exact again_parked_open rfl hc
  · rfl
theorem parkedB_woken {a g' : Goroutine} {g : Goroutine} {v z' : Value} {w' : World} {s r : Nat} {tm : Bool} (hc : w'.heap[c]? = some (.chan 0 #[] false s r tm)) : Conc.woken P a g' w' (parked g #[scase c v z'] .send) = parked g #[scase c v z'] .send := by
  unfold Go.Conc.woken
  split
  · exact again_parked_open rfl hc
  · rfl
end
section
variable {P : Program} {Low c : Nat} {z : Value} {Post : Value → World → Prop}
theorem ends_shut {A : OwnP} {a : Goroutine} {w : World} (hA : GoesI P true (RelO Low (some c)) (DelO Low (some c)) (StopAI P Low c z (FinI P Post) []) A a w) :
    ∀ (k : Nat) (w₁ : World) (B : OwnP) (b : Goroutine) (sl : Option (Nat × Nat)) (t : Trace) (s r : Nat) (tm : Bool) (p pc : Nat), RelO Low (some c) A w w₁ → Tw Low c A B w₁ → w₁.heap[c]? = some (.chan 0 #[] true s r tm) →
      QuitsIn P k b → Tr2 A B w₁.heap.size t p → Closed c t pc → EndsG P Post (duo a b w₁ sl) t := by
  have hra := hA.running (termsO Low (some c)) (fun _ _ _ h => StopAI.running h)
  induction hA with
  | stop hstop =>
    rename_i A a w
    intro k
    induction k with
    | zero | succ k ih =>
      intro w₁ B b sl t s r tm p pc hR hW hc hB hT hC
      have sB := hB.status
      have awB : awake b := awake_of (sB.elim .inl fun h => .inr (.inr h))
      obtain ⟨d, sl', hmv⟩ := duo_pick (P := P) (w := w₁) (sl := sl) (awake_of (.inl hra)) awB (.inl hra)
      have rA : RelO Low (some c) A w (w₁.at d) := hR.trans (RelO.at _ _ _ _ _)
      have hW1 : Tw Low c A B (w₁.at d) := hW.same rfl
      have hT1 : Tr2 A B (w₁.at d).heap.size t p := hT
      have hc1 : (w₁.at d).heap[c]? = some (.chan 0 #[] true s r tm) := hc
      rcases hmv with ⟨_, hst⟩ | ⟨hrb, hst⟩
      · have hat := hstop _ rA
        obtain ⟨es, hcomm, hes⟩ := hat.comm
        have hT2 := hT1.add0 (fn := a.frame.fn) (pos := a.frame.place) hW1.low (fun k ha => hW1.lt k (.inl ha)) hW1.lows hes
        have hbs : b.status ≠ .blocked := by rcases sB with h | h <;> rw [h] <;> simp
        refine .next (hst.trans (runT_recv_closedV hcomm hc1 hbs)) ?_
        rw [← Array.append_assoc]
        have hT3 := (hT2.addComm #[{ g := 0, fn := (core a).frame.fn, pos := (core a).frame.place, act := .recvClosed c }] (by simp [MemAct.touch?])).f
        exact ends_fin (hat.nil _ (RelO.refl _ _ _ _)) _ d b sl' _ hB (FinT.of (pr := (t ++ MemOp.ofEvents 0 a.frame.fn a.frame.place es).size) hT3 ((hC.append fun op hop => ((late_a hW1.low hes).2 op hop).2).append (by simp)) ⟨{ g := 0, fn := (core a).frame.fn, pos := (core a).frame.place, act := .recvClosed c }, by rw [Array.getElem?_append]; simp, rfl, rfl⟩) (Nat.le_refl _)
      · first
        | (rw [show b.status = .finished from hB] at hrb; cases hrb; done)
        | (obtain ⟨k', b', e, hw, hq⟩ := quits_step hB hrb
           injection e with e
           subst e
           refine .next (hst.trans (runT_duo1 (hw _))) ?_
           rw [woken_running hra, ofEvents_none, Array.append_empty]
           exact ih (w₁.at d) B b' sl' t s r tm p pc rA hW1 hc1 hq hT1 hC)
  | step hs g' w' es O' h1 h2 h3 ihA =>
    rename_i A a w
    intro k
    induction k with
    | zero | succ k ih =>
      intro w₁ B b sl t s r tm p pc hR hW hc hB hT hC
      have sB := hB.status
      have awB : awake b := awake_of (sB.elim .inl fun h => .inr (.inr h))
      obtain ⟨d, sl', hmv⟩ := duo_pick (P := P) (w := w₁) (sl := sl) (awake_of (.inl hra)) awB (.inl hra)
      have rA : RelO Low (some c) A w (w₁.at d) := hR.trans (RelO.at _ _ _ _ _)
      have hW1 : Tw Low c A B (w₁.at d) := hW.same rfl
      have hT1 : Tr2 A B (w₁.at d).heap.size t p := hT
      have hc1 : (w₁.at d).heap[c]? = some (.chan 0 #[] true s r tm) := hc
      rcases hmv with ⟨_, hst⟩ | ⟨hrb, hst⟩
      · refine .next (hst.trans (runT_duo0 (h1 _ rA))) ?_
        rw [woken_quits hB]
        exact ihA _ rA ((h3 _ rA).running (termsO Low (some c)) (fun _ _ _ h => StopAI.running h)) _ _ B b sl' _ s r tm p pc (RelO.refl _ _ _ _) (hW1.a (h2 _ rA)) ((hW1.chanA (h2 _ rA)).trans hc1) hB (hT1.a hW1 (h2 _ rA)) (hC.append fun op hop => ((late_a (hW1.a (h2 _ rA)).low (h2 _ rA).evs).2 op hop).2)
      · first
        | (rw [show b.status = .finished from hB] at hrb; cases hrb; done)
        | (obtain ⟨k', b', e, hw, hq⟩ := quits_step hB hrb
           injection e with e
           subst e
           refine .next (hst.trans (runT_duo1 (hw _))) ?_
           rw [woken_running hra, ofEvents_none, Array.append_empty]
           exact ih (w₁.at d) B b' sl' t s r tm p pc rA hW1 hc1 hq hT1 hC)
/-- What is to be shown with these values still to be sent. -/
def OpnI (P : Program) (Low c : Nat) (z : Value) (Post : Value → World → Prop) (vs : List Value) : Prop :=
  ∀ (A B : OwnP) (a b : Goroutine) (w : World) (sl : Option (Nat × Nat)) (t : Trace) (s r : Nat) (tm : Bool) (p : Nat), Tw Low c A B w → w.heap[c]? = some (.chan 0 #[] false s r tm) →
    RecvsI P Low c z (FinI P Post) vs A a w → SendsI P Low c vs B b w → Tr2 A B w.heap.size t p → EndsG P Post (duo a b w sl) t
/-- The sender's close. -/
theorem ends_close {A B : OwnP} {a b : Goroutine} {w : World} {sl : Option (Nat × Nat)} {t : Trace} {s r : Nat} {tm : Bool} {p : Nat} (hW : Tw Low c A B w) (hc : w.heap[c]? = some (.chan 0 #[] false s r tm)) (hat : AtCloseI P Low c B b w)
    (hA : GoesI P true (RelO Low (some c)) (DelO Low (some c)) (StopAI P Low c z (FinI P Post) []) A a w ∨ ∃ g, a = parked (core g) #[rcase c z] (.recv true) ∧ ∀ w₁, RelO Low (some c) A w w₁ → StopAI P Low c z (FinI P Post) [] A g w₁)
    (hT : Tr2 A B w.heap.size t p) : ∃ m' ops, runT P (duo a b w sl) 1 = (.next m', ops) ∧ EndsG P Post m' (t ++ ops) := by
  obtain ⟨_, hwake, g₂, es, nq, hclose, hes, hq⟩ := hat
  have hgo := hclose s r tm hc
  have qA : RelO Low (some c) A w (w.shut c s r tm) := RelO.put _ _ _ _ _
  have hW3 : Tw Low c A B (w.shut c s r tm) := hW.same (by simp [World.shut])
  have hs3 : (w.shut c s r tm).heap.size = w.heap.size := by simp [World.shut]
  have hc2 : (w.shut c s r tm).heap[c]? = some (.chan 0 #[] true s r tm) := heap_put hc
  have hwk : ∀ o, Conc.woken P b g₂ (w.shut c s r tm) o = o.again (w.shut c s r tm) := by
    intro o; unfold Go.Conc.woken; rcases hq.status with h | h <;> simp [hwake, h]
  have hA' : GoesI P true (RelO Low (some c)) (DelO Low (some c)) (StopAI P Low c z (FinI P Post) []) A (a.again (w.shut c s r tm)) (w.shut c s r tm) := by
    rcases hA with hg | ⟨g, rfl, hs⟩
    · rw [again_running _ (.inl (hg.running (termsO Low (some c)) (fun _ _ _ h => StopAI.running h)))]
      exact hg.rely (termsO Low (some c)) qA
    · rw [again_parked_shut rfl hc2]
      exact .stop fun w₁ h₁ => (hs w₁ (qA.trans h₁)).again
  refine ⟨_, _, runT_duo1 hgo, ?_⟩
  rw [hwk, ofEvents_push, ← Array.push_append]
  have hF : Tr2 A B w.heap.size ((t ++ MemOp.ofEvents 1 b.frame.fn b.frame.place es).push { g := 1, fn := b.frame.fn, pos := b.frame.place, act := .ofEvent ⟨.obj c, true, true⟩ }) p := by
    rw [Array.push_eq_append]
    exact (hT.add1 hW.low hW.dis (fun k hb => hW.lt k (.inr hb)) hW.lows hes).addComm _ (by simp [MemAct.touch?, MemAct.ofEvent])
  exact ends_shut hA' nq _ B g₂ sl _ s r tm p _ (RelO.refl _ _ _ _) hW3 hc2 hq (by rw [hs3]; exact hF) (Closed.ofPush2 hF.f rfl rfl)
section
variable {vs : List Value}
/-- The receiver waits. -/
theorem ends_waitA (ih : ∀ v vs', vs = v :: vs' → OpnI P Low c z Post vs') {B : OwnP} {b : Goroutine} {w : World} (hB : GoesI P false (RelO Low (some c)) (DelO Low (some c)) (StopBI P Low c vs) B b w) :
    ∀ (w₁ : World) (A : OwnP) (g : Goroutine) (sl : Option (Nat × Nat)) (t : Trace) (s r : Nat) (tm : Bool) (p : Nat), RelO Low (some c) B w w₁ → (∀ w₂, RelO Low (some c) A w₁ w₂ → StopAI P Low c z (FinI P Post) vs A g w₂) → Tw Low c A B w₁ → w₁.heap[c]? = some (.chan 0 #[] false s r tm) →
      Tr2 A B w₁.heap.size t p → EndsG P Post (duo (parked (core g) #[rcase c z] (.recv true)) b w₁ sl) t := by
  have hrb := hB.running (termsO Low (some c)) (fun _ _ _ h => StopBI.running h)
  induction hB with
  | stop hstop =>
    rename_i B b w
    intro w₁ A g sl t s r tm p hR hs hW hc hT
    have awA : awake (parked (core g) #[rcase c z] (.recv true)) := awake_of (by simp [parked])
    obtain ⟨d, sl', hmv⟩ := duo_pick (P := P) (w := w₁) (sl := sl) awA (awake_of (.inl hrb)) (.inr hrb)
    have rB : RelO Low (some c) B w (w₁.at d) := hR.trans (RelO.at _ _ _ _ _)
    have rA : RelO Low (some c) A w₁ (w₁.at d) := RelO.at _ _ _ _ _
    have hW1 : Tw Low c A B (w₁.at d) := hW.same rfl
    have hT1 : Tr2 A B (w₁.at d).heap.size t p := hT
    have hc1 : (w₁.at d).heap[c]? = some (.chan 0 #[] false s r tm) := hc
    rcases hmv with ⟨hra, _⟩ | ⟨_, hst⟩
    · simp [parked] at hra
    · have hat := hstop _ rB
      cases vs with
      | nil =>
        obtain ⟨m', ops, h1, h2⟩ := ends_close (sl := sl') hW1 hc1 hat (.inr ⟨g, rfl, fun w₂ h₂ => hs w₂ (rA.trans h₂)⟩) hT1
        exact .next (hst.trans h1) h2
      | cons v vs' =>
        obtain ⟨_, g₂, z', es, hcm, hes, hnext⟩ := hat
        have hT2 := hT1.add1 (fn := b.frame.fn) (pos := b.frame.place) hW1.low hW1.dis (fun k hb => hW1.lt k (.inr hb)) hW1.lows hes
        have pA : RelO Low (some c) A (w₁.at d) ((w₁.at d).passed c s r tm) := RelO.put _ _ _ _ _
        have pB : RelO Low (some c) B (w₁.at d) ((w₁.at d).passed c s r tm) := RelO.put _ _ _ _ _
        have hW2 : Tw Low c A B ((w₁.at d).passed c s r tm) := hW1.same (by simp [World.passed])
        have hs2 : ((w₁.at d).passed c s r tm).heap.size = (w₁.at d).heap.size := by simp [World.passed]
        refine .next (hst.trans (runT_send_meetsV hcm hc1 rfl)) ?_
        rw [← Array.append_assoc]
        exact ih v vs' rfl A B _ _ _ sl' _ (s + 1) (r + 1) tm p hW2 (heap_put hc1) ((hs _ rA).cons _ pA) (hnext _ pB) (by rw [hs2]; exact hT2.addComm _ (by simp [MemAct.touch?]))
  | step hs' g' w' es O' h1 h2 h3 ihB =>
    rename_i B b w
    intro w₁ A g sl t s r tm p hR hs hW hc hT
    have awA : awake (parked (core g) #[rcase c z] (.recv true)) := awake_of (by simp [parked])
    obtain ⟨d, sl', hmv⟩ := duo_pick (P := P) (w := w₁) (sl := sl) awA (awake_of (.inl hrb)) (.inr hrb)
    have rB : RelO Low (some c) B w (w₁.at d) := hR.trans (RelO.at _ _ _ _ _)
    have rA : RelO Low (some c) A w₁ (w₁.at d) := RelO.at _ _ _ _ _
    have hW1 : Tw Low c A B (w₁.at d) := hW.same rfl
    have hT1 : Tr2 A B (w₁.at d).heap.size t p := hT
    have hc1 : (w₁.at d).heap[c]? = some (.chan 0 #[] false s r tm) := hc
    rcases hmv with ⟨hra, _⟩ | ⟨_, hst⟩
    · simp [parked] at hra
    · have hc' := (hW1.chanB (h2 _ rB)).trans hc1
      refine .next (hst.trans (runT_duo1 (h1 _ rB))) ?_
      rw [parkedA_woken hc']
      exact ihB _ rB ((h3 _ rB).running (termsO Low (some c)) (fun _ _ _ h => StopBI.running h)) _ A g sl' _ s r tm p (RelO.refl _ _ _ _) (fun w₂ h₂ => hs w₂ ((rA.trans (hW1.relA (h2 _ rB))).trans h₂)) (hW1.b (h2 _ rB)) hc' (hT1.b hW1 (h2 _ rB))
/-- The sender waits. -/
theorem ends_waitB {v : Value} (ih : OpnI P Low c z Post vs) {A : OwnP} {a : Goroutine} {w : World} (hA : GoesI P true (RelO Low (some c)) (DelO Low (some c)) (StopAI P Low c z (FinI P Post) (v :: vs)) A a w) :
    ∀ (w₁ : World) (B : OwnP) (g₂ : Goroutine) (z' : Value) (sl : Option (Nat × Nat)) (t : Trace) (s r : Nat) (tm : Bool) (p : Nat), RelO Low (some c) A w w₁ → (∀ w₂, RelO Low (some c) B w₁ w₂ → SendsI P Low c vs B (Conc.served g₂ undef) w₂) → Tw Low c A B w₁ → w₁.heap[c]? = some (.chan 0 #[] false s r tm) →
      Tr2 A B w₁.heap.size t p → EndsG P Post (duo a (parked g₂ #[scase c v z'] .send) w₁ sl) t := by
  have hra := hA.running (termsO Low (some c)) (fun _ _ _ h => StopAI.running h)
  induction hA with
  | stop hstop =>
    rename_i A a w
    intro w₁ B g₂ z' sl t s r tm p hR hnext hW hc hT
    have awB : awake (parked g₂ #[scase c v z'] .send) := awake_of (by simp [parked])
    obtain ⟨d, sl', hmv⟩ := duo_pick (P := P) (w := w₁) (sl := sl) (awake_of (.inl hra)) awB (.inl hra)
    have rA : RelO Low (some c) A w (w₁.at d) := hR.trans (RelO.at _ _ _ _ _)
    have rB : RelO Low (some c) B w₁ (w₁.at d) := RelO.at _ _ _ _ _
    have hW1 : Tw Low c A B (w₁.at d) := hW.same rfl
    have hT1 : Tr2 A B (w₁.at d).heap.size t p := hT
    have hc1 : (w₁.at d).heap[c]? = some (.chan 0 #[] false s r tm) := hc
    rcases hmv with ⟨_, hst⟩ | ⟨hrb, _⟩
    · have hat := hstop _ rA
      obtain ⟨es, hcomm, hes⟩ := hat.comm
      have hT2 := hT1.add0 (fn := a.frame.fn) (pos := a.frame.place) hW1.low (fun k ha => hW1.lt k (.inl ha)) hW1.lows hes
      have pA : RelO Low (some c) A (w₁.at d) ((w₁.at d).passed c s r tm) := RelO.put _ _ _ _ _
      have pB : RelO Low (some c) B (w₁.at d) ((w₁.at d).passed c s r tm) := RelO.put _ _ _ _ _
      have hW2 : Tw Low c A B ((w₁.at d).passed c s r tm) := hW1.same (by simp [World.passed])
      have hs2 : ((w₁.at d).passed c s r tm).heap.size = (w₁.at d).heap.size := by simp [World.passed]
      refine .next (hst.trans (runT_recv_meetsV hcomm hc1 rfl)) ?_
      rw [← Array.append_assoc]
      exact ih A B _ _ _ sl' _ (s + 1) (r + 1) tm p hW2 (heap_put hc1) (hat.cons _ pA) (hnext _ (rB.trans pB)) (by rw [hs2]; exact hT2.addComm _ (by simp [MemAct.touch?]))
    · simp [parked] at hrb
  | step hs' g' w' es O' h1 h2 h3 ihA =>
    rename_i A a w
    intro w₁ B g₂ z' sl t s r tm p hR hnext hW hc hT
    have awB : awake (parked g₂ #[scase c v z'] .send) := awake_of (by simp [parked])
    obtain ⟨d, sl', hmv⟩ := duo_pick (P := P) (w := w₁) (sl := sl) (awake_of (.inl hra)) awB (.inl hra)
    have rA : RelO Low (some c) A w (w₁.at d) := hR.trans (RelO.at _ _ _ _ _)
    have rB : RelO Low (some c) B w₁ (w₁.at d) := RelO.at _ _ _ _ _
    have hW1 : Tw Low c A B (w₁.at d) := hW.same rfl
    have hT1 : Tr2 A B (w₁.at d).heap.size t p := hT
    have hc1 : (w₁.at d).heap[c]? = some (.chan 0 #[] false s r tm) := hc
    rcases hmv with ⟨_, hst⟩ | ⟨hrb, _⟩
    · have hc' := (hW1.chanA (h2 _ rA)).trans hc1
      refine .next (hst.trans (runT_duo0 (h1 _ rA))) ?_
      rw [parkedB_woken hc']
      exact ihA _ rA ((h3 _ rA).running (termsO Low (some c)) (fun _ _ _ h => StopAI.running h)) _ B g₂ z' sl' _ s r tm p (RelO.refl _ _ _ _) (fun w₂ h₂ => hnext w₂ ((rB.trans (hW1.relB (h2 _ rA))).trans h₂)) (hW1.a (h2 _ rA)) hc' (hT1.a hW1 (h2 _ rA))
    · simp [parked] at hrb
/-- Both go; goroutine 0's move is seen to. -/
theorem ends_goB (ih : ∀ v vs', vs = v :: vs' → OpnI P Low c z Post vs') {A : OwnP} {a : Goroutine} {wa : World} (hA : GoesI P true (RelO Low (some c)) (DelO Low (some c)) (StopAI P Low c z (FinI P Post) vs) A a wa)
    (move : ∀ (w₁ : World) (B : OwnP) (b : Goroutine) (sl : Option (Nat × Nat)) (t : Trace) (s r : Nat) (tm : Bool) (p : Nat), RelO Low (some c) A wa w₁ → GoesI P false (RelO Low (some c)) (DelO Low (some c)) (StopBI P Low c vs) B b w₁ → Tw Low c A B w₁ → w₁.heap[c]? = some (.chan 0 #[] false s r tm) → Tr2 A B w₁.heap.size t p →
      ∃ m' ops, runT P (duo a b w₁ sl) 0 = (.next m', ops) ∧ EndsG P Post m' (t ++ ops))
    {B : OwnP} {b : Goroutine} {w : World} (hB : GoesI P false (RelO Low (some c)) (DelO Low (some c)) (StopBI P Low c vs) B b w) :
    ∀ (w₁ : World) (sl : Option (Nat × Nat)) (t : Trace) (s r : Nat) (tm : Bool) (p : Nat), RelO Low (some c) A wa w₁ → RelO Low (some c) B w w₁ → Tw Low c A B w₁ → w₁.heap[c]? = some (.chan 0 #[] false s r tm) →
      Tr2 A B w₁.heap.size t p → EndsG P Post (duo a b w₁ sl) t := by
  have hra := hA.running (termsO Low (some c)) (fun _ _ _ h => StopAI.running h)
  have hrb := hB.running (termsO Low (some c)) (fun _ _ _ h => StopBI.running h)
  induction hB with
  | stop hstop =>
    rename_i B b w
    intro w₁ sl t s r tm p hRA hRB hW hc hT
    obtain ⟨d, sl', hmv⟩ := duo_pick (P := P) (w := w₁) (sl := sl) (awake_of (.inl hra)) (awake_of (.inl hrb)) (.inl hra)
    have rA : RelO Low (some c) A wa (w₁.at d) := hRA.trans (RelO.at _ _ _ _ _)
    have rB : RelO Low (some c) B w (w₁.at d) := hRB.trans (RelO.at _ _ _ _ _)
    have hW1 : Tw Low c A B (w₁.at d) := hW.same rfl
    have hT1 : Tr2 A B (w₁.at d).heap.size t p := hT
    have hc1 : (w₁.at d).heap[c]? = some (.chan 0 #[] false s r tm) := hc
    rcases hmv with ⟨_, hst⟩ | ⟨_, hst⟩
    · obtain ⟨m', ops, h1, h2⟩ := move _ B b sl' t s r tm p rA (.stop fun w₂ h₂ => hstop w₂ (rB.trans h₂)) hW1 hc1 hT1
      exact .next (hst.trans h1) h2
    · have hat := hstop _ rB
      cases vs with
      | nil =>
        obtain ⟨m', ops, h1, h2⟩ := ends_close (sl := sl') hW1 hc1 hat (.inl (hA.rely (termsO Low (some c)) rA)) hT1
        exact .next (hst.trans h1) h2
      | cons v vs' =>
        obtain ⟨_, g₂, z', es, hcm, hes, hnext⟩ := hat
        have hT2 := hT1.add1 (fn := b.frame.fn) (pos := b.frame.place) hW1.low hW1.dis (fun k hb => hW1.lt k (.inr hb)) hW1.lows hes
        have has : a.status ≠ .blocked := by rw [hra]; simp
        refine .next (hst.trans (runT_send_waits hcm hc1 has)) ?_
        exact ends_waitB (ih v vs' rfl) (hA.rely (termsO Low (some c)) rA) _ B g₂ z' sl' _ s r tm p (RelO.refl _ _ _ _) hnext hW1 hc1 hT2
  | step hs' g' w' es O' h1 h2 h3 ihB =>
    rename_i B b w
    intro w₁ sl t s r tm p hRA hRB hW hc hT
    obtain ⟨d, sl', hmv⟩ := duo_pick (P := P) (w := w₁) (sl := sl) (awake_of (.inl hra)) (awake_of (.inl hrb)) (.inl hra)
    have rA : RelO Low (some c) A wa (w₁.at d) := hRA.trans (RelO.at _ _ _ _ _)
    have rB : RelO Low (some c) B w (w₁.at d) := hRB.trans (RelO.at _ _ _ _ _)
    have hW1 : Tw Low c A B (w₁.at d) := hW.same rfl
    have hT1 : Tr2 A B (w₁.at d).heap.size t p := hT
    have hc1 : (w₁.at d).heap[c]? = some (.chan 0 #[] false s r tm) := hc
    rcases hmv with ⟨_, hst⟩ | ⟨_, hst⟩
    · obtain ⟨m', ops, e1, e2⟩ := move _ B b sl' t s r tm p rA ((GoesI.step hs' g' w' es O' h1 h2 h3).rely (termsO Low (some c)) rB) hW1 hc1 hT1
      exact .next (hst.trans e1) e2
    · have hc' := (hW1.chanB (h2 _ rB)).trans hc1
      refine .next (hst.trans (runT_duo1 (h1 _ rB))) ?_
      rw [woken_running hra]
      exact ihB _ rB ((h3 _ rB).running (termsO Low (some c)) (fun _ _ _ h => StopBI.running h)) _ sl' _ s r tm p (rA.trans (hW1.relA (h2 _ rB))) (RelO.refl _ _ _ _) (hW1.b (h2 _ rB)) hc' (hT1.b hW1 (h2 _ rB))
/-- Both go. -/
theorem ends_go (ih : ∀ v vs', vs = v :: vs' → OpnI P Low c z Post vs') {A : OwnP} {a : Goroutine} {w : World} (hA : GoesI P true (RelO Low (some c)) (DelO Low (some c)) (StopAI P Low c z (FinI P Post) vs) A a w) :
    ∀ (w₁ : World) (B : OwnP) (b : Goroutine) (sl : Option (Nat × Nat)) (t : Trace) (s r : Nat) (tm : Bool) (p : Nat), RelO Low (some c) A w w₁ → GoesI P false (RelO Low (some c)) (DelO Low (some c)) (StopBI P Low c vs) B b w₁ → Tw Low c A B w₁ → w₁.heap[c]? = some (.chan 0 #[] false s r tm) →
      Tr2 A B w₁.heap.size t p → EndsG P Post (duo a b w₁ sl) t := by
  induction hA with
  | stop hstop =>
    rename_i A a w
    intro w₁ B b sl t s r tm p hR hB hW hc hT
    refine ends_goB ih (GoesI.stop hstop) (fun w₂ B₂ b₂ sl₂ t₂ s₂ r₂ tm₂ p₂ hR₂ hB₂ hW₂ hc₂ hT₂ => ?_) hB w₁ sl t s r tm p hR (RelO.refl _ _ _ _) hW hc hT
    have hat := hstop _ hR₂
    obtain ⟨es, hcomm, hes⟩ := hat.comm
    have hT3 := hT₂.add0 (fn := a.frame.fn) (pos := a.frame.place) hW₂.low (fun k ha => hW₂.lt k (.inl ha)) hW₂.lows hes
    have hbs : b₂.status ≠ .blocked := by rw [hB₂.running (termsO Low (some c)) (fun _ _ _ h => StopBI.running h)]; simp
    exact ⟨_, _, runT_recv_waitsV hcomm hc₂ hbs, ends_waitA ih hB₂ _ A a sl₂ _ s₂ r₂ tm₂ p₂ (RelO.refl _ _ _ _) (fun w₃ h₃ => hstop _ (hR₂.trans h₃)) hW₂ hc₂ hT3⟩
  | step hs' g' w' es O' h1 h2 h3 ihA =>
    rename_i A a w
    intro w₁ B b sl t s r tm p hR hB hW hc hT
    refine ends_goB ih (GoesI.step hs' g' w' es O' h1 h2 h3) (fun w₂ B₂ b₂ sl₂ t₂ s₂ r₂ tm₂ p₂ hR₂ hB₂ hW₂ hc₂ hT₂ => ?_) hB w₁ sl t s r tm p hR (RelO.refl _ _ _ _) hW hc hT
    have hc' := (hW₂.chanA (h2 _ hR₂)).trans hc₂
    refine ⟨_, _, runT_duo0 (h1 _ hR₂), ?_⟩
    rw [woken_running (hB₂.running (termsO Low (some c)) (fun _ _ _ h => StopBI.running h))]
    exact ihA _ hR₂ _ B₂ b₂ sl₂ _ s₂ r₂ tm₂ p₂ (RelO.refl _ _ _ _) (hB₂.rely (termsO Low (some c)) (hW₂.relB (h2 _ hR₂))) (hW₂.a (h2 _ hR₂)) hc' (hT₂.a hW₂ (h2 _ hR₂))
end
theorem ends_opn : ∀ vs, OpnI P Low c z Post vs := by
  intro vs
  induction vs with
  | nil => exact fun A B a b w sl t s r tm p hW hc hA hB hT => ends_go (fun _ _ e => by cases e) ((recvsI_iff ..).1 hA) w B b sl t s r tm p (RelO.refl _ _ _ _) ((sendsI_iff ..).1 hB) hW hc hT
  | cons v vs ih => exact fun A B a b w sl t s r tm p hW hc hA hB hT => ends_go (fun _ _ e => by injection e with _ e; subst e; exact ih) ((recvsI_iff ..).1 hA) w B b sl t s r tm p (RelO.refl _ _ _ _) ((sendsI_iff ..).1 hB) hW hc hT
end
section
variable {P : Program} {Post : Value → World → Prop}
variable (P Post) in
/-- The stop of the first walk: a go statement; behind it parent and child follow the two scripts for the same values. -/
def AtGoI (_ : OwnP) (a : Goroutine) (w : World) : Prop :=
  a.status = .running ∧ ∃ (a' child : Goroutine) (w' : World) (es : Array Event) (Low c : Nat) (A B : OwnP) (z : Value) (vs : List Value) (s r : Nat) (tm : Bool),
    stepG P true a w = .spawn a' child w' es ∧ (∀ e ∈ es, ∀ m, e.loc = .mark m → Neutral m) ∧ Tw Low c A B w' ∧ w'.heap[c]? = some (.chan 0 #[] false s r tm) ∧
    RecvsI P Low c z (FinI P Post) vs A a' w' ∧ SendsI P Low c vs B child w'
theorem forkedI_new {own : Loc → Option Nat} {u : Trace} {x y : MemOp} (hw : Wordless u) (h0 : ∀ op ∈ u, op.g = 0) (hx : x.g = 0 ∧ x.act = .go 1) (hy : y.g = 1 ∧ y.act = .start) : Forked2 own ((u.push x).push y) u.size := by
  have h := forked_new (Mine := fun _ => False) hw h0 hx hy
  refine ⟨h.wordless, h.go, h.start, h.early, fun i op hi hlt => ?_⟩
  have := lt_size_of_getElem? hi
  simp only [Array.size_push] at this
  omega
/-- From the entry to the return: alone up to the go statement, or to the return without one. -/
theorem ends_solo {O : OwnP} {a : Goroutine} {w : World} (h : GoesI P true RelF DelF (fun O a w => AtGoI P Post O a w ∨ AtEndI P Post O a w) O a w) : ∀ (u : Trace), Wordless u → (∀ op ∈ u, op.g = 0) → EndsG P Post (solo a w) u := by
  have hra := h.running termsF (fun _ _ _ h => h.elim (fun h => h.1) fun h => h.1)
  induction h with
  | stop hstop =>
    rename_i O a w
    intro u hw h0
    rcases hstop w (termsF.refl O w) with hat | hat
    · obtain ⟨_, a', child, w', es, Low, c, A, B, z, vs, s, r, tm, hsp, hes, hW, hc, hA, hB⟩ := hat
      refine .next ((stepT_solo hra).trans (runT_solo_spawn hsp)) ?_
      refine ends_opn vs A B a' child w' none _ s r tm (u ++ MemOp.ofEvents 0 a.frame.fn a.frame.place es).size hW hc hA hB ⟨?_, fun i op x k hi hlt _ _ => ?_⟩
      · rw [Array.append_push, Array.append_push]
        exact forkedI_new (hw.append (early0 hes).1) (fun op hop => (Array.mem_append.1 hop).elim (h0 op) ((early0 hes).2 op)) ⟨rfl, rfl⟩ ⟨rfl, rfl⟩
      · have := lt_size_of_getElem? hi
        simp only [Array.size_push, Array.size_append] at this
        simp only [Array.size_append] at hlt
        omega
    · obtain ⟨_, v, es, hend, hes, hpost⟩ := hat
      have hst : stepT P (solo a w) = (.ended (.done v) w, MemOp.ofEvents 0 a.frame.fn a.frame.place es) := by
        rw [stepT_solo hra]
        simp [runT, solo, Array.swapAt!, Array.swapAt, hend, GStep.es]
      have h0' : ∀ op ∈ u ++ MemOp.ofEvents 0 a.frame.fn a.frame.place es, op.g = 0 := fun op hop => (Array.mem_append.1 hop).elim (h0 op) ((early0 hes).2 op)
      refine .done hst ⟨v, rfl, hpost, ?_, ?_, ⟨?_, rfl⟩, ?_⟩
      · rintro said ⟨i, j, hij, ⟨x, y, hx, hy, _⟩, hn, _⟩
        obtain ⟨oi, hoi, _⟩ := touch_of hx
        obtain ⟨oj, hoj, _⟩ := touch_of hy
        exact hn (hb_po hij hoi hoj (by rw [h0' _ (mem_of_getElem? hoi), h0' _ (mem_of_getElem? hoj)]))
      · intro i g hg hne hcount
        obtain ⟨x, hx, _, _⟩ := hcount
        obtain ⟨oi, hoi, _⟩ := touch_of hx
        have hgi : oi.g = g := by simpa [Trace.g?, hoi] using hg
        exact absurd (by rw [← hgi]; exact h0' _ (mem_of_getElem? hoi)) hne
      · intro g hg; simp [solo] at hg
      · intro i g hg hne
        match i, hg, hne with
        | 0, _, hne => exact absurd rfl hne
        | i + 1, hg, _ => simp [solo] at hg
  | step hs g' w' es O' h1 h2 h3 ih =>
    rename_i O a w
    intro u hw h0
    have r : RelF O w w := termsF.refl O w
    refine .next ((stepT_solo hra).trans (runT_solo_go (h1 w r))) ?_
    exact ih w r ((h3 w r).running termsF (fun _ _ _ h => h.elim (fun h => h.1) fun h => h.1)) _ (hw.append (early0 (h2 w r)).1) (fun op hop => (Array.mem_append.1 hop).elim (h0 op) ((early0 (h2 w r)).2 op))
end
end Go.Proofs.Ytnbgfffcialfkaa
