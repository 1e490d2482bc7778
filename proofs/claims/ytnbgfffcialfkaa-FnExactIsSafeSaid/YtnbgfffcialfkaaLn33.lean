/-
  A contract of a function of plain code, proved of a goroutine that is alone, holds where the draws of others stand between its steps. No condition.
  What is plain code here: all but the survey, the sender and what calls them. No condition.
-/
import Derived.Test.YtnbgfffcialfkaaLn32
import Derived.Test.YtnbgfffcialfkaaLn03
import Derived.Test.YtnbgfffcialfkaaLn18
import Derived.Test.YtnbgfffcialfkaaLn20
set_option linter.unusedSimpArgs false
set_option linter.unusedVariables false
namespace Go.Proofs.Ytnbgfffcialfkaa
open Go Go.Conc
set_option linter.unusedVariables false

/-- A frame that ends the run where it is come back to. -/
def shutFr (P : Program) : Frame := { fn := P.funcs.size, tmps := #[], todo := [.call { target := .nil, args := #[] } false "fmt's door, shut" #[]], defers := [], mode := .run, kind := .normal }
section
variable {P : Program} {F : FuncId → Bool}
theorem lone_next {fr fr' : Frame} {cs cs' : List Frame} {w w' : World} {es : Array Event} (h : stepG P true (G fr cs) w = .go (G fr' cs') w' es) : step P (lone fr cs w) = .next (lone fr' cs' w') :=
  step_lone_go (by change (stepG P true (G fr cs) w).bare = _; rw [h]; rfl)
theorem lone_end {fr : Frame} {cs : List Frame} {w w' : World} {o : Outcome} {es : Array Event} (h : stepG P true (G fr cs) w = .ended o w' es) : step P (lone fr cs w) = .ended o w' :=
  step_lone_ended (by change (stepG P true (G fr cs) w).bare = _; rw [h]; rfl)
theorem shut_catches (c : List PanicEntry) : ((shutFr P).raise c).catches P = true := by
  simp [Frame.catches, Frame.raise, shutFr]
/-- A panic runs down to the frame that ends the run. -/
theorem bad_never : ∀ (n : Nat) (L : List Frame) (fr : Frame) (w : World) (chain : List PanicEntry) (m : Machine), fr.mode = .panicking chain → fr.defers = [] → (∀ c ∈ L, c.defers = [] ∧ c.mode = .run) →
    runN P n (lone fr (L ++ [shutFr P]) w) = .next m → ∃ fr' cs' w' chain', m = lone fr' cs' w' ∧ fr'.mode = .panicking chain' := by
  intro n
  induction n with
  | zero => intro L fr w chain m hm hd hL h; simp only [runN] at h; cases h; exact ⟨_, _, _, _, rfl, hm⟩
  | succ n ih =>
    intro L fr w chain m hm hd hL h
    have hu : ∀ cs, stepG P true (G fr cs) w = unwind P true fr cs none w := fun cs => by simp [stepG, G, hm]
    by_cases hc : fr.catches P = true
    · have : ∃ o w', step P (lone fr (L ++ [shutFr P]) w) = .ended o w' := ⟨.unsupported (.noEntry "a panic or Goexit out of a method that fmt calls behind a cut's door") (fr.pos P), w, lone_end (es := #[]) (by rw [hu]; simp [unwind, hd, hm, hc])⟩
      obtain ⟨o, w', e⟩ := this
      simp [runN, e] at h
    · cases L with
      | cons c L =>
        have hcc := hL c (List.mem_cons_self ..)
        have e : step P (lone fr (c :: L ++ [shutFr P]) w) = .next (lone (c.raise chain) (L ++ [shutFr P]) w) := lone_next (es := #[]) (by rw [hu]; simp [unwind, hd, hm, hc, G])
        simp only [runN, e] at h
        exact ih L (c.raise chain) w chain m (by simp [Frame.raise, hcc.2]) (by simp [Frame.raise, hcc.2, hcc.1]) (fun x hx => hL x (List.mem_cons_of_mem _ hx)) h
      | nil =>
        have e : step P (lone fr ([] ++ [shutFr P]) w) = .next (lone ((shutFr P).raise chain) [] w) := lone_next (es := #[]) (by rw [hu]; simp [unwind, hd, hm, hc, G])
        simp only [runN, e] at h
        cases n with
        | zero => simp only [runN] at h; cases h; exact ⟨_, _, _, chain, rfl, rfl⟩
        | succ n =>
          have e2 : ∃ o w', step P (lone ((shutFr P).raise chain) [] w) = .ended o w' := ⟨_, _, lone_end (o := .unsupported (.noEntry "a panic or Goexit out of a method that fmt calls behind a cut's door") (((shutFr P).raise chain).pos P)) (w' := w) (es := #[]) (by
            have := shut_catches (P := P) chain
            simp only [stepG, G, Frame.raise, shutFr] at this ⊢
            simp [unwind, this])⟩
          obtain ⟨o, w', e2⟩ := e2
          simp [runN, e2] at h
/-- Come back to, it ends the run. -/
theorem shut_never (n : Nat) (v : Value) (w : World) (m : Machine) (h : runN P n (lone ((shutFr P).finish v) [] w) = .next m) : m = lone ((shutFr P).finish v) [] w := by
  cases n with
  | zero => simp only [runN] at h; cases h; rfl
  | succ n =>
    have e : ∃ o w', step P (lone ((shutFr P).finish v) [] w) = .ended o w' := by
      have hn : Extern.next "fmt's door, shut" = none := by decide
      exact ⟨_, _, lone_end (es := #[]) (by simp [stepG, stepG.exec, G, shutFr, Frame.finish, hn]; exact ⟨rfl, rfl⟩)⟩
    obtain ⟨o, w', e⟩ := e
    simp [runN, e] at h
/-- A state on the way. -/
structure WaySt where
  fr : Frame
  L : List Frame
  w : World
/-- What stands behind a state on the way, at the draws d: another one, or an end. -/
def WayNext (P : Program) (F : FuncId → Bool) (Ok : WaySt → Prop) (s : WaySt) (r : Nat × Nat × Option {s : WaySt // Ok s}) : Prop :=
  match r.2.2 with
  | some s' => ∃ es, OutA P F s.fr s.L (s.w.at r.1) r.2.1 s'.1.fr s'.1.L s'.1.w es
  | none => (s.L = [] ∧ s.fr.mode = .returning) ∨ OutBad P s.fr s.L (s.w.at r.1) r.2.1
theorem lone_inj {fr fr' : Frame} {cs cs' : List Frame} {w w' : World} (h : lone fr cs w = lone fr' cs' w') : fr = fr' ∧ cs = cs' ∧ w = w' := by
  simp only [lone, Machine.mk.injEq, Array.mk.injEq, List.cons.injEq, Goroutine.mk.injEq, and_true] at h
  exact ⟨h.2.1, h.2.2, h.1⟩
theorem append_one {L : List Frame} {c : Frame} (h : L ++ [c] = [c]) : L = [] := by
  cases L with
  | nil => rfl
  | cons a l => simp at h
/-- Along a way that never comes well to its end there is a tape on which the goroutine, alone, never does either. -/
theorem no_way (Ok : WaySt → Prop) (τ0 : Nat → Question → Nat) (hOk : ∀ s, Ok s → RunSt P F s.fr s.L ∧ s.w.tape = τ0) (hnext : ∀ s : {s : WaySt // Ok s}, ∃ r, WayNext P F Ok s.1 r) (s0 : {s : WaySt // Ok s}) (hL0 : s0.1.L = []) :
    ∃ τ, ∀ N fr' w' v, runN P N (lone s0.1.fr [shutFr P] (reW τ 0 s0.1.w)) = .next (lone fr' [shutFr P] w') → fr'.leaving P w' (.returned v) → ∃ s, Ok s ∧ s.fr = fr' ∧ s.L = [] ∧ ∃ n, w' = reW τ n s.w := by
  classical
  let nx : {s : WaySt // Ok s} → Nat × Nat × Option {s : WaySt // Ok s} := fun s => (hnext s).choose
  have hnx : ∀ s, WayNext P F Ok s.1 (nx s) := fun s => (hnext s).choose_spec
  let p : Nat → Option {s : WaySt // Ok s} := fun k => Nat.rec (some s0) (fun _ o => o.bind fun s => (nx s).2.2) k
  let pos : Nat → Nat := fun k => Nat.rec 0 (fun k acc => acc + ((p k).map fun s => (nx s).2.1).getD 0) k
  have p0 : p 0 = some s0 := rfl
  have pS : ∀ k, p (k + 1) = (p k).bind fun s => (nx s).2.2 := fun _ => rfl
  have posS : ∀ k s, p k = some s → pos (k + 1) = pos k + (nx s).2.1 := fun k s h => by
    show pos k + ((p k).map fun s => (nx s).2.1).getD 0 = _
    rw [h]; rfl
  have posM1 : ∀ k, pos k ≤ pos (k + 1) := fun k => Nat.le_add_right _ _
  have posM : ∀ k l, k ≤ l → pos k ≤ pos l := by
    intro k l h
    induction h with
    | refl => exact Nat.le_refl _
    | step _ ih => exact Nat.le_trans ih (posM1 _)
  let Here : Nat → Nat × {s : WaySt // Ok s} → Prop := fun x r => p r.1 = some r.2 ∧ pos r.1 ≤ x ∧ x < pos r.1 + (nx r.2).2.1
  have uniq : ∀ x r r', Here x r → Here x r' → r = r' := by
    rintro x ⟨k, s⟩ ⟨l, t⟩ ⟨hs, h1, h2⟩ ⟨ht, h3, h4⟩
    simp only at hs h1 h2 ht h3 h4
    have e : k = l := by
      rcases Nat.lt_trichotomy k l with h | h | h
      · have := posM (k + 1) l h; rw [posS k s hs] at this; omega
      · exact h
      · have := posM (l + 1) k h; rw [posS l t ht] at this; omega
    subst e
    rw [hs] at ht
    rw [Option.some.inj ht]
  let τ : Nat → Question → Nat := fun x q => if h : ∃ r, Here x r then τ0 ((nx h.choose.2).1 + (x - pos h.choose.1)) q else 0
  have hτ : ∀ k s x q, p k = some s → pos k ≤ x → x < pos k + (nx s).2.1 → τ x q = τ0 ((nx s).1 + (x - pos k)) q := by
    intro k s x q hs h1 h2
    have hh : Here x (k, s) := ⟨hs, h1, h2⟩
    have hex : ∃ r, Here x r := ⟨_, hh⟩
    have e1 : hex.choose = (k, s) := uniq x _ _ hex.choose_spec hh
    show (if h : ∃ r, Here x r then τ0 ((nx h.choose.2).1 + (x - pos h.choose.1)) q else 0) = _
    rw [dif_pos hex, e1]
  have hmatch : ∀ k s, p k = some s → MatchT (s.1.w.at (nx s).1) (nx s).2.1 τ (pos k) := by
    intro k s hs x q h1 h2
    rw [hτ k s x q hs h1 h2]
    show _ = s.1.w.tape ((nx s).1 + (x - pos k)) q
    rw [(hOk s.1 s.2).2]
  have hrun : ∀ k s, p k = some s → runN P k (lone s0.1.fr [shutFr P] (reW τ 0 s0.1.w)) = .next (lone s.1.fr (s.1.L ++ [shutFr P]) (reW τ (pos k) s.1.w)) := by
    intro k
    induction k with
    | zero =>
      intro s hs
      rw [p0] at hs
      cases hs
      rw [hL0]
      rfl
    | succ k ih =>
      intro s hs
      rw [pS] at hs
      cases hk : p k with
      | none => rw [hk] at hs; cases hs
      | some t =>
        rw [hk] at hs
        simp only [Option.bind_some] at hs
        have hn := hnx t
        unfold WayNext at hn
        rw [hs] at hn
        obtain ⟨es, hA⟩ := hn
        have h1 : stepG P true (G t.1.fr (t.1.L ++ [shutFr P])) (reW τ (pos k) t.1.w) = .go (G s.1.fr (s.1.L ++ [shutFr P])) (reW τ (pos k + (nx t).2.1) s.1.w) es := hA.solo τ (pos k) (hmatch k t hk) [shutFr P]
        rw [runN_add, ih t hk]
        simp only [runN, lone_next h1]
        rw [posS k t hk]
  refine ⟨τ, fun N fr' w' v hN hlv => ?_⟩
  cases hp : p N with
  | some s =>
    have := (hrun N s hp).symm.trans hN
    obtain ⟨h1, h2, h3⟩ := lone_inj (Stepped.next.inj this)
    exact ⟨s.1, s.2, h1, append_one h2, pos N, h3.symm⟩
  | none =>
    exfalso
    have hex : ∃ i s, i < N ∧ p i = some s ∧ p (i + 1) = none := by
      have key : ∀ N, p N = none → ∃ i s, i < N ∧ p i = some s ∧ p (i + 1) = none := by
        intro N
        induction N with
        | zero => intro h; rw [p0] at h; cases h
        | succ N ih =>
          intro h
          cases hq : p N with
          | none => obtain ⟨i, s, h1, h2⟩ := ih hq; exact ⟨i, s, by omega, h2⟩
          | some s => exact ⟨N, s, by omega, hq, h⟩
      exact key N hp
    obtain ⟨i, s, hlt, hs, hnone⟩ := hex
    rw [pS, hs] at hnone
    simp only [Option.bind_some] at hnone
    have hn := hnx s
    unfold WayNext at hn
    rw [hnone] at hn
    simp only at hn
    obtain ⟨n, rfl⟩ : ∃ n, N = i + (n + 1) := ⟨N - i - 1, by omega⟩
    rw [runN_add, hrun i s hs] at hN
    simp only [] at hN
    have hst := (hOk s.1 s.2).1
    rcases hn with ⟨hL, hm⟩ | hb
    · have hu : ∀ cs w, stepG P true (G s.1.fr cs) w = unwind P true s.1.fr cs none w := fun cs w => by simp [stepG, G, hm]
      rw [hL, List.nil_append] at hN
      have hfin : (∃ v w'', step P (lone s.1.fr [shutFr P] (reW τ (pos i) s.1.w)) = .next (lone ((shutFr P).finish v) [] w'')) ∨ ∃ o w'', step P (lone s.1.fr [shutFr P] (reW τ (pos i) s.1.w)) = .ended o w'' := by
        have hd := hst.pl.defers
        have hk := hst.pl.kind
        cases hf : P.funcs[s.1.fr.fn]? with
        | none => exact .inl ⟨s.1.fr.tmps.getD 0 undef, _, lone_next (es := #[]) (by rw [hu]; simp [unwind, hd, hm, hf, doReturn, hk, G]; rfl)⟩
        | some f =>
          have hok := fine_run (P := P) (fine_results f s.1.fr.tmps) (reW τ (pos i) s.1.w)
          cases hr : (results f s.1.fr.tmps).run P (reW τ (pos i) s.1.w) with
          | ok v w'' => exact .inl ⟨v, w'', lone_next (by rw [hu]; simp [unwind, hd, hm, hf, doReturn, hk, G, hr, GStep.after]; rfl)⟩
          | halt x w'' =>
            rw [hr] at hok
            have hx := hok.1
            refine .inr ?_
            cases x <;> simp only [NiceHalt] at hx
            · exact ⟨_, _, lone_end (o := .stuck "return: the result variables cannot be read" (s.1.fr.pos P)) (w' := w'') (by rw [hu]; simp [unwind, hd, hm, hf, hr, GStep.after]; rfl)⟩
            · exact ⟨_, _, lone_end (o := .stuck "return: the result variables cannot be read" (s.1.fr.pos P)) (w' := w'') (by rw [hu]; simp [unwind, hd, hm, hf, hr, GStep.after]; rfl)⟩
            · rename_i y
              exact ⟨_, _, lone_end (o := .stuck y (s.1.fr.pos P)) (w' := w'') (by rw [hu]; simp [unwind, hd, hm, hf, hr, GStep.after]; rfl)⟩
      rcases hfin with ⟨v', w'', e⟩ | ⟨o, w'', e⟩
      · simp only [runN, e] at hN
        have := shut_never n v' w'' _ hN
        obtain ⟨_, h2, _⟩ := lone_inj this
        cases h2
      · simp [runN, e] at hN
    · rcases hb τ (pos i) (hmatch i s hs) [shutFr P] with ⟨fr'', w'', es, chain, e1, e2, e3⟩ | ⟨o, w'', es, e1⟩
      · have e4 : step P (lone s.1.fr (s.1.L ++ [shutFr P]) (reW τ (pos i) s.1.w)) = .next (lone fr'' (s.1.L ++ [shutFr P]) w'') := lone_next e1
        simp only [runN, e4] at hN
        obtain ⟨f1, cs1, w1, ch1, h1, h2⟩ := bad_never n s.1.L fr'' w'' chain _ e2 e3 (fun c hc => ⟨(hst.wait c hc).defers, (hst.wait c hc).mode⟩) hN
        obtain ⟨h3, _, _⟩ := lone_inj h1
        rw [← h3] at h2
        rw [hlv.1] at h2
        cases h2
      · have e4 : step P (lone s.1.fr (s.1.L ++ [shutFr P]) (reW τ (pos i) s.1.w)) = .ended o w'' := lone_end e1
        simp [runN, e4] at hN
/-- From alone to beside others' draws. -/
theorem callsF_full (hP : PlainF P F) (hE : NoEarly P) {f : FuncId} (hf : F f = true) {args : Array Value} {O : OwnP} {w : World} {R : Value → World → Prop} (hR : ∀ v w τ n, R v w → R v (reW τ n w))
    (h : ∀ τ n, Calls P f args (reW τ n w) fun e w' => ∃ v, e = .returned v ∧ R v w') : CallsI P true RelF DelF f args O w fun v O' w' => O' = O ∧ w'.tape = w.tape ∧ R v w' := by
  refine ⟨hP.ent hf, fun c cs Stop hk => ?_⟩
  refine Classical.byContradiction fun hno => ?_
  let Ok : WaySt → Prop := fun s => (RunSt P F s.fr s.L ∧ s.w.tape = w.tape) ∧ ¬ GoesI P true RelF DelF Stop O (G s.fr (s.L ++ c :: cs)) s.w
  have hnext : ∀ s : {s : WaySt // Ok s}, ∃ r, WayNext P F Ok s.1 r := by
    rintro ⟨s, ⟨hst, htape⟩, hng⟩
    by_cases hall : ∀ d, ∃ j fr' L' w' es, OutA P F s.fr s.L (s.w.at d) j fr' L' w' es ∧ GoesI P true RelF DelF Stop O (G fr' (L' ++ c :: cs)) w'
    · exfalso
      refine hng (GoesI.mk rfl fun w₁ hw₁ => ?_)
      obtain ⟨d, rfl⟩ := hw₁
      obtain ⟨j, fr', L', w', es, hA, hg⟩ := hall d
      exact ⟨_, _, _, O, hA.real _, hA.clean, hg⟩
    · obtain ⟨d, hd⟩ := Classical.not_forall.1 hall
      rcases step_two hP hE hst (s.w.at d) with ⟨j, fr', L', w', es, hA⟩ | hB | ⟨j, hC⟩
      · exact ⟨(d, j, some ⟨⟨fr', L', w'⟩, ⟨hA.st, hA.tape.trans htape⟩, fun hg => hd ⟨j, fr', L', w', es, hA, hg⟩⟩), es, hA⟩
      · exact ⟨(d, 0, none), .inl hB⟩
      · exact ⟨(d, j, none), .inr hC⟩
  have hst0 : RunSt P F (Frame.enter P f args .normal) [] := by
    obtain ⟨fn, x, h1, h2, h3, h4⟩ := hP f hf
    refine ⟨⟨rfl, rfl, rfl, ?_⟩, .inl rfl, fun c hc => by cases hc⟩
    intro y hy
    simp only [Frame.enter, h1, h3, Option.bind_some, Option.getD_some, List.mem_singleton] at hy
    subst hy
    exact h4
  obtain ⟨τ, hτ⟩ := no_way Ok w.tape (fun s hs => hs.1) hnext ⟨⟨Frame.enter P f args .normal, [], w⟩, ⟨hst0, rfl⟩, hno⟩ rfl
  obtain ⟨e, w', fr, ⟨v, rfl, hv⟩, hcm, _, hlv⟩ := h τ 0 [shutFr P]
  obtain ⟨N, hN⟩ : Steps P _ _ := hcm
  obtain ⟨s, ⟨⟨hst, htape⟩, hng⟩, hfr, hL, n, rfl⟩ := hτ N fr w' v hN hlv
  subst hfr
  apply hng
  rw [hL]
  obtain ⟨hm, hd, hkd, fn, hfn, hres⟩ := hlv
  refine GoesI.mk rfl fun w₁ hw₁ => ?_
  obtain ⟨d, rfl⟩ := hw₁
  have hu : stepG P true (G s.fr ([] ++ c :: cs)) (s.w.at d) = unwind P true s.fr (c :: cs) none (s.w.at d) := by simp [stepG, G, hm]
  -- what the results read hangs on no draw
  have hfine : FineT P (results fn s.fr.tmps) := fine_results _ _
  have e0 : reW w.tape d (reW τ n s.w) = s.w.at d := by rw [← htape]; rfl
  have hzero : (resW ((results fn s.fr.tmps).run P (reW τ n s.w))).drawn - (reW τ n s.w).drawn = 0 := by rw [hres]; simp [resW]
  have hre := fine_re hfine (reW τ n s.w) #[] w.tape d (fun x q h1 h2 => by rw [hzero] at h2; omega)
  rw [Sem.runT_fst, hres, e0] at hre
  simp only [reR, Nat.sub_self, Nat.add_zero, e0] at hre
  have hcl : CleanE ((results fn s.fr.tmps).runT P (reW τ n s.w) #[]).2 := fun e he => (fine_events hfine _ #[] e he).elim (fun h => by simp at h) id
  generalize ((results fn s.fr.tmps).runT P (reW τ n s.w) #[]).2 = es at hre hcl
  have e1 : (results fn s.fr.tmps).run P (s.w.at d) = .ok v (s.w.at d) := (Sem.runT_fst P (results fn s.fr.tmps) (s.w.at d) #[]).symm.trans (congrArg Prod.fst hre)
  have e2 : (results fn s.fr.tmps).events P (s.w.at d) #[] = es := congrArg Prod.snd hre
  refine ⟨G (c.finish v) cs, s.w.at d, seen P s.fr.fn es, O, ?_, clean_seen hcl, hk v O _ ?_⟩
  · rw [hu]
    simp [unwind, hd, hm, hfn, doReturn, hkd, G, e1, e2, GStep.after]
  · refine ⟨rfl, htape, ?_⟩
    rw [← e0]
    exact hR _ _ _ _ hv
theorem callsF_of_calls (hP : PlainF P F) (hE : NoEarly P) {f : FuncId} (hf : F f = true) {args : Array Value} {O : OwnP} {w : World} {R : Value → World → Prop} (hR : ∀ v w τ n, R v w → R v (reW τ n w))
    (h : ∀ τ n, Calls P f args (reW τ n w) fun e w' => ∃ v, e = .returned v ∧ R v w') : CallsI P true RelF DelF f args O w fun v _ w' => R v w' :=
  (callsF_full hP hE hf hR h).mono fun _ _ _ p => p.2.2
end
end Go.Proofs.Ytnbgfffcialfkaa

namespace Go.Proofs.Ytnbgfffcialfkaa
open Go Go.Conc
set_option linter.unusedVariables false

noncomputable def plList : List FuncId := [22, 31, 10, 11, 13, 15, 25, 26, 28, 29, 30, 40, 41, 44, 45, 54, 17, 18, 19, 20, 21, 23, 24, 32, 33, 34, 35, 36, 37, 38, 43, 46, 47, 48, 51, 52, 53, 39, 49, 50]
noncomputable def plF (f : FuncId) : Bool := plList.contains f
noncomputable def plChk (f : FuncId) : Bool := match Try.prog.funcs[f]? with
  | some fn => (fn.name == "runtime.NumGoroutine") == false && match fn.body with
    | some x => plainCode Try.prog plF x
    | none => false
  | none => false
theorem plAll : plList.all plChk = true := by kernel_rfl
theorem plainTry : PlainF Try.prog plF := by
  intro f hf
  have h : f ∈ plList := by simpa [plF] using hf
  have hc := List.all_eq_true.1 plAll f h
  unfold plChk at hc
  split at hc
  · rename_i fn hfn
    simp only [Bool.and_eq_true, beq_iff_eq] at hc
    obtain ⟨h1, h2⟩ := hc
    split at h2
    · rename_i x hx
      exact ⟨fn, x, hfn, h1, hx, h2⟩
    · cases h2
  · cases hc
theorem noReadies : (Try.prog.funcs.all fun f => (f.body.map readies).all fun l => l.isEmpty) = true := by kernel_rfl
theorem stepOf_none (g : Nat) : Try.prog.stepOf g = none := by
  unfold Program.stepOf
  rw [Array.findIdx?_eq_none_iff]
  intro f hf
  have h := Array.all_eq_true_iff_forall_mem.1 noReadies f hf
  cases hb : f.body.map readies with
  | none => simp
  | some l =>
    rw [hb] at h
    simp at h
    subst h
    simp
theorem dataAhead : Try.prog.follows .staticDataAhead = true := by kernel_rfl
theorem noEarlyTry : NoEarly Try.prog := by
  intro fr cs dying g w
  unfold early
  simp only [dataAhead, stepOf_none, Bool.not_true, Bool.false_eq_true, if_false]
  exact ⟨_, _, rfl⟩
end Go.Proofs.Ytnbgfffcialfkaa
