/-
  One step of a goroutine that runs plain code: what it can be, whatever lies below it in the stack, and how it hangs on the tape. No condition.
-/
import Derived.Test.YtnbgfffcialfkaaLn31
set_option linter.unusedSimpArgs false
set_option linter.unusedVariables false
namespace Go.Proofs.Ytnbgfffcialfkaa
open Go Go.Conc
set_option linter.unusedVariables false

section
variable {P : Program} {F : FuncId → Bool}
/-- The tape τ from n on answers j questions as w's does from where it stands. -/
def MatchT (w : World) (j : Nat) (τ : Nat → Question → Nat) (n : Nat) : Prop := ∀ x q, n ≤ x → x < n + j → τ x q = w.tape (w.drawn + (x - n)) q
def CleanE (es : Array Event) : Prop := ∀ e ∈ es, ∀ m, e.loc = .mark m → Neutral m
theorem cleanE_nil : CleanE #[] := fun _ h => by simp at h
/-- A running state of plain code. -/
structure RunSt (P : Program) (F : FuncId → Bool) (fr : Frame) (L : List Frame) : Prop where
  pl : PlainFr P F fr
  mode : fr.mode = .run ∨ fr.mode = .returning
  wait : ∀ c ∈ L, WaitFr P F c
/-- It goes on. -/
structure OutA (P : Program) (F : FuncId → Bool) (fr : Frame) (L : List Frame) (w : World) (j : Nat) (fr' : Frame) (L' : List Frame) (w' : World) (es : Array Event) : Prop where
  st : RunSt P F fr' L'
  clean : CleanE es
  tape : w'.tape = w.tape
  drawn : w'.drawn = w.drawn + j
  real : ∀ ext, stepG P true (G fr (L ++ ext)) w = .go (G fr' (L' ++ ext)) w' es
  solo : ∀ τ n, MatchT w j τ n → ∀ ext, stepG P true (G fr (L ++ ext)) (reW τ n w) = .go (G fr' (L' ++ ext)) (reW τ (n + j) w') es
/-- It panics, or the run ends. -/
def OutBad (P : Program) (fr : Frame) (L : List Frame) (w : World) (j : Nat) : Prop :=
  ∀ τ n, MatchT w j τ n → ∀ ext, (∃ fr' w' es chain, stepG P true (G fr (L ++ ext)) (reW τ n w) = .go (G fr' (L ++ ext)) w' es ∧ fr'.mode = .panicking chain ∧ fr'.defers = []) ∨ ∃ o w' es, stepG P true (G fr (L ++ ext)) (reW τ n w) = .ended o w' es
theorem OutA.move {fr fr' : Frame} {L : List Frame} {w : World} (hs : RunSt P F fr' L) (h : ∀ ext w, stepG P true (G fr (L ++ ext)) w = .go (G fr' (L ++ ext)) w #[]) : OutA P F fr L w 0 fr' L w #[] :=
  ⟨hs, cleanE_nil, rfl, rfl, fun ext => h ext w, fun τ n _ ext => h ext _⟩
theorem step_run {fr : Frame} {cs : List Frame} {w : World} (hm : fr.mode = .run) : stepG P true (G fr cs) w = stepG.exec P true true fr cs none w := by
  simp [stepG, G, hm]
theorem step_ret {fr : Frame} {cs : List Frame} {w : World} (hm : fr.mode = .returning) : stepG P true (G fr cs) w = unwind P true fr cs none w := by
  simp [stepG, G, hm]
theorem clean_seen {fn : FuncId} {es : Array Event} (h : CleanE es) : CleanE (seen P fn es) := fun e he => h e (mem_seen he)
theorem exitTo_sub {id : Nat} : ∀ {k k' : List Item}, exitTo id k = some k' → ∀ x ∈ k', x ∈ k := by
  intro k
  induction k with
  | nil => intro k' h; simp [exitTo] at h
  | cons a k ih =>
    intro k' h x hx
    cases a <;> simp only [exitTo] at h <;> first | exact List.mem_cons_of_mem _ (ih h x hx) | skip
    split at h
    · cases h; exact List.mem_cons_of_mem _ hx
    · exact List.mem_cons_of_mem _ (ih h x hx)
/-- A variable that still waits for its initialiser is not waited for: the run ends. -/
def NoEarly (P : Program) : Prop := ∀ fr cs dying g w, ∃ o w', early P fr cs dying g w = .ended o w'
section
variable {fr : Frame} {cs : List Frame} {s : Sem Next} {w w' : World} {es : Array Event}
theorem apply_value {v : Value} (h : s.runT P w #[] = (.ok (.value v) w', es)) (hk : fr.kind = .normal) : stepG.apply P true fr cs none s w = .go (G (fr.finish v) cs) w' (seen P fr.fn es) := by
  have h2 : s.run P w = _ := (Sem.runT_fst P s w #[]).symm.trans (congrArg Prod.fst h)
  have h3 : s.events P w #[] = es := congrArg Prod.snd h
  simp [stepG.apply, h2, h3, hk, G, GStep.after]
theorem apply_skip (h : s.runT P w #[] = (.ok .skip w', es)) (hk : fr.kind = .normal) : stepG.apply P true fr cs none s w = .go (G (fr.finish undef) cs) w' (seen P fr.fn es) := by
  have h2 : s.run P w = _ := (Sem.runT_fst P s w #[]).symm.trans (congrArg Prod.fst h)
  have h3 : s.events P w #[] = es := congrArg Prod.snd h
  simp [stepG.apply, h2, h3, hk, G, GStep.after]
theorem apply_enter {f : FuncId} {args : Array Value} {ops : Array Oper} {l : List Nat} {k : List Item} (ht : fr.todo = .inRegion ops l :: k) (h : s.runT P w #[] = (.ok (.enter f args) w', es)) (hk : fr.kind = .normal) :
    stepG.apply P true fr cs none s w = .go (G (Frame.enter P f args .normal) (fr :: cs)) w' (seen P fr.fn es) := by
  have h2 : s.run P w = _ := (Sem.runT_fst P s w #[]).symm.trans (congrArg Prod.fst h)
  have h3 : s.events P w #[] = es := congrArg Prod.snd h
  simp [stepG.apply, h2, h3, hk, G, GStep.after, ht]
theorem apply_panic {v : Value} (h : s.runT P w #[] = (.halt (.panic v) w', es)) (hk : fr.kind = .normal) : stepG.apply P true fr cs none s w = .go (G (fr.raise [{ v, recovered := false }]) cs) w' (seen P fr.fn es) := by
  have h2 : s.run P w = _ := (Sem.runT_fst P s w #[]).symm.trans (congrArg Prod.fst h)
  have h3 : s.events P w #[] = es := congrArg Prod.snd h
  simp [stepG.apply, h2, h3, hk, G, GStep.after]
theorem apply_stuck {x : String} (h : s.runT P w #[] = (.halt (.stuck x) w', es)) : ∃ o w'' es', stepG.apply P true fr cs none s w = .ended o w'' es' := by
  have h2 : s.run P w = _ := (Sem.runT_fst P s w #[]).symm.trans (congrArg Prod.fst h)
  have h3 : s.events P w #[] = es := congrArg Prod.snd h
  simp [stepG.apply, h2, h3, GStep.after]
theorem apply_unsupported (hE : NoEarly P) {u : Unsupported} (h : s.runT P w #[] = (.halt (.unsupported u) w', es)) : ∃ o w'' es', stepG.apply P true fr cs none s w = .ended o w'' es' := by
  have h2 : s.run P w = _ := (Sem.runT_fst P s w #[]).symm.trans (congrArg Prod.fst h)
  have h3 : s.events P w #[] = es := congrArg Prod.snd h
  by_cases hu : ∃ g, u = .initOrder g
  · obtain ⟨g, rfl⟩ := hu
    obtain ⟨o, w'', e⟩ := hE fr cs none g w'
    simp [stepG.apply, h2, h3, GStep.after, e]
  · cases u <;> first | exact absurd ⟨_, rfl⟩ hu | simp [stepG.apply, h2, h3, GStep.after]
theorem raise_mode (c : List PanicEntry) (hm : fr.mode = .run) (hd : fr.defers = []) : (fr.raise c).mode = .panicking c ∧ (fr.raise c).defers = [] := by
  simp [Frame.raise, hm, hd]
end
theorem RunSt.enter (hP : PlainF P F) {f : FuncId} (hf : F f = true) {fr : Frame} {L : List Frame} (h : RunSt P F fr L) (hw : WaitFr P F fr) (args : Array Value) : RunSt P F (Frame.enter P f args .normal) (fr :: L) := by
  obtain ⟨fn, x, h1, h2, h3, h4⟩ := hP f hf
  refine ⟨⟨rfl, rfl, rfl, ?_⟩, .inl rfl, fun c hc => ?_⟩
  · intro y hy
    simp only [Frame.enter, h1, h3, Option.bind_some, Option.getD_some, List.mem_singleton] at hy
    subst hy
    exact h4
  · rcases List.mem_cons.1 hc with rfl | hc
    · exact hw
    · exact h.wait c hc
theorem PlainFr.finish {fr : Frame} (h : WaitFr P F fr) (v : Value) : PlainFr P F (fr.finish v) ∧ (fr.finish v).mode = .run := by
  obtain ⟨ops, i, rest, k, ht⟩ := h.at_
  have e : (fr.finish v).todo = .inRegion ops rest :: k := by simp [Frame.finish, ht]
  refine ⟨⟨?_, ?_, ?_, ?_⟩, ?_⟩
  · simp [Frame.finish, ht]; exact h.defers
  · simp [Frame.finish, ht]; exact h.round
  · simp [Frame.finish, ht]; exact h.kind
  · intro x hx
    rw [e] at hx
    rcases List.mem_cons.1 hx with rfl | hx
    · exact h.todo (.inRegion ops (i :: rest)) (by rw [ht]; exact List.mem_cons_self ..)
    · exact h.todo x (by rw [ht]; exact List.mem_cons_of_mem _ hx)
  · simp [Frame.finish, ht]; exact h.mode
/-- An operation that is carried out. -/
theorem out_apply (hP : PlainF P F) (hE : NoEarly P) {fr : Frame} {L : List Frame} (h : RunSt P F fr L) (hw : WaitFr P F fr) {s : Sem Next} (hs : Fine P (PlainNext F) s)
    (hstep : ∀ ext w, stepG P true (G fr (L ++ ext)) w = stepG.apply P true fr (L ++ ext) none s w) (w : World) :
    (∃ j fr' L' w' es, OutA P F fr L w j fr' L' w' es) ∨ ∃ j, OutBad P fr L w j := by
  have hrun := fine_run hs w
  have hfst := Sem.runT_fst P s w #[]
  have hcl : CleanE (s.runT P w #[]).2 := fun e he => (fine_events hs w #[] e he).elim (fun h => by simp at h) id
  have hre : ∀ τ n, MatchT w ((resW (s.run P w)).drawn - w.drawn) τ n → s.runT P (reW τ n w) #[] = (reR τ n w.drawn (s.runT P w #[]).1, (s.runT P w #[]).2) := fun τ n hm => fine_re hs w #[] τ n hm
  rw [hfst] at hre
  have hpair : s.runT P w #[] = (s.run P w, (s.runT P w #[]).2) := Prod.ext hfst rfl
  generalize (s.runT P w #[]).2 = es at hcl hre hpair
  obtain ⟨ops, i, rest, k, ht⟩ := hw.at_
  have hf := fun v => PlainFr.finish hw v
  cases hr : s.run P w with
  | ok x w' =>
    rw [hr] at hrun hre hpair
    obtain ⟨hx, htape, hdr⟩ := hrun
    simp only [resW, reR] at hre
    cases x <;> simp only [PlainNext] at hx
    case value v =>
      exact .inl ⟨_, _, _, _, _, ⟨⟨(hf v).1, .inl (hf v).2, h.wait⟩, clean_seen hcl, htape, by omega, fun ext => (hstep ext w).trans (apply_value hpair hw.kind), fun τ n hm ext => (hstep ext _).trans (apply_value (hre τ n hm) hw.kind)⟩⟩
    case skip =>
      exact .inl ⟨_, _, _, _, _, ⟨⟨(hf undef).1, .inl (hf undef).2, h.wait⟩, clean_seen hcl, htape, by omega, fun ext => (hstep ext w).trans (apply_skip hpair hw.kind), fun τ n hm ext => (hstep ext _).trans (apply_skip (hre τ n hm) hw.kind)⟩⟩
    case enter f args =>
      exact .inl ⟨_, _, _, _, _, ⟨RunSt.enter hP hx h hw args, clean_seen hcl, htape, by omega, fun ext => (hstep ext w).trans (apply_enter ht hpair hw.kind), fun τ n hm ext => (hstep ext _).trans (apply_enter ht (hre τ n hm) hw.kind)⟩⟩
  | halt x w' =>
    rw [hr] at hrun hre hpair
    obtain ⟨hx, htape, hdr⟩ := hrun
    simp only [resW, reR] at hre
    refine .inr ⟨w'.drawn - w.drawn, fun τ n hm ext => ?_⟩
    rw [hstep ext]
    have := hre τ n hm
    cases x <;> simp only [NiceHalt] at hx
    case panic v => exact .inl ⟨_, _, _, _, apply_panic this hw.kind, (raise_mode _ hw.mode hw.defers).1, (raise_mode _ hw.mode hw.defers).2⟩
    case unsupported u => exact .inr (apply_unsupported hE this)
    case stuck y => exact .inr (apply_stuck this)
theorem fine_results (f : Func) (tmps : Array Value) : FineT P (results f tmps) := by
  unfold results
  refine fineT_bind (fine_arrMapM _ (fun r => ?_) _) fun _ => fineT_pure _
  cases r with
  | tmp t => exact trivial
  | cell a t => exact fineT_bind (fine_asAddr _) fun _ => fine_loadVar _ _
/-- One step. -/
theorem step_two (hP : PlainF P F) (hE : NoEarly P) {fr : Frame} {L : List Frame} (h : RunSt P F fr L) (w : World) :
    (∃ j fr' L' w' es, OutA P F fr L w j fr' L' w' es) ∨ (L = [] ∧ fr.mode = .returning) ∨ ∃ j, OutBad P fr L w j := by
  have hent : ∀ f, F f = true → EntI P f := fun f hf => hP.ent hf
  obtain ⟨⟨hd, hro, hk, htd⟩, hm, hwait⟩ := h
  obtain ⟨fn, tmps, todo, defers, mode, kind, roundOf⟩ := fr
  simp only at hd hro hk htd hm
  subst hd hro hk
  rcases hm with rfl | rfl
  · have move : ∀ (fr' : Frame), PlainFr P F fr' → (fr'.mode = .run ∨ fr'.mode = .returning) → (∀ ext w, stepG P true (G { fn, tmps, todo, defers := [], mode := .run, kind := .normal, roundOf := none } (L ++ ext)) w = .go (G fr' (L ++ ext)) w #[]) →
        (∃ j fr'' L' w' es, OutA P F { fn, tmps, todo, defers := [], mode := .run, kind := .normal, roundOf := none } L w j fr'' L' w' es) ∨ (L = [] ∧ FrameMode.run = .returning) ∨ ∃ j, OutBad P { fn, tmps, todo, defers := [], mode := .run, kind := .normal, roundOf := none } L w j :=
      fun fr' h1 h2 h3 => .inl ⟨_, _, _, _, _, OutA.move ⟨h1, h2, hwait⟩ h3⟩
    have lost : (∀ ext w, ∃ o w' es, stepG P true (G { fn, tmps, todo, defers := [], mode := .run, kind := .normal, roundOf := none } (L ++ ext)) w = .ended o w' es) →
        (∃ j fr'' L' w' es, OutA P F { fn, tmps, todo, defers := [], mode := .run, kind := .normal, roundOf := none } L w j fr'' L' w' es) ∨ (L = [] ∧ FrameMode.run = .returning) ∨ ∃ j, OutBad P { fn, tmps, todo, defers := [], mode := .run, kind := .normal, roundOf := none } L w j :=
      fun h => .inr (.inr ⟨0, fun τ n _ ext => .inr (h ext _)⟩)
    cases todo with
    | nil => exact move ⟨fn, tmps, [], [], .returning, .normal, none⟩ ⟨rfl, rfl, rfl, htd⟩ (.inr rfl) (fun ext w => by simp [stepG, stepG.exec, G])
    | cons x k =>
      have hx := htd x (List.mem_cons_self ..)
      have hkk : ∀ y ∈ k, plainItem P F y = true := fun y hy => htd y (List.mem_cons_of_mem _ hy)
      have hcons : ∀ {y : Item} {l : List Item}, plainItem P F y = true → (∀ z ∈ l, plainItem P F z = true) → ∀ z ∈ y :: l, plainItem P F z = true := fun h1 h2 z hz => (List.mem_cons.1 hz).elim (fun e => e ▸ h1) (h2 z)
      have to : ∀ (l : List Item), (∀ y ∈ l, plainItem P F y = true) → (∀ ext w, stepG P true (G { fn, tmps, todo := x :: k, defers := [], mode := .run, kind := .normal, roundOf := none } (L ++ ext)) w = .go (G ⟨fn, tmps, l, [], .run, .normal, none⟩ (L ++ ext)) w #[]) → _ :=
        fun l h1 h2 => move ⟨fn, tmps, l, [], .run, .normal, none⟩ ⟨rfl, rfl, rfl, h1⟩ (.inl rfl) h2
      cases x with
      | code c =>
        simp only [plainItem] at hx
        cases c with
        | skip => exact to k hkk (fun ext w => by simp [stepG, stepG.exec, G])
        | label l => exact to k hkk (fun ext w => by simp [stepG, stepG.exec, G])
        | ret => exact move ⟨fn, tmps, .code .ret :: k, [], .returning, .normal, none⟩ ⟨rfl, rfl, rfl, htd⟩ (.inr rfl) (fun ext w => by simp [stepG, stepG.exec, G])
        | seq a b =>
          simp only [plainCode, Bool.and_eq_true] at hx
          exact to (.code a :: .code b :: k) (hcons hx.1 (hcons hx.2 hkk)) (fun ext w => by simp [stepG, stepG.exec, G])
        | cond c a b =>
          simp only [plainCode, Bool.and_eq_true] at hx
          by_cases hv : ∃ v, Frame.eval { fn, tmps, todo := .code (.cond c a b) :: k, defers := [], mode := .run, kind := .normal, roundOf := none } c = .bool v
          · obtain ⟨v, hv⟩ := hv
            refine to (.code (if v then a else b) :: k) (hcons ?_ hkk) (fun ext w => by simp [stepG, stepG.exec, G, hv])
            cases v
            · exact hx.2
            · exact hx.1
          · refine lost fun ext w => ?_
            cases he : Frame.eval { fn, tmps, todo := .code (.cond c a b) :: k, defers := [], mode := .run, kind := .normal, roundOf := none } c
            case bool v => exact absurd ⟨v, he⟩ hv
            all_goals simp [stepG, stepG.exec, G, he]
        | block id a => exact to (.code a :: .inBlock id :: k) (hcons hx (hcons rfl hkk)) (fun ext w => by simp [stepG, stepG.exec, G])
        | loop a => exact to (.code a :: .inLoop a :: k) (hcons hx (hcons hx hkk)) (fun ext w => by simp [stepG, stepG.exec, G])
        | exit id =>
          cases he : exitTo id k with
          | none => exact lost fun ext w => by simp [stepG, stepG.exec, G, he]
          | some k' => exact to k' (fun y hy => hkk y (exitTo_sub he y hy)) (fun ext w => by simp [stepG, stepG.exec, G, he])
        | region id ops draw =>
          simp only [plainCode] at hx
          cases draw with
          | false => exact to (.inRegion ops (List.range ops.size) :: k) (hcons hx hkk) (fun ext w => by simp [stepG, stepG.exec, G])
          | true =>
            refine .inl ⟨1, ⟨fn, tmps, .inRegion ops (Region.schedule (P.follows .mixedOrders) ops (w.tape w.drawn (.order fn id))) :: k, [], .run, .normal, none⟩, L, { w with drawn := w.drawn + 1 }, #[], ⟨⟨⟨rfl, rfl, rfl, hcons hx hkk⟩, .inl rfl, hwait⟩, cleanE_nil, rfl, rfl, fun ext => ?_, fun τ n hmt ext => ?_⟩⟩
            · simp [stepG, stepG.exec, G, choose, Sem.run, Question.forced, Question.cut]
            · have e0 : τ n (.order fn id) = w.tape w.drawn (.order fn id) := by
                have := hmt n (.order fn id) (Nat.le_refl _) (by omega)
                simpa using this
              simp [stepG, stepG.exec, G, choose, Sem.run, Question.forced, Question.cut, reW, e0]
        | _ => simp [plainCode] at hx
      | inBlock id => exact to k hkk (fun ext w => by simp [stepG, stepG.exec, G])
      | inLoop c => exact to (.code c :: .inLoop c :: k) (hcons hx (hcons hx hkk)) (fun ext w => by simp [stepG, stepG.exec, G])
      | inRegion ops l =>
        cases l with
        | nil => exact to k hkk (fun ext w => by simp [stepG, stepG.exec, G])
        | cons i rest =>
          have hw : WaitFr P F { fn, tmps, todo := .inRegion ops (i :: rest) :: k, defers := [], mode := .run, kind := .normal, roundOf := none } := ⟨⟨rfl, rfl, rfl, htd⟩, rfl, ops, i, rest, k, rfl⟩
          by_cases hwt : ((ops[i]?).map (Region.wanted · (yielded ops tmps))).getD false = true
          · cases ho : ops[i]? with
            | none => simp [ho] at hwt
            | some o =>
              have hpl : plainOp P F o.op = true := by
                simp only [plainItem] at hx
                obtain ⟨hi, rfl⟩ := Array.getElem?_eq_some_iff.1 ho
                exact (Array.all_eq_true.1 hx) i hi
              have hfine : Fine P (PlainNext F) (execOp (Frame.eval { fn, tmps, todo := .inRegion ops (i :: rest) :: k, defers := [], mode := .run, kind := .normal, roundOf := none }) o) := fine_op hent (fun f => rfl) hpl
              rcases out_apply hP hE ⟨hw.toPlainFr, .inl rfl, hwait⟩ hw hfine (fun ext w => by
                rw [ho] at hwt
                simp only [Option.map_some, Option.getD_some] at hwt
                simp [stepG, stepG.exec, stepG.oper, G, Frame.oper?, ho, hwt]) w with h | h
              · exact .inl h
              · exact .inr (.inr h)
          · have hf := PlainFr.finish hw undef
            refine move _ hf.1 (.inl hf.2) (fun ext w => ?_)
            have hwf : ((ops[i]?).map (Region.wanted · (yielded ops tmps))).getD false = false := by simpa using hwt
            simp [stepG, stepG.exec, G, hwf]
      | _ => simp [plainItem] at hx
  · cases L with
    | nil => exact .inr (.inl ⟨rfl, rfl⟩)
    | cons c L =>
      have hc := hwait c (List.mem_cons_self ..)
      have hf := fun v => PlainFr.finish hc v
      have hw' : ∀ c ∈ L, WaitFr P F c := fun x hx => hwait x (List.mem_cons_of_mem _ hx)
      cases hfn : P.funcs[fn]? with
      | none =>
        exact .inl ⟨0, _, L, w, #[], ⟨⟨(hf (tmps.getD 0 undef)).1, .inl (hf _).2, hw'⟩, cleanE_nil, rfl, rfl, fun ext => by simp [stepG, G, unwind, hfn, doReturn], fun τ n _ ext => by simp [stepG, G, unwind, hfn, doReturn]⟩⟩
      | some f =>
        have hs : FineT P (results f tmps) := fine_results f tmps
        have hrun := fine_run hs w
        have hfst := Sem.runT_fst P (results f tmps) w #[]
        have hcl : CleanE ((results f tmps).runT P w #[]).2 := fun e he => (fine_events hs w #[] e he).elim (fun h => by simp at h) id
        have hre : ∀ τ n, MatchT w ((resW ((results f tmps).run P w)).drawn - w.drawn) τ n → (results f tmps).runT P (reW τ n w) #[] = (reR τ n w.drawn ((results f tmps).runT P w #[]).1, ((results f tmps).runT P w #[]).2) := fun τ n hm => fine_re hs w #[] τ n hm
        rw [hfst] at hre
        have hev : (results f tmps).events P w #[] = ((results f tmps).runT P w #[]).2 := rfl
        generalize ((results f tmps).runT P w #[]).2 = es at hcl hre hev
        have split2 : ∀ {τ n r}, (results f tmps).runT P (reW τ n w) #[] = (r, es) → (results f tmps).run P (reW τ n w) = r ∧ (results f tmps).events P (reW τ n w) #[] = es :=
          fun h => ⟨(Sem.runT_fst P (results f tmps) _ #[]).symm.trans (congrArg Prod.fst h), congrArg Prod.snd h⟩
        cases hr : (results f tmps).run P w with
        | ok v w' =>
          rw [hr] at hrun hre
          obtain ⟨_, htape, hdr⟩ := hrun
          simp only [resW, reR] at hre
          refine .inl ⟨w'.drawn - w.drawn, c.finish v, L, w', seen P fn es, ⟨⟨(hf v).1, .inl (hf v).2, hw'⟩, clean_seen hcl, htape, by omega, fun ext => by simp [stepG, G, unwind, hfn, doReturn, hr, hev, GStep.after], fun τ n hm ext => ?_⟩⟩
          obtain ⟨e1, e2⟩ := split2 (hre τ n hm)
          simp [stepG, G, unwind, hfn, doReturn, e1, e2, GStep.after]
        | halt x w' =>
          rw [hr] at hrun hre
          obtain ⟨hx, _, _⟩ := hrun
          simp only [resW, reR] at hre
          refine .inr (.inr ⟨w'.drawn - w.drawn, fun τ n hm ext => .inr ?_⟩)
          obtain ⟨e1, e2⟩ := split2 (hre τ n hm)
          cases x <;> simp [stepG, G, unwind, hfn, e1, e2, GStep.after]
end
end Go.Proofs.Ytnbgfffcialfkaa
