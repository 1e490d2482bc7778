/-
  One goroutine's own steps in whatever company, with what is its own carried along, without a count of steps: the judgement, the rules of the walk, calls. No condition.
  Traces of two goroutines, the second started by the first, where each place behind the start belongs to one of them or is only read. No condition.
-/
import Derived.Conc.RecvAny
import Derived.Conc.CompanyCalls
import Derived.Conc.CompanyDraw
set_option linter.unusedSimpArgs false
set_option linter.unusedVariables false
namespace Go.Proofs.Ytnbgfffcialfkaa
open Go Go.Conc
set_option linter.unusedVariables false

abbrev OwnP := Nat → Prop
abbrev RelyI := OwnP → World → World → Prop
abbrev GuarI := OwnP → OwnP → World → World → Array Event → Prop
/-- What is asked of a rely and a guarantee. -/
structure TermsI (R : RelyI) (D : GuarI) : Prop where
  refl : ∀ O w, R O w w
  trans : ∀ {O a b c}, R O a b → R O b c → R O a c
  idle : ∀ O w, D O O w w #[]
/-- A goroutine on its way to a stop; ahead of each step, and at the stop, the others may have turned the world. -/
inductive GoesI (P : Program) (main : Bool) (R : RelyI) (D : GuarI) (Stop : OwnP → Goroutine → World → Prop) : OwnP → Goroutine → World → Prop
  | stop {O : OwnP} {g : Goroutine} {w : World} (h : ∀ w₁, R O w w₁ → Stop O g w₁) : GoesI P main R D Stop O g w
  | step {O : OwnP} {g : Goroutine} {w : World} (hs : g.status = .running) (g' : ∀ w₁, R O w w₁ → Goroutine) (w' : ∀ w₁, R O w w₁ → World) (es : ∀ w₁, R O w w₁ → Array Event) (O' : ∀ w₁, R O w w₁ → OwnP)
      (h1 : ∀ w₁ r, stepG P main g w₁ = .go (g' w₁ r) (w' w₁ r) (es w₁ r)) (h2 : ∀ w₁ r, D O (O' w₁ r) w₁ (w' w₁ r) (es w₁ r)) (h3 : ∀ w₁ r, GoesI P main R D Stop (O' w₁ r) (g' w₁ r) (w' w₁ r)) : GoesI P main R D Stop O g w
section
variable {P : Program} {main : Bool} {R : RelyI} {D : GuarI} {Stop Stop' : OwnP → Goroutine → World → Prop} {O : OwnP} {g g' : Goroutine} {w w₁ : World}
theorem GoesI.mk (hs : g.status = .running) (h : ∀ w₁, R O w w₁ → ∃ g' w' es O', stepG P main g w₁ = .go g' w' es ∧ D O O' w₁ w' es ∧ GoesI P main R D Stop O' g' w') : GoesI P main R D Stop O g w := by
  exact .step hs (fun w₁ r => (h w₁ r).choose) (fun w₁ r => (h w₁ r).choose_spec.choose) (fun w₁ r => (h w₁ r).choose_spec.choose_spec.choose) (fun w₁ r => (h w₁ r).choose_spec.choose_spec.choose_spec.choose)
    (fun w₁ r => (h w₁ r).choose_spec.choose_spec.choose_spec.choose_spec.1) (fun w₁ r => (h w₁ r).choose_spec.choose_spec.choose_spec.choose_spec.2.1) (fun w₁ r => (h w₁ r).choose_spec.choose_spec.choose_spec.choose_spec.2.2)
theorem GoesI.rely (T : TermsI R D) (h : GoesI P main R D Stop O g w) (hr : R O w w₁) : GoesI P main R D Stop O g w₁ := by
  cases h with
  | stop h => exact .stop fun w₂ h₂ => h w₂ (T.trans hr h₂)
  | step hs g' w' es O' h1 h2 h3 => exact .step hs (fun w₂ r => g' w₂ (T.trans hr r)) (fun w₂ r => w' w₂ (T.trans hr r)) (fun w₂ r => es w₂ (T.trans hr r)) (fun w₂ r => O' w₂ (T.trans hr r)) (fun w₂ r => h1 w₂ _) (fun w₂ r => h2 w₂ _) (fun w₂ r => h3 w₂ _)
theorem GoesI.running (T : TermsI R D) (hst : ∀ O g w, Stop O g w → g.status = .running) (h : GoesI P main R D Stop O g w) : g.status = .running := by
  cases h with
  | stop h => exact hst _ _ _ (h w (T.refl _ _))
  | step hs => exact hs
theorem GoesI.bind (T : TermsI R D) (h : GoesI P main R D Stop O g w) (k : ∀ O g w, Stop O g w → GoesI P main R D Stop' O g w) : GoesI P main R D Stop' O g w := by
  induction h with
  | stop h => exact k _ _ _ (h _ (T.refl _ _))
  | step hs g' w' es O' h1 h2 _ ih => exact .step hs g' w' es O' h1 h2 ih
/-- A step that looks at no memory. -/
theorem GoesI.quiet (T : TermsI R D) (hs : g.status = .running) (hg : ∀ w₁, stepG P main g w₁ = .go g' w₁ #[]) (h : GoesI P main R D Stop O g' w) : GoesI P main R D Stop O g w :=
  .step hs (fun _ _ => g') (fun w₁ _ => w₁) (fun _ _ => #[]) (fun _ _ => O) (fun w₁ _ => hg w₁) (fun _ _ => T.idle _ _) (fun _ r => h.rely T r)
end
/-- What is asked behind a piece of code: of the way out, what is one's own by then, the slots, the world. -/
abbrev PostI := Exit → OwnP → Act → World → Prop
/-- Where the walk goes on behind a way out. -/
def AfterI (P : Program) (main : Bool) (R : RelyI) (D : GuarI) (Stop : OwnP → Goroutine → World → Prop) (b : Frame) (k : List Item) (cs : List Frame) : PostI
  | .normal, O, a, w => GoesI P main R D Stop O (G (b.at a k) cs) w
  | .exit id, O, a, w => ∃ k', exitTo id k = some k' ∧ GoesI P main R D Stop O (G (b.at a k') cs) w
  | .ret, O, a, w => ∀ todo, GoesI P main R D Stop O (G { b.at a todo with mode := .returning } cs) w
  | _, _, _, _ => False
section
variable {P : Program} {main : Bool} {R : RelyI} {D : GuarI} {Stop : OwnP → Goroutine → World → Prop}
theorem AfterI.push {b : Frame} {x : Item} {k : List Item} {cs : List Frame} {e : Exit} {O : OwnP} {a : Act} {w : World}
    (hx : x.plain = true) (he : e ≠ .normal) (h : AfterI P main R D Stop b k cs e O a w) : AfterI P main R D Stop b (x :: k) cs e O a w := by
  cases e with
  | normal => exact absurd rfl he
  | exit id => obtain ⟨k', hk, hg⟩ := h; exact ⟨k', by cases x <;> simp_all [exitTo, Item.plain], hg⟩
  | ret => exact h
  | goto l => exact h
  | panic ch => exact h
  | outgrown => exact h
end
section
variable (P : Program) (main : Bool) (R : RelyI) (D : GuarI) (fn : FuncId)
/-- The items that come next are left by a way out that meets Q. -/
def ItemI (x : Item) (Q : PostI) (O : OwnP) (a : Act) (w : World) : Prop :=
  ∀ (b : Frame) (k : List Item) (cs : List Frame) (Stop : OwnP → Goroutine → World → Prop), b.fn = fn → b.kind ≠ .early →
    (∀ e O' a' w', Q e O' a' w' → AfterI P main R D Stop b k cs e O' a' w') → GoesI P main R D Stop O (G (b.at a (x :: k)) cs) w
/-- .. of a piece of code. -/
def CodeI (x : Code) (Q : PostI) (O : OwnP) (a : Act) (w : World) : Prop := ItemI P main R D fn (.code x) Q O a w
/-- .. of the operations of a region that are still to come. -/
def OpsI (ops : Array Oper) (l : List Nat) (Q : PostI) (O : OwnP) (a : Act) (w : World) : Prop := ItemI P main R D fn (.inRegion ops l) Q O a w
/-- Behind the first of two. -/
def ThenI (K : OwnP → Act → World → Prop) (Q : PostI) : PostI
  | .normal, O, a, w => K O a w
  | e, O, a, w => Q e O a w
/-- Behind a block. -/
def BlockI (id : Nat) (Q : PostI) : PostI
  | .exit id', O, a, w => if id' = id then Q .normal O a w else Q (.exit id') O a w
  | e, O, a, w => Q e O a w
end
section
variable {P : Program} {main : Bool} {R : RelyI} {D : GuarI} {fn : FuncId} {Q : PostI} {O : OwnP} {a : Act} {w : World}
theorem ItemI.rely (T : TermsI R D) {x : Item} {w₁ : World} (h : ItemI P main R D fn x Q O a w) (hr : R O w w₁) : ItemI P main R D fn x Q O a w₁ :=
  fun b k cs Stop hb hk hc => (h b k cs Stop hb hk hc).rely T hr
theorem ItemI.post {x : Item} {Q' : PostI} (h : ItemI P main R D fn x Q O a w) (hq : ∀ e O a w, Q e O a w → Q' e O a w) : ItemI P main R D fn x Q' O a w :=
  fun b k cs Stop hb hk hc => h b k cs Stop hb hk fun e O' a' w' q => hc e O' a' w' (hq e O' a' w' q)
theorem codeI_skip (T : TermsI R D) (h : Q .normal O a w) : CodeI P main R D fn .skip Q O a w := fun b k cs Stop _ _ hc => .quiet T rfl (fun _ => stepG_skip) (hc _ _ _ _ h)
theorem codeI_label (T : TermsI R D) {l : Nat} (h : Q .normal O a w) : CodeI P main R D fn (.label l) Q O a w := fun b k cs Stop _ _ hc => .quiet T rfl (fun _ => stepG_label) (hc _ _ _ _ h)
theorem codeI_ret (T : TermsI R D) (h : Q .ret O a w) : CodeI P main R D fn .ret Q O a w := fun b k cs Stop _ _ hc => .quiet T rfl (fun _ => stepG_ret') (hc _ _ _ _ h _)
theorem codeI_exit (T : TermsI R D) {id : Nat} (h : Q (.exit id) O a w) : CodeI P main R D fn (.exit id) Q O a w := fun b k cs Stop _ _ hc => by
  obtain ⟨k', hk', hg⟩ := hc _ _ _ _ h
  exact .quiet T rfl (fun _ => stepG_exit hk') hg
theorem codeI_cond (T : TermsI R D) {t : Operand} {x y : Code} {v : Bool} (ht : a.eval t = .bool v) (h : CodeI P main R D fn (if v then x else y) Q O a w) : CodeI P main R D fn (.cond t x y) Q O a w :=
  fun b k cs Stop hb hk hc => .quiet T rfl (fun _ => stepG_cond ht) (h b k cs Stop hb hk hc)
theorem codeI_seq (T : TermsI R D) {x y : Code} (h : CodeI P main R D fn x (ThenI (fun O' a' w' => CodeI P main R D fn y Q O' a' w') Q) O a w) : CodeI P main R D fn (.seq x y) Q O a w := by
  intro b k cs Stop hb hk hc
  have hx := h b (.code y :: k) cs Stop hb hk fun e O' a' w' q => by
    cases e with
    | normal => exact q b k cs Stop hb hk hc
    | exit id => exact (hc _ _ _ _ q).push rfl (by simp)
    | ret => exact (hc _ _ _ _ q).push (x := .code y) rfl (by simp)
    | goto l => exact hc _ _ _ _ q
    | panic ch => exact hc _ _ _ _ q
    | outgrown => exact hc _ _ _ _ q
  exact .quiet T rfl (fun _ => stepG_seq) hx
theorem codeI_block (T : TermsI R D) {id : Nat} {x : Code} (h : CodeI P main R D fn x (BlockI id Q) O a w) : CodeI P main R D fn (.block id x) Q O a w := by
  intro b k cs Stop hb hk hc
  have hx := h b (.inBlock id :: k) cs Stop hb hk fun e O' a' w' q => by
    cases e with
    | normal => exact .quiet T rfl (fun _ => stepG_inBlock) (hc _ _ _ _ q)
    | exit id' =>
      by_cases hid : id' = id
      · simp only [BlockI, hid, if_true] at q
        exact ⟨k, by simp [exitTo, hid], hc _ _ _ _ q⟩
      · simp only [BlockI, hid, if_false] at q
        obtain ⟨k', hk', hg⟩ := hc _ _ _ _ q
        have : (id == id') = false := by simp; exact fun h => hid h.symm
        exact ⟨k', by simp [exitTo, this, hk'], hg⟩
    | ret => exact fun todo => (hc _ _ _ _ q todo)
    | goto l => exact hc _ _ _ _ q
    | panic ch => exact hc _ _ _ _ q
    | outgrown => exact hc _ _ _ _ q
  exact .quiet T rfl (fun _ => stepG_block) hx
/-- A loop: an invariant, a measure that every round lowers. -/
theorem codeI_loop (T : TermsI R D) {x : Code} (I : OwnP → Act → World → Prop) (μ : Act → World → Nat) (h₀ : I O a w)
    (round : ∀ O a w, I O a w → CodeI P main R D fn x (ThenI (fun O' a' w' => I O' a' w' ∧ μ a' w' < μ a w) Q) O a w) : CodeI P main R D fn (.loop x) Q O a w := by
  intro b k cs Stop hb hk hc
  have key : ∀ N O a w, μ a w ≤ N → I O a w → GoesI P main R D Stop O (G (b.at a (.code x :: .inLoop x :: k)) cs) w := by
    intro N
    induction N with
    | zero =>
      intro O a w hμ hI
      exact round O a w hI b (.inLoop x :: k) cs Stop hb hk fun e O' a' w' q => by
        cases e with
        | normal => exact absurd q.2 (by omega)
        | exit id => exact (hc _ _ _ _ q).push rfl (by simp)
        | ret => exact (hc _ _ _ _ q).push (x := .inLoop x) rfl (by simp)
        | goto l => exact hc _ _ _ _ q
        | panic ch => exact hc _ _ _ _ q
        | outgrown => exact hc _ _ _ _ q
    | succ N ih =>
      intro O a w hμ hI
      exact round O a w hI b (.inLoop x :: k) cs Stop hb hk fun e O' a' w' q => by
        cases e with
        | normal => exact .quiet T rfl (fun _ => stepG_inLoop) (ih O' a' w' (by have := q.2; omega) q.1)
        | exit id => exact (hc _ _ _ _ q).push rfl (by simp)
        | ret => exact (hc _ _ _ _ q).push (x := .inLoop x) rfl (by simp)
        | goto l => exact hc _ _ _ _ q
        | panic ch => exact hc _ _ _ _ q
        | outgrown => exact hc _ _ _ _ q
  exact .quiet T rfl (fun _ => stepG_loop) (key _ O a w (Nat.le_refl _) h₀)
theorem codeI_region (T : TermsI R D) {id : Nat} {ops : Array Oper} (h : OpsI P main R D fn ops (List.range ops.size) Q O a w) : CodeI P main R D fn (.region id ops false) Q O a w :=
  fun b k cs Stop hb hk hc => .quiet T rfl (fun _ => stepG_region) (h b k cs Stop hb hk hc)
theorem opsI_nil (T : TermsI R D) {ops : Array Oper} (h : Q .normal O a w) : OpsI P main R D fn ops [] Q O a w := fun b k cs Stop _ _ hc => .quiet T rfl (fun _ => stepG_region_end) (hc _ _ _ _ h)
theorem opsI_unwanted (T : TermsI R D) {ops : Array Oper} {i : Nat} {rest : List Nat} {o : Oper} (ho : ops[i]? = some o) (hw : Region.wanted o (yielded ops a.tmps) = false)
    (h : OpsI P main R D fn ops rest Q O (a.put o.dst undef) w) : OpsI P main R D fn ops (i :: rest) Q O a w :=
  fun b k cs Stop hb hk hc => .quiet T rfl (fun _ => stepG_unwanted ho hw) (h b k cs Stop hb hk hc)
/-- One operation: in every world that the other may have left. -/
theorem opsI_cons {ops : Array Oper} {i : Nat} {rest : List Nat} {o : Oper} (ho : ops[i]? = some o) (hw : Region.wanted o (yielded ops a.tmps) = true)
    (h : ∀ w₁, R O w w₁ → uponK o a (fun a' w' => ∃ O', D O O' w₁ w' (listed P fn a o w₁) ∧ OpsI P main R D fn ops rest Q O' a' w') ((execOp a.eval o).run P w₁)) : OpsI P main R D fn ops (i :: rest) Q O a w := by
  intro b k cs Stop hb hk hc
  refine GoesI.mk rfl fun w₁ h₁ => ?_
  have h2 : (stepG P main (G (b.at a (.inRegion ops (i :: rest) :: k)) cs) w₁).goes fun g' w' es => ∃ O', D O O' w₁ w' es ∧ GoesI P main R D Stop O' g' w' := by
    refine goes_oper ho hw hk ?_
    have := h w₁ h₁
    revert this
    cases (execOp a.eval o).run P w₁ with
    | ok x w' => cases x <;> first | exact fun ⟨O', d, g⟩ => ⟨O', hb ▸ d, g b k cs Stop hb hk hc⟩ | exact id
    | halt _ _ => exact id
  obtain ⟨g', w', es, h3, O', h4, h5⟩ := goes_elim h2
  exact ⟨g', w', es, O', h3, h4, h5⟩
/-- One operation that yields a value and leaves the world as it is; what it lists is within the guarantee. -/
theorem opsI_read (T : TermsI R D) {ops : Array Oper} {i : Nat} {rest : List Nat} {o : Oper} {v : Value} (ho : ops[i]? = some o) (hw : Region.wanted o (yielded ops a.tmps) = true)
    (hr : ∀ w₁, R O w w₁ → (execOp a.eval o).run P w₁ = .ok (.value v) w₁) (he : ∀ w₁, R O w w₁ → D O O w₁ w₁ (listed P fn a o w₁))
    (h : OpsI P main R D fn ops rest Q O (a.put o.dst v) w) : OpsI P main R D fn ops (i :: rest) Q O a w :=
  opsI_cons ho hw fun w₁ h₁ => by
    rw [hr w₁ h₁]
    exact ⟨O, he w₁ h₁, ItemI.rely T h h₁⟩
/-- .. that lists nothing. -/
theorem opsI_pure (T : TermsI R D) {ops : Array Oper} {i : Nat} {rest : List Nat} {o : Oper} {v : Value} (ho : ops[i]? = some o) (hw : Region.wanted o (yielded ops a.tmps) = true)
    (hr : ∀ w₁, (execOp a.eval o).run P w₁ = .ok (.value v) w₁) (he : ∀ w₁, (execOp a.eval o).events P w₁ #[] = #[])
    (h : OpsI P main R D fn ops rest Q O (a.put o.dst v) w) : OpsI P main R D fn ops (i :: rest) Q O a w :=
  opsI_read T ho hw (fun w₁ _ => hr w₁) (fun w₁ _ => by rw [listed_nil (he w₁)]; exact T.idle _ _) h
end
/-! ### calls -/
/-- The results read v, in whatever world the other may have left. -/
def ResI (P : Program) (fn : Func) (R : RelyI) (D : GuarI) (O : OwnP) (tmps : Array Value) (v : Value) (w : World) : Prop :=
  ∀ w₁, R O w w₁ → (results fn tmps).run P w₁ = .ok v w₁ ∧ ∀ f, D O O w₁ w₁ (seen P f ((results fn tmps).events P w₁ #[]))
theorem ResI.of {P : Program} {fn : Func} {R : RelyI} {D : GuarI} (T : TermsI R D) {O : OwnP} {tmps : Array Value} {v : Value} {w : World} (h : ResultsC P fn tmps v) : ResI P fn R D O tmps v w :=
  fun w₁ _ => ⟨(h w₁).1, fun f => by rw [(h w₁).2]; exact T.idle _ _⟩
/-- What the body of a callee must achieve. -/
def BodyI (P : Program) (fn : Func) (R : RelyI) (D : GuarI) (Post : Value → OwnP → World → Prop) : PostI
  | .normal, O, a, w | .ret, O, a, w => a.defers = [] ∧ ∃ v, ResI P fn R D O a.tmps v w ∧ Post v O w
  | _, _, _, _ => False
/-- A Go function with a body. -/
def EntI (P : Program) (f : FuncId) : Prop := ∃ fn x, P.funcs[f]? = some fn ∧ (fn.name == "runtime.NumGoroutine") = false ∧ fn.body = some x
/-- A contract in company. -/
def CallsI (P : Program) (main : Bool) (R : RelyI) (D : GuarI) (f : FuncId) (args : Array Value) (O : OwnP) (w : World) (Post : Value → OwnP → World → Prop) : Prop :=
  EntI P f ∧ ∀ (c : Frame) (cs : List Frame) (Stop : OwnP → Goroutine → World → Prop), (∀ v O' w', Post v O' w' → GoesI P main R D Stop O' (G (c.finish v) cs) w') →
    GoesI P main R D Stop O (G (Frame.enter P f args .normal) (c :: cs)) w
section
variable {P : Program} {main : Bool} {R : RelyI} {D : GuarI} {O : OwnP} {w : World}
theorem CallsI.mono {f : FuncId} {args : Array Value} {Post Post' : Value → OwnP → World → Prop} (h : CallsI P main R D f args O w Post) (hp : ∀ v O w, Post v O w → Post' v O w) : CallsI P main R D f args O w Post' :=
  ⟨h.1, fun c cs Stop hk => h.2 c cs Stop fun v O' w' p => hk v O' w' (hp v O' w' p)⟩
theorem leaveI {b : Frame} {a : Act} {cs : List Frame} {fn : Func} {todo : List Item} {c : Frame} {v : Value} (hn : b.kind = .normal) (hd : a.defers = []) (hf : P.funcs[b.fn]? = some fn)
    (hr : (results fn a.tmps).run P w = .ok v w) :
    stepG P main (G { b.at a todo with mode := .returning } (c :: cs)) w = .go (G (c.finish v) cs) w (seen P b.fn ((results fn a.tmps).events P w #[])) := by
  simp [G, stepG, unwind, doReturn, Frame.at, hn, hd, hf, hr, GStep.after]
/-- From the body of a function, entered, to its return into a caller's frame. -/
theorem goesI_body (T : TermsI R D) {f : FuncId} {fn : Func} {x : Code} {a : Act} {Post : Value → OwnP → World → Prop} (hf : P.funcs[f]? = some fn)
    (h : CodeI P main R D f x (BodyI P fn R D Post) O a w) (c : Frame) (cs : List Frame) (Stop : OwnP → Goroutine → World → Prop) (hk : ∀ v O' w', Post v O' w' → GoesI P main R D Stop O' (G (c.finish v) cs) w') :
    GoesI P main R D Stop O (G ((base f).at a [.code x]) (c :: cs)) w := by
  have hleave : ∀ (O' : OwnP) (a' : Act) (w' : World) (todo : List Item), (a'.defers = [] ∧ ∃ v, ResI P fn R D O' a'.tmps v w' ∧ Post v O' w') →
      GoesI P main R D Stop O' (G { (base f).at a' todo with mode := .returning } (c :: cs)) w' := by
    rintro O' a' w' todo ⟨hd, v, hr, hp⟩
    refine GoesI.mk rfl fun w₁ h₁ => ?_
    rw [leaveI (b := base f) rfl hd hf (hr w₁ h₁).1]
    exact ⟨_, _, _, O', rfl, (hr w₁ h₁).2 _, (hk v O' w' hp).rely T h₁⟩
  refine h (base f) [] (c :: cs) Stop rfl (by simp [base]) fun e O' a' w' q => ?_
  cases e with
  | normal => exact .quiet T rfl (fun _ => stepG_end) (hleave O' a' w' [] q)
  | ret => exact fun todo => (hleave O' a' w' todo q)
  | exit id => exact q.elim
  | goto l => exact q.elim
  | panic ch => exact q.elim
  | outgrown => exact q.elim
theorem callsI_of (T : TermsI R D) {f : FuncId} {fn : Func} {x : Code} {args : Array Value} {Post : Value → OwnP → World → Prop}
    (hf : P.funcs[f]? = some fn) (hname : (fn.name == "runtime.NumGoroutine") = false) (hb : fn.body = some x)
    (h : CodeI P main R D f x (BodyI P fn R D Post) O { tmps := args ++ Array.replicate (fn.ntmps - args.size) undef, defers := [] } w) : CallsI P main R D f args O w Post :=
  ⟨⟨fn, x, hf, hname, hb⟩, fun c cs Stop hk => by rw [enter_at _ hf hb]; exact goesI_body T hf h c cs Stop hk⟩
/-- A call is entered. -/
theorem goesI_enter (T : TermsI R D) {Stop : OwnP → Goroutine → World → Prop} {b : Frame} {a : Act} {ops : Array Oper} {i : Nat} {rest : List Nat} {o : Oper} {k : List Item} {cs : List Frame} {f : FuncId} {args : Array Operand} {ats : Array TypeId}
    (ho : ops[i]? = some o) (hw : Region.wanted o (yielded ops a.tmps) = true) (hk : b.kind ≠ .early) (hop : o.op = .call { callee := .value (.func f), args := args, argTypes := ats }) (he : EntI P f)
    (h : GoesI P main R D Stop O (G (Frame.enter P f (args.map a.eval) .normal) (b.at a (.inRegion ops (i :: rest) :: k) :: cs)) w) : GoesI P main R D Stop O (G (b.at a (.inRegion ops (i :: rest) :: k)) cs) w := by
  obtain ⟨fn, x, hf, hname, hbody⟩ := he
  rw [enter_at _ hf hbody] at h
  refine GoesI.mk rfl fun w₁ h₁ => ?_
  have h2 : (stepG P main (G (b.at a (.inRegion ops (i :: rest) :: k)) cs) w₁).goes fun g' w' es => ∃ O', D O O' w₁ w' es ∧ GoesI P main R D Stop O' g' w' :=
    goes_call ho hw hk hop hf hname hbody ⟨O, T.idle _ _, h.rely T h₁⟩
  obtain ⟨g', w', es, h3, O', h4, h5⟩ := goes_elim h2
  exact ⟨g', w', es, O', h3, h4, h5⟩
theorem opsI_call (T : TermsI R D) {fn : FuncId} {Q : PostI} {a : Act} {ops : Array Oper} {i : Nat} {rest : List Nat} {o : Oper} {f : FuncId} {args : Array Operand} {ats : Array TypeId} {Post : Value → OwnP → World → Prop}
    (ho : ops[i]? = some o) (hw : Region.wanted o (yielded ops a.tmps) = true) (hop : o.op = .call { callee := .value (.func f), args := args, argTypes := ats })
    (hcall : CallsI P main R D f (args.map a.eval) O w Post) (hnext : ∀ v O' w', Post v O' w' → OpsI P main R D fn ops rest Q O' (a.put o.dst v) w') : OpsI P main R D fn ops (i :: rest) Q O a w := by
  intro b k cs Stop hb hk hc
  refine goesI_enter T ho hw hk hop hcall.1 (hcall.2 _ cs Stop fun v O' w' p => ?_)
  rw [Frame.finish_at, ho]
  exact hnext v O' w' p b k cs Stop hb hk hc
end
/-! ### a region that draws its order -/
section
variable {P : Program} {main : Bool} {R : RelyI} {D : GuarI} {fn : FuncId} {Q : PostI} {ops : Array Oper} {md : Region.Mode}
variable (P main R D fn ops Q) in
/-- Whatever order is picked from here on. -/
def AnyI (md : Region.Mode) : Nat → Array Bool → OwnP → Act → World → Prop
  | 0, listed, O, a, w => Region.ready md ops listed = [] ∧ Q .normal O a w
  | fuel + 1, listed, O, a, w => (Region.ready md ops listed = [] → Q .normal O a w) ∧
      ∀ i ∈ Region.ready md ops listed, ∀ rest, (∀ O' a' w', AnyI md fuel (listed.setIfInBounds i true) O' a' w' → OpsI P main R D fn ops rest Q O' a' w') → OpsI P main R D fn ops (i :: rest) Q O a w
theorem anyI_sound (T : TermsI R D) : ∀ (fuel t : Nat) (listed : Array Bool) (O : OwnP) (a : Act) (w : World), AnyI P main R D fn Q ops md fuel listed O a w →
    OpsI P main R D fn ops (Region.linearise.go md ops fuel t listed []) Q O a w := by
  intro fuel
  induction fuel with
  | zero => intro t listed O a w h; simpa [Region.linearise.go] using opsI_nil T h.2
  | succ fuel ih =>
    intro t listed O a w h
    obtain ⟨h₀, h₁⟩ := h
    simp only [Region.linearise.go]
    change OpsI P main R D fn ops (match (Region.ready md ops listed)[t % (Region.ready md ops listed).length]? with
      | some i => Region.linearise.go md ops fuel (t / (Region.ready md ops listed).length) (listed.setIfInBounds i true) [i]
      | none => [].reverse) Q O a w
    cases hi : (Region.ready md ops listed)[t % (Region.ready md ops listed).length]? with
    | none =>
      have hnil : Region.ready md ops listed = [] := by
        cases hr : Region.ready md ops listed with
        | nil => rfl
        | cons x xs =>
          rw [hr] at hi
          have hlt : t % (x :: xs).length < (x :: xs).length := Nat.mod_lt _ (by simp)
          simp at hi
          simp at hlt
          omega
      simpa using opsI_nil T (h₀ hnil)
    | some i =>
      simp only []
      rw [linearise_go_acc, List.reverse_singleton, List.singleton_append]
      exact h₁ i (List.mem_of_getElem? hi) _ fun O' a' w' x => ih _ _ O' a' w' x
theorem codeI_drawn (T : TermsI R D) {id : Nat} {O : OwnP} {a : Act} {w : World} (hm : P.follows .mixedOrders = true) (hD : ∀ O w, D O O w { w with drawn := w.drawn + 1 } #[])
    (h : ∀ w₁, R O w w₁ → AnyI P main R D fn Q ops .any ops.size (Array.replicate ops.size false) O a { w₁ with drawn := w₁.drawn + 1 }) : CodeI P main R D fn (.region id ops true) Q O a w :=
  fun b k cs Stop hb hk hc => GoesI.mk rfl fun w₁ h₁ => by
    rw [stepG_region_draw]
    refine ⟨_, _, _, O, rfl, hD _ _, ?_⟩
    simp only [Region.schedule, hm, Bool.true_or, if_true]
    exact anyI_sound T ops.size _ _ _ _ _ (h w₁ h₁) b k cs Stop hb hk hc
end
end Go.Proofs.Ytnbgfffcialfkaa

namespace Go.Proofs.Ytnbgfffcialfkaa
open Go Go.Conc
set_option linter.unusedVariables false

/-- What an operation behind the start may be: of goroutine 0 or 1; it reads what is nobody's, or touches what is its own. -/
def Late2 (own : Loc → Option Nat) (op : MemOp) : Prop :=
  (op.g = 0 ∨ op.g = 1) ∧ ∀ x, op.act.touch? = some x → (x.write = false ∧ own x.loc = none) ∨ own x.loc = some op.g
structure Forked2 (own : Loc → Option Nat) (t : Trace) (p : Nat) : Prop where
  wordless : Wordless t
  go : ∃ op, t[p]? = some op ∧ op.g = 0 ∧ op.act = .go 1
  start : ∃ op, t[p + 1]? = some op ∧ op.g = 1 ∧ op.act = .start
  early : ∀ i op, t[i]? = some op → i < p → op.g = 0
  late : ∀ i op, t[i]? = some op → p + 1 < i → Late2 own op
theorem Forked2.append {own : Loc → Option Nat} {t u : Trace} {p : Nat} (h : Forked2 own t p) (hw : Wordless u) (hu : ∀ op ∈ u, Late2 own op) : Forked2 own (t ++ u) p := by
  obtain ⟨g, hg, hg1, hg2⟩ := h.go
  obtain ⟨s, hs, hs1, hs2⟩ := h.start
  have hp1 := lt_size_of_getElem? hs
  refine ⟨h.wordless.append hw, ⟨g, by rw [getElem?_append_old (by omega)]; exact hg, hg1, hg2⟩, ⟨s, by rw [getElem?_append_old hp1]; exact hs, hs1, hs2⟩, fun i op hi hlt => ?_, fun i op hi hlt => ?_⟩
  · rw [getElem?_append_old (by omega)] at hi; exact h.early i op hi hlt
  · rcases getElem?_append_cases hi with ⟨_, hi'⟩ | ⟨_, hm⟩
    · exact h.late i op hi' hlt
    · exact hu op hm
/-- Who owns a place may be said anew where it has not been touched behind the start. -/
theorem Forked2.anew {own own' : Loc → Option Nat} {t : Trace} {p : Nat} (h : Forked2 own t p) (he : ∀ i op x, t[i]? = some op → p + 1 < i → op.act.touch? = some x → own' x.loc = own x.loc) : Forked2 own' t p :=
  ⟨h.wordless, h.go, h.start, h.early, fun i op hi hlt => ⟨(h.late i op hi hlt).1, fun x hx => by rw [he i op x hi hlt hx]; exact (h.late i op hi hlt).2 x hx⟩⟩
theorem Forked2.noRace {own : Loc → Option Nat} {t : Trace} {p : Nat} (h : Forked2 own t p) (said : Bool) : ¬ Race said t := by
  rintro ⟨i, j, hij, ⟨x, y, hx, hy, hloc, _, hwr, _⟩, hn, _⟩
  obtain ⟨oi, hoi, hxi⟩ := touch_of hx
  obtain ⟨oj, hoj, hyj⟩ := touch_of hy
  obtain ⟨g, hg, hg1, hg2⟩ := h.go
  obtain ⟨s, hs, hs1, hs2⟩ := h.start
  have nip : i ≠ p := by rintro rfl; rw [hg] at hoi; cases hoi; simp [hg2, MemAct.touch?] at hxi
  have nip1 : i ≠ p + 1 := by rintro rfl; rw [hs] at hoi; cases hoi; simp [hs2, MemAct.touch?] at hxi
  have njp : j ≠ p := by rintro rfl; rw [hg] at hoj; cases hoj; simp [hg2, MemAct.touch?] at hyj
  have njp1 : j ≠ p + 1 := by rintro rfl; rw [hs] at hoj; cases hoj; simp [hs2, MemAct.touch?] at hyj
  apply hn
  by_cases hi : i < p
  · have gi := h.early i oi hoi hi
    by_cases hj : j < p
    · exact hb_po hij hoi hoj (by rw [gi, h.early j oj hoj hj])
    · rcases (h.late j oj hoj (by omega)).1 with gj | gj
      · exact hb_po hij hoi hoj (by rw [gi, gj])
      · have e1 : HappensBefore t i p := hb_po hi hoi hg (by rw [gi, hg1])
        have e2 : HappensBefore t p (p + 1) := .single (.inr ⟨.spawn (child := 1) (by simp [Trace.act?, hg, hg2]) (by simp [Trace.act?, hs, hs2]) (by simp [Trace.g?, hs, hs1]), h.wordless.heard hg, h.wordless.heard hs⟩)
        have e3 : HappensBefore t (p + 1) j := hb_po (by omega) hs hoj (by rw [hs1, gj])
        exact (e1.trans e2).trans e3
  · have li := h.late i oi hoi (by omega)
    have lj := h.late j oj hoj (by omega)
    rcases li.2 x hxi with ⟨wi, ni⟩ | ni <;> rcases lj.2 y hyj with ⟨wj, nj⟩ | nj
    · exfalso
      rcases hwr with hw | hw
      · rw [wi] at hw; cases hw
      · rw [wj] at hw; cases hw
    · rw [hloc] at ni; rw [ni] at nj; cases nj
    · rw [hloc] at ni; rw [ni] at nj; cases nj
    · rw [hloc] at ni
      rw [ni] at nj
      injection nj with nj
      exact hb_po hij hoi hoj nj
/-- Behind the start only two are there. -/
theorem Forked2.two {own : Loc → Option Nat} {t : Trace} {p : Nat} (hT : Forked2 own t p) {i : Nat} {op : MemOp} (h : t[i]? = some op) : op.g = 0 ∨ op.g = 1 := by
  obtain ⟨g, hg, hg1, _⟩ := hT.go
  obtain ⟨s, hs, hs1, _⟩ := hT.start
  rcases Nat.lt_trichotomy i p with hi | rfl | hi
  · exact .inl (hT.early i op h hi)
  · rw [hg] at h; cases h; exact .inl hg1
  · by_cases h1 : i = p + 1
    · subst h1; rw [hs] at h; cases h; exact .inr hs1
    · exact (hT.late i op h (by omega)).1
end Go.Proofs.Ytnbgfffcialfkaa
