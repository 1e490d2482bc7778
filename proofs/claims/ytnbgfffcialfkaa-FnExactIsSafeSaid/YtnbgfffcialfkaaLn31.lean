/-
  Plain operations and plain code: what a step of a goroutine that runs such code can be. No condition.
-/
import Derived.Test.YtnbgfffcialfkaaLn30
import Derived.Test.YtnbgfffcialfkaaLn01
set_option linter.unusedSimpArgs false
set_option linter.unusedVariables false
namespace Go.Proofs.Ytnbgfffcialfkaa
open Go Go.Conc
set_option linter.unusedVariables false

/-- An operation of the plain kinds; F: the functions that may be called. -/
def plainOp (P : Program) (F : FuncId → Bool) : Op → Bool
  | .move _ | .assign _ | .pick .. | .alloc _ | .box .. | .build .. | .buildSlice .. | .load .. | .store .. | .nilCheck _ | .binOp .. | .unOp .. | .makeSlice .. | .slice .. | .fieldAddr .. | .indexAddr .. | .index .. | .extract .. => true
  | .convert s d _ => (match P.underlying s with | some (.int _) => true | _ => false) && (match P.underlying d with | some (.int _) => true | _ => false)
  | .call c => match c.callee with
    | .value (.func f) => F f
    | .builtin .append | .builtin .len | .builtin .min => true
    | _ => false
  | _ => false
/-- What such an operation may yield. -/
def PlainNext (F : FuncId → Bool) : Next → Prop
  | .value _ | .skip => True
  | .enter f _ => F f = true
  | _ => False
section
variable {P : Program} {F : FuncId → Bool}
theorem fine_panicL {α : Type} (L : α → Prop) (e : RuntimeError) : Fine P L (runtimePanic e) := by
  unfold runtimePanic
  refine fine_bind (L := fun _ => True) fineT_program fun p _ => ?_
  cases e with
  | bounds x y s c => exact trivial
  | error m => exact trivial
  | plain m => exact trivial
  | nilDeref => exact trivial
  | typeAssertion i c a m => exact fine_bind (fine_elemOf _) fun _ _ => fine_bind (fine_newVar _ _) fun _ _ => trivial
  | panicNil => exact fine_bind (fine_elemOf _) fun _ _ => fine_bind (fine_newVar _ _) fun _ _ => trivial
  | unhashable t => exact trivial
theorem fine_underlyingL (t : TypeId) : Fine P (fun d => P.underlying t = some d) (underlying t) := by
  unfold underlying
  change Fine P _ (match P.underlying t with | some d => pure d | none => stuck "no such type")
  split
  · rename_i d h; exact h
  · exact trivial
theorem fine_value {e : Sem Value} (h : FineT P e) : Fine P (PlainNext F) (do pure (Next.value (← e)) : Sem Next) := fine_bind h fun _ _ => trivial
theorem fine_skip {e : Sem Unit} (h : FineT P e) : Fine P (PlainNext F) (do e; pure Next.skip : Sem Next) := fine_bind h fun _ _ => trivial
theorem fine_op (hF : ∀ f, F f = true → EntI P f) {ρ : Operand → Value} (hρ : ∀ f, ρ (.func f) = .func (.func f) #[] #[]) {o : Oper} (h : plainOp P F o.op = true) : Fine P (PlainNext F) (execOp ρ o) := by
  unfold execOp
  cases hop : o.op <;> rw [hop] at h <;> simp only [plainOp, Bool.false_eq_true] at h <;> simp only []
  case move => trivial
  case assign => trivial
  case pick => exact fine_bind (fine_asBool _) fun _ _ => trivial
  case alloc => exact fine_value (fine_alloc _ _ _)
  case box => exact fine_value (fine_box _ _)
  case build => exact fine_value (fine_build _ _)
  case buildSlice => exact fine_value (fine_buildSlice _ _ _)
  case load => exact fine_value (fine_loadAt _ _)
  case store => exact fine_skip (fine_storeAt _ _ _)
  case nilCheck =>
    split
    · exact fine_panicL _ _
    · exact fine_panicL _ _
    · exact fine_panicL _ _
    · split
      · exact fine_panicL _ _
      · refine fine_bind (L := fun _ => True) fineT_program fun _ _ => fine_bind (L := fun _ => True) (fine_nilAhead _ _ _ _) fun _ _ => ?_
        split
        · exact trivial
        · exact trivial
      · exact trivial
    · exact trivial
  case binOp => exact fine_value (fineT_bind (fine_eqGuard _ _ _ _ _ _) fun _ => fine_binOp _ _ _ _)
  case unOp => exact fine_value (fine_unary _ _)
  case makeSlice => exact fine_value (fine_makeSlice _ _ _)
  case slice => exact fine_value (fine_sliceAt _ _ _ _ _)
  case fieldAddr => exact fine_value (fine_fieldAt _ _ _)
  case indexAddr => exact fine_value (fine_indexAt _ _ _)
  case index => exact fine_value (fine_index _ _ _)
  case extract => exact fine_value (fine_extract _ _)
  case convert s d x =>
    refine fine_value ?_
    simp only [Bool.and_eq_true] at h
    obtain ⟨h1, h2⟩ := h
    split at h1
    · rename_i k1 e1
      split at h2
      · rename_i k2 e2
        unfold Go.convert
        refine fine_bind (fine_underlyingL s) fun d1 q1 => fine_bind (fine_underlyingL d) fun d2 q2 => ?_
        rw [e1] at q1
        rw [e2] at q2
        cases q1
        cases q2
        cases x' : ρ x <;> first | exact fine_intToInt _ _ | exact fine_floatToInt _ _ _ | exact trivial | (rename_i a; cases a <;> exact trivial)
      · cases h2
    · cases h1
  case call c =>
    refine fine_bind (L := fun d => (∃ f, F f = true ∧ d.target = .fn (.func f) #[]) ∨ ∃ b t ts cs, (b = .append ∨ b = .len ∨ b = .min) ∧ d.target = .builtin b ts t cs) ?_ ?_
    · unfold resolve
      split at h
      · rename_i f hc
        simp only [hc, hρ]
        exact .inl ⟨f, h, rfl⟩
      · rename_i hc; simp only [hc]; exact .inr ⟨_, _, _, _, .inl rfl, rfl⟩
      · rename_i hc; simp only [hc]; exact .inr ⟨_, _, _, _, .inr (.inl rfl), rfl⟩
      · rename_i hc; simp only [hc]; exact .inr ⟨_, _, _, _, .inr (.inr rfl), rfl⟩
      · cases h
    · rintro d (⟨f, hf, e⟩ | ⟨b, t, ts, cs, hb, e⟩)
      · rw [e]
        unfold invoke callFunc
        obtain ⟨fn, x, h1, h2, h3⟩ := hF f hf
        change Fine P _ (match P.funcs[f]? with | none => stuck "call: no such function" | some fn => _)
        rw [h1]
        simp only [h2, h3, Option.isNone_some, Bool.false_eq_true, if_false]
        exact hf
      · rw [e]
        unfold invoke builtin
        rcases hb with rfl | rfl | rfl
        · exact fine_value (fine_append _ _ _)
        · exact fine_value (fine_len _ _ _)
        · exact fine_value (fine_min _ _ _)
/-- Plain code. -/
def plainCode (P : Program) (F : FuncId → Bool) : Code → Bool
  | .skip | .label _ | .ret | .exit _ => true
  | .seq a b => plainCode P F a && plainCode P F b
  | .cond _ a b => plainCode P F a && plainCode P F b
  | .block _ a => plainCode P F a
  | .loop a => plainCode P F a
  | .region _ ops _ => ops.all fun o => plainOp P F o.op
  | _ => false
def plainItem (P : Program) (F : FuncId → Bool) : Item → Bool
  | .code c => plainCode P F c
  | .inBlock _ => true
  | .inLoop c => plainCode P F c
  | .inRegion ops _ => ops.all fun o => plainOp P F o.op
  | _ => false
/-- The functions that may be called are Go functions with plain bodies. -/
def PlainF (P : Program) (F : FuncId → Bool) : Prop := ∀ f, F f = true → ∃ fn x, P.funcs[f]? = some fn ∧ (fn.name == "runtime.NumGoroutine") = false ∧ fn.body = some x ∧ plainCode P F x = true
theorem PlainF.ent (h : PlainF P F) {f : FuncId} (hf : F f = true) : EntI P f := by
  obtain ⟨fn, x, h1, h2, h3, _⟩ := h f hf
  exact ⟨fn, x, h1, h2, h3⟩
/-- A frame of plain code. -/
structure PlainFr (P : Program) (F : FuncId → Bool) (fr : Frame) : Prop where
  defers : fr.defers = []
  round : fr.roundOf = none
  kind : fr.kind = .normal
  todo : ∀ x ∈ fr.todo, plainItem P F x = true
/-- .. that waits for a call of its own. -/
structure WaitFr (P : Program) (F : FuncId → Bool) (fr : Frame) : Prop extends PlainFr P F fr where
  mode : fr.mode = .run
  at_ : ∃ ops i rest k, fr.todo = .inRegion ops (i :: rest) :: k
end
end Go.Proofs.Ytnbgfffcialfkaa
