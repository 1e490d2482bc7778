/-
  More rules of the walk in company: regions that draw their order and turn memory; links compared, built; results that lie in boxes. No condition.
-/
import Derived.Test.YtnbgfffcialfkaaLn06
import Derived.Test.YtnbgfffcialfkaaLn11
set_option linter.unusedSimpArgs false
set_option linter.unusedVariables false
namespace Go.Proofs.Ytnbgfffcialfkaa
open Go Go.Conc Go.RowKit
set_option linter.unusedVariables false

/-! ### comparisons list nothing -/
/-- An operation that looks at no memory. -/
def Still {α : Type} (P : Program) (L : α → Prop) : Sem α → Prop
  | .pure a => L a
  | .program k => Still P L (k P)
  | .halt _ => True
  | _ => False
section
variable {P : Program} {α β : Type} {L : α → Prop} {L' : β → Prop}
theorem still_bind {e : Sem α} {f : α → Sem β} (h : Still P L e) (hf : ∀ a, L a → Still P L' (f a)) : Still P L' (e >>= f) := by
  change Still P L' (e.bind f)
  induction e with
  | pure a => exact hf a h
  | program k ih => exact ih P h
  | halt x => exact trivial
  | _ => exact h.elim
theorem still_events {e : Sem α} (h : Still P L e) (w : World) (es : Array Event) : (e.runT P w es).2 = es := by
  induction e with
  | pure a => rfl
  | program k ih => exact ih P h
  | halt x => rfl
  | _ => exact h.elim
theorem still_underlying (t : TypeId) : Still P (fun _ => True) (underlying t) := by
  unfold underlying
  change Still P _ (match P.underlying t with | some d => pure d | none => stuck "no such type")
  split <;> exact trivial
theorem still_size (t : TypeId) : Still P (fun _ => True) (sizeOf t) := by
  refine still_bind (L := fun _ => True) ?_ fun _ _ => trivial
  unfold typeInfo
  change Still P _ (match P.info? t with | some i => pure i | none => stuck "no such type")
  split <;> exact trivial
/-- A number, or a struct of numbers. -/
def Flat (v : Value) : Prop := (∃ k n, v = .int k n) ∨ ∃ xs : Array Value, v = .agg xs ∧ ∀ x ∈ xs, ∃ k n, x = .int k n
theorem still_part (t : TypeId) (xs : Array Value) (off : Nat) (h : ∀ x ∈ xs, ∃ k n, x = Value.int k n) : Still P Flat (part t xs off) := by
  unfold part isAgg
  refine still_bind (L := fun _ => True) (still_bind (still_underlying t) fun d _ => by split <;> exact trivial) fun b _ => ?_
  split
  · refine still_bind (still_size t) fun n _ => ?_
    refine .inr ⟨_, rfl, fun x hx => h x ?_⟩
    obtain ⟨i, hi, e⟩ := Array.mem_iff_getElem.1 hx
    rw [Array.getElem_extract] at e
    exact e ▸ Array.getElem_mem _
  · split
    · rename_i v hv
      exact .inl (h v (Array.mem_of_getElem? hv))
    · exact trivial
theorem still_forIn {γ δ : Type} (f : γ → δ → Sem (ForInStep δ)) (hf : ∀ a b, Still P (fun _ => True) (f a b)) : ∀ (l : List γ) (b : δ), Still P (fun _ => True) (forIn l b f) := by
  intro l
  induction l with
  | nil => intro b; exact trivial
  | cons a l ih =>
    intro b
    rw [List.forIn_cons]
    refine still_bind (hf _ _) fun r _ => ?_
    cases r with
    | done b => exact trivial
    | yield b => exact ih b
theorem still_equalIn : ∀ (d : Nat) (t : TypeId) (x y : Value), Flat x → Flat y → Still P (fun _ => True) (Op.equalIn d t x y) := by
  intro d
  induction d with
  | zero => intros; unfold Op.equalIn; exact trivial
  | succ d ih =>
    intro t x y hx hy
    unfold Op.equalIn
    refine still_bind (still_underlying t) fun desc _ => ?_
    rcases hx with ⟨k, n, rfl⟩ | ⟨xs, rfl, hxs⟩ <;> rcases hy with ⟨k', n', rfl⟩ | ⟨ys, rfl, hys⟩
    · cases desc <;> first | exact trivial | (dsimp only; split <;> exact trivial)
    · cases desc <;> exact trivial
    · cases desc <;> exact trivial
    · cases desc <;> first | exact trivial | skip
      · dsimp only
        rename_i len elem
        refine still_bind (still_size elem) fun n _ => ?_
        refine still_bind (L := fun _ => True) ?_ fun r _ => by split <;> exact trivial
        rw [Std.Legacy.Range.forIn_eq_forIn_range']
        refine still_forIn _ (fun a b => ?_) _ _
        refine still_bind (still_part _ _ _ hxs) fun u hu => still_bind (still_part _ _ _ hys) fun u' hu' => still_bind (ih _ _ _ hu hu') fun b _ => ?_
        split <;> exact trivial
      · dsimp only
        rename_i fields
        refine still_bind (L := fun _ => True) (e := program) trivial fun p _ => ?_
        split
        · exact trivial
        · refine still_bind (L := fun _ => True) ?_ fun r _ => by split <;> exact trivial
          rw [← Array.forIn_toList]
          refine still_forIn _ (fun a b => ?_) _ _
          split
          · refine still_bind (still_part _ _ _ hxs) fun u hu => still_bind (still_part _ _ _ hys) fun u' hu' => still_bind (ih _ _ _ hu hu') fun b _ => ?_
            split <;> exact trivial
          · exact trivial
end
section
variable {main : Bool} {R : RelyI} {D : GuarI} {Low : Nat} {c : Option Nat} {fn : FuncId} {Q : PostI} {O0 O : OwnP} {a : Act} {w0 w : World} {ops : Array Oper} {i : Nat} {rest : List Nat} {o : Oper} {L Lw : List (Nat × Obj)} {x y z : Operand} {v : Value}
/-- A region that draws its order, with some boxes that it does not turn. -/
theorem i_heldw {id : Nat} (M : MemI R D Low c) (Lw : List (Nat × Obj)) (hst : StO Low c O0 w0 L O w) (h : ∀ w, StO Low c O0 w0 L O w → AnyIH Try.prog main R D fn .any ops Q (fun O w => StO Low c O0 w0 Lw O w) ops.size (Array.replicate ops.size false) O a w) :
    CodeI Try.prog main R D fn (.region id ops true) Q O a w :=
  codeI_held M.T mixed (fun O w => M.guar (DelO.draw O w)) fun w₁ r => h _ ((hst.rely (M.rely r)).draw _)
/-- .. a call that alone may come up. -/
theorem y_call {fuel : Nat} {listed : Array Bool} {f : FuncId} {args : Array Operand} {ats : Array TypeId} {Rv : Value → Prop} (M : MemI R D Low c) (hs : Lw.Sublist L) (hst : StO Low c O0 w0 L O w) (hr : Region.ready .any ops listed = [i]) (ho : ops[i]? = some o) (hw : Region.wanted o (yielded ops a.tmps) = true)
    (hop : o.op = .call { callee := .value (.func f), args := args, argTypes := ats }) (hcall : ∀ O w, BaseO Low c O w → CallsI Try.prog main R D f (args.map a.eval) O w fun v O' w' => Rv v ∧ KeepO Low c O w O' w')
    (h : ∀ v O' w', Rv v → StO Low c O0 w0 L O' w' → AnyIH Try.prog main R D fn .any ops Q (fun O w => StO Low c O0 w0 Lw O w) fuel (listed.setIfInBounds i true) O' (a.put o.dst v) w') :
    AnyIH Try.prog main R D fn .any ops Q (fun O w => StO Low c O0 w0 Lw O w) (fuel + 1) listed O a w :=
  anyIH_all hr (by simp) fun j hj => by
    obtain rfl : j = i := by simpa using hj
    exact ⟨o, ho, .inl ⟨hw, .inr ⟨f, args, ats, _, hop, hcall O w hst.now, fun v O' w' p => ⟨(hst.calls p.2).weak hs, h v O' w' p.1 (hst.calls p.2)⟩⟩⟩⟩
/-- .. a read that alone may come up. -/
theorem y_ld {fuel : Nat} {listed : Array Bool} (M : MemI R D Low c) (hQR : ∀ O a x y, Q .normal O a x → R O x y → Q .normal O a y) (hs : Lw.Sublist L) (hst : StO Low c O0 w0 L O w) (hr : Region.ready .any ops listed = [i]) (ho : ops[i]? = some o) (hw : Region.wanted o (yielded ops a.tmps) = true)
    (hrd : Rd Low c O0 w0 L a o v) (h : AnyIH Try.prog main R D fn .any ops Q (fun O w => StO Low c O0 w0 Lw O w) fuel (listed.setIfInBounds i true) O (a.put o.dst v) w) :
    AnyIH Try.prog main R D fn .any ops Q (fun O w => StO Low c O0 w0 Lw O w) (fuel + 1) listed O a w :=
  anyIH_all hr (by simp) fun j hj => by
    obtain rfl : j = i := by simpa using hj
    refine ⟨o, ho, .inl ⟨hw, .inl fun w₁ r => ?_⟩⟩
    obtain ⟨e1, e2⟩ := hrd O w₁ (hst.rely (M.rely r))
    rw [e1]
    exact ⟨O, M.guar (del_same fun e he => e2 e (mem_listed he)), (hst.rely (M.rely r)).weak hs, AnyIH.rely M.T (fun O x y h r => h.rely (M.rely r)) hQR _ _ _ _ _ _ h r⟩
theorem y_stL {fuel n g : Nat} {listed : Array Bool} {v0 v1 v2 v3 v4 v5 : Value} {u0 u1 u2 u3 u4 u5 : Int} (M : MemI R D Low c) (hst : StO Low c O0 w0 L O w) (hr : Region.ready .any ops listed = [i]) (ho : ops[i]? = some o) (hw : Region.wanted o (yielded ops a.tmps) = true)
    (hop : o.op = .store 35 x y) (hx : a.eval x = .pointer (some ⟨g, 0, none⟩)) (hy : a.eval y = .agg #[.int .i64 u0, .int .i64 u1, .int .i64 u2, .int .i64 u3, .int .i64 u4, .int .i64 u5]) (hn : L[n]? = some (g, .cells #[v0, v1, v2, v3, v4, v5] 35))
    (hs : Lw.Sublist (L.set n (g, .cells #[.int .i64 u0, .int .i64 u1, .int .i64 u2, .int .i64 u3, .int .i64 u4, .int .i64 u5] 35)))
    (h : ∀ w', StO Low c O0 w0 (L.set n (g, .cells #[.int .i64 u0, .int .i64 u1, .int .i64 u2, .int .i64 u3, .int .i64 u4, .int .i64 u5] 35)) O w' → AnyIH Try.prog main R D fn .any ops Q (fun O w => StO Low c O0 w0 Lw O w) fuel (listed.setIfInBounds i true) O (a.put o.dst undef) w') :
    AnyIH Try.prog main R D fn .any ops Q (fun O w => StO Low c O0 w0 Lw O w) (fuel + 1) listed O a w :=
  anyIH_all hr (by simp) fun j hj => by
    obtain rfl : j = i := by simpa using hj
    refine ⟨o, ho, .inl ⟨hw, .inl fun w₁ r => ?_⟩⟩
    obtain ⟨h1, _, h3⟩ := (hst.rely (M.rely r)).mine _ (List.mem_of_getElem? hn)
    obtain ⟨w2, r1, hs', r2⟩ := run_storeL (u0 := u0) (u1 := u1) (u2 := u2) (u3 := u3) (u4 := u4) (u5 := u5) h3
    have hr := op_skip ⟨r1, r2⟩
    have e : execOp a.eval o = (do Instr.storeAt 35 (.pointer (some ⟨g, 0, none⟩)) (.agg #[.int .i64 u0, .int .i64 u1, .int .i64 u2, .int .i64 u3, .int .i64 u4, .int .i64 u5]); pure Next.skip : Sem Next) := by unfold execOp; rw [hop]; simp only [hx, hy]
    rw [e, hr.1]
    refine ⟨O, M.guar (DelO.set h1 hs' fun e' he => ?_), ((hst.rely (M.rely r)).setN hn hs').weak hs, h _ ((hst.rely (M.rely r)).setN hn hs')⟩
    have := mem_listed he
    rw [e, hr.2] at this
    simp at this
    rcases this with rfl | rfl | rfl | rfl | rfl | rfl <;> exact ev_own h1
theorem y_stI {fuel n g k : Nat} {listed : Array Bool} {t : TypeId} {cs : Array Value} {u : Int} (M : MemI R D Low c) (hst : StO Low c O0 w0 L O w) (hr : Region.ready .any ops listed = [i]) (ho : ops[i]? = some o) (hw : Region.wanted o (yielded ops a.tmps) = true)
    (hop : o.op = .store 3 x y) (hx : a.eval x = .pointer (some ⟨g, k, none⟩)) (hy : a.eval y = .int .i64 u) (hn : L[n]? = some (g, .cells cs t)) (hk : cs[k]? = some v)
    (hs : Lw.Sublist (L.set n (g, .cells (cs.setIfInBounds k (.int .i64 u)) t)))
    (h : ∀ w', StO Low c O0 w0 (L.set n (g, .cells (cs.setIfInBounds k (.int .i64 u)) t)) O w' → AnyIH Try.prog main R D fn .any ops Q (fun O w => StO Low c O0 w0 Lw O w) fuel (listed.setIfInBounds i true) O (a.put o.dst undef) w') :
    AnyIH Try.prog main R D fn .any ops Q (fun O w => StO Low c O0 w0 Lw O w) (fuel + 1) listed O a w :=
  anyIH_all hr (by simp) fun j hj => by
    obtain rfl : j = i := by simpa using hj
    refine ⟨o, ho, .inl ⟨hw, .inl fun w₁ r => ?_⟩⟩
    obtain ⟨h1, _, h3⟩ := (hst.rely (M.rely r)).mine _ (List.mem_of_getElem? hn)
    have hr := op_skip (run_storeI (u := u) h3 hk)
    have hs' := setO_cell h3 k (.int .i64 u)
    have e : execOp a.eval o = (do Instr.storeAt 3 (.pointer (some ⟨g, k, none⟩)) (.int .i64 u); pure Next.skip : Sem Next) := by unfold execOp; rw [hop]; simp only [hx, hy]
    rw [e, hr.1]
    refine ⟨O, M.guar (DelO.set h1 hs' fun e' he => ?_), ((hst.rely (M.rely r)).setN hn hs').weak hs, h _ ((hst.rely (M.rely r)).setN hn hs')⟩
    have := mem_listed he
    rw [e, hr.2] at this
    simp at this
    subst this
    exact ev_own h1
/-! ### more that reckons -/
theorem rd_conv {p : Int} (hop : o.op = .convert 5 3 x) (hx : a.eval x = .int .u8 p) (h : 0 ≤ p ∧ p ≤ 255) : Rd Low c O0 w0 L a o (.int .i64 p) := rd_pure fun w => by
  have hw : IntKind.i64.wrap p = p := IntWalk.i64_in _ (by omega)
  unfold execOp; rw [hop]; simp only [hx]
  constructor
  · simp [hw, go_sem]
  · simp [convert, go_sem, Conv.intToInt]
theorem rd_sub8 {p q : Int} {t t' : TypeId} (hop : o.op = .binOp .sub t x y t') (hx : a.eval x = .int .u8 p) (hy : a.eval y = .int .u8 q) (h : 0 ≤ p - q ∧ p - q ≤ 255) : Rd Low c O0 w0 L a o (.int .u8 (p - q)) := rd_pure fun w => by
  have hw : IntKind.u8.wrap (p - q) = p - q := by simp [IntKind.wrap, IntKind.bits, IntKind.signed]; omega
  unfold execOp; rw [hop]; simp only [hx, hy]; simp [hw, go_sem, eqGuard]
theorem rd_shl {k : Int} {t t' : TypeId} (hop : o.op = .binOp .shl t x y t') (hx : a.eval x = .int .i64 1) (hy : a.eval y = .int .i64 k) (h : 0 ≤ k ∧ k < 4) : Rd Low c O0 w0 L a o (.int .i64 (2 ^ k.toNat)) := rd_pure fun w => by
  have hk : k = 0 ∨ k = 1 ∨ k = 2 ∨ k = 3 := by omega
  unfold execOp; rw [hop]; simp only [hx, hy]
  rcases hk with rfl | rfl | rfl | rfl <;> simp [go_sem, eqGuard] <;> first | done | decide | (constructor <;> decide)
theorem rd_or {p q : Int} {k : Nat} {t t' : TypeId} (hop : o.op = .binOp .or t x y t') (hx : a.eval x = .int .i64 p) (hy : a.eval y = .int .i64 q) (hq : q = 2 ^ k) (h : 0 ≤ p ∧ p < 16 ∧ k < 4) : Rd Low c O0 w0 L a o (.int .i64 (orb p k)) := rd_pure fun w => by
  have hw : wrap64 ((2 : Int) ^ k) = 2 ^ k := by
    have hk : k = 0 ∨ k = 1 ∨ k = 2 ∨ k = 3 := by omega
    rcases hk with rfl | rfl | rfl | rfl <;> decide +kernel
  have e := or_orb p k h.1 h.2.1 h.2.2
  rw [hw] at e
  unfold execOp; rw [hop]; simp only [hx, hy, hq]
  have e2 : Op.intBits .or .i64 p (2 ^ k) = pure (.int .i64 (bits .or .i64 p (2 ^ k))) := rfl
  simp [go_sem, eqGuard, e2, e]
theorem rd_neqL {r l : Lk} {b : Bool} {t' : TypeId} (hop : o.op = .binOp .neq 35 x y t') (hx : a.eval x = .agg #[.int .i64 r.kn, .int .i64 r.s, .int .i64 r.d, .int .i64 r.h, .int .i64 r.da, .int .i64 r.wo]) (hy : a.eval y = .agg #[.int .i64 l.kn, .int .i64 l.s, .int .i64 l.d, .int .i64 l.h, .int .i64 l.da, .int .i64 l.wo]) (hb : decide (r ≠ l) = b) : Rd Low c O0 w0 L a o (.bool b) := rd_pure fun w => by
  subst hb
  have h35 : Try.prog.eqGuardType Try.prog.depth 35 = false := by kernel_rfl
  have hg : ∀ (xs ys : Array Value), Still Try.prog (fun _ => True) (eqGuard .neq 35 x y (.agg xs) (.agg ys)) := fun xs ys => by
    unfold eqGuard
    dsimp only
    refine still_bind (L := fun p => p = Try.prog) (e := program) rfl fun p hp => ?_
    subst hp
    refine still_bind (L := fun p => p = Try.prog) (e := program) rfl fun p hp => ?_
    subst hp
    rw [h35]
    exact trivial
  have hr : ∀ (xs ys : Array Value), (eqGuard .neq 35 x y (.agg xs) (.agg ys)).run Try.prog w = .ok () w := fun xs ys => by
    exact run_eqGuard_agg _ _ _ _ _ _ _ h35
  unfold execOp
  rw [hop]
  simp only [hx, hy]
  constructor
  · have := neq_links r l w
    simp only [Sem.run_bind, hr, Result.andThen_ok, this]
    rfl
  · refine still_events (P := Try.prog) (L := fun _ => True) ?_ w #[]
    refine still_bind (L := fun _ => True) (still_bind (L := fun _ => True) (hg _ _) fun _ _ => ?_) fun _ _ => ?_
    rotate_left
    · exact trivial
    have hf : ∀ (k s d h da wo : Int), Flat (.agg #[.int .i64 k, .int .i64 s, .int .i64 d, .int .i64 h, .int .i64 da, .int .i64 wo]) := fun k s d h da wo => .inr ⟨_, rfl, fun x hx => by
      simp at hx
      rcases hx with rfl | rfl | rfl | rfl | rfl | rfl <;> exact ⟨_, _, rfl⟩⟩
    exact still_bind (L := fun _ => True) (L' := fun _ => True) (e := Op.equal _ _ _) (f := fun b => pure (Value.bool (!b))) (still_equalIn _ _ _ _ (hf _ _ _ _ _ _) (hf _ _ _ _ _ _)) fun _ _ => trivial
/-! ### results that lie in boxes -/
theorem run_varL {w : World} {g : Nat} {v0 v1 v2 v3 v4 v5 : Value} (h : w.heap[g]? = some (.cells #[v0, v1, v2, v3, v4, v5] 35)) :
    (loadVar 35 ⟨g, 0, none⟩).run Try.prog w = .ok (.agg #[v0, v1, v2, v3, v4, v5]) w ∧ (loadVar 35 ⟨g, 0, none⟩).events Try.prog w #[] = #[⟨.cell ⟨g, 0, none⟩, false, false⟩, ⟨.cell ⟨g, 1, none⟩, false, false⟩, ⟨.cell ⟨g, 2, none⟩, false, false⟩, ⟨.cell ⟨g, 3, none⟩, false, false⟩, ⟨.cell ⟨g, 4, none⟩, false, false⟩, ⟨.cell ⟨g, 5, none⟩, false, false⟩] := by
  have h := run_loadL h
  simpa [Instr.loadAt, Instr.sureAddr] using h
theorem resI_of {fd : Func} {tmps : Array Value} {g : Nat} {v0 v1 v2 v3 v4 v5 v : Value} (M : MemI R D Low c) (hst : StO Low c O0 w0 L O w) (hm : (g, .cells #[v0, v1, v2, v3, v4, v5] 35) ∈ L)
    (h : ∀ w, (loadVar 35 ⟨g, 0, none⟩).run Try.prog w = .ok (.agg #[v0, v1, v2, v3, v4, v5]) w → (results fd tmps).run Try.prog w = .ok v w ∧ (results fd tmps).events Try.prog w #[] = (loadVar 35 ⟨g, 0, none⟩).events Try.prog w #[]) : ResI Try.prog fd R D O tmps v w := fun w₁ r => by
  obtain ⟨h1, _, h3⟩ := (hst.rely (M.rely r)).mine _ hm
  have hv := run_varL h3
  have hr := h w₁ hv.1
  refine ⟨hr.1, fun f => M.guar (del_same fun e he => ?_)⟩
  have := mem_seen he
  rw [hr.2, hv.2] at this
  simp at this
  rcases this with rfl | rfl | rfl | rfl | rfl | rfl <;> exact ev_own h1
theorem resI_L1 {fd : Func} {tmps : Array Value} {g k : Nat} {v0 v1 v2 v3 v4 v5 : Value} (M : MemI R D Low c) (hst : StO Low c O0 w0 L O w) (hf : fd.results = #[.cell k 35]) (hk : tmps.getD k undef = .pointer (some ⟨g, 0, none⟩)) (hm : (g, .cells #[v0, v1, v2, v3, v4, v5] 35) ∈ L) :
    ResI Try.prog fd R D O tmps (.agg #[v0, v1, v2, v3, v4, v5]) w := resI_of M hst hm fun w hv => by
  simp only [results, hf]
  have hk' := hk
  simp at hk'
  simp [hk', hv, asAddr]
theorem resI_L2 {fd : Func} {tmps : Array Value} {g k k2 : Nat} {v0 v1 v2 v3 v4 v5 u : Value} (M : MemI R D Low c) (hst : StO Low c O0 w0 L O w) (hf : fd.results = #[.cell k 35, .tmp k2]) (hk : tmps.getD k undef = .pointer (some ⟨g, 0, none⟩)) (hk2 : tmps.getD k2 undef = u) (hm : (g, .cells #[v0, v1, v2, v3, v4, v5] 35) ∈ L) :
    ResI Try.prog fd R D O tmps (.tuple #[.agg #[v0, v1, v2, v3, v4, v5], u]) w := resI_of M hst hm fun w hv => by
  simp only [results, hf]
  subst hk2
  have hk' := hk
  simp at hk'
  simp [hk', hv, asAddr]
theorem resI_L3 {fd : Func} {tmps : Array Value} {g k k2 k3 : Nat} {v0 v1 v2 v3 v4 v5 u u' : Value} (M : MemI R D Low c) (hst : StO Low c O0 w0 L O w) (hf : fd.results = #[.cell k 35, .tmp k2, .tmp k3]) (hk : tmps.getD k undef = .pointer (some ⟨g, 0, none⟩)) (hk2 : tmps.getD k2 undef = u) (hk3 : tmps.getD k3 undef = u') (hm : (g, .cells #[v0, v1, v2, v3, v4, v5] 35) ∈ L) :
    ResI Try.prog fd R D O tmps (.tuple #[.agg #[v0, v1, v2, v3, v4, v5], u, u']) w := resI_of M hst hm fun w hv => by
  simp only [results, hf]
  subst hk2 hk3
  have hk' := hk
  simp at hk'
  simp [hk', hv, asAddr]
/-- A cut: what holds between two pieces of code. -/
theorem codeI_mid {P : Program} (T : TermsI R D) {x y : Code} (M : OwnP → Act → World → Prop) (h1 : CodeI P main R D fn x (ThenI M Q) O a w) (h2 : ∀ O a w, M O a w → CodeI P main R D fn y Q O a w) : CodeI P main R D fn (.seq x y) Q O a w :=
  codeI_seq T (ItemI.post h1 fun e O a w q => by cases e <;> first | exact h2 _ _ _ q | exact q)
end
end Go.Proofs.Ytnbgfffcialfkaa
