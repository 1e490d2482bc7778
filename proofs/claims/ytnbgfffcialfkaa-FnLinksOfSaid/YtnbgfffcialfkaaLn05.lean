/-
  The rules of the walk in company for plans and links in boxes: loads, stores, new boxes. No condition.
  The rules of the walk in company, one an operation: what reads, what reckons, what makes or turns a box. No condition.
-/
import Derived.Test.YtnbgfffcialfkaaLn04
set_option linter.unusedSimpArgs false
set_option linter.unusedVariables false
namespace Go.Proofs.Ytnbgfffcialfkaa
open Go Go.Conc Go.RowKit
set_option linter.unusedVariables false

section
variable {Low : Nat} {c : Option Nat} {O0 O O' : OwnP} {w0 w w₁ w' : World} {L : List (Nat × Obj)}
theorem cells_at {w : World} {g : Nat} {cs : Array Value} {t : TypeId} (h : w.heap[g]? = some (.cells cs t)) (i : Nat) : w.cell? ⟨g, i, none⟩ = cs[i]? := cell_of_row w g i cs t (0, 0) h
theorem frozen_at {w : World} {g : Nat} {cs : Array Value} {t : TypeId} (h : w.heap[g]? = some (.cells cs t)) (i : Nat) : w.frozen? ⟨g, i, none⟩ = false := by
  simp [World.frozen?, h]
theorem ev_own {Low : Nat} {O : OwnP} {g i : Nat} {b s : Bool} (h : O g) : EvO Low O ⟨.cell ⟨g, i, none⟩, b, s⟩ := ⟨(fun _ h => by cases h), .inr ⟨g, rfl, .inr h⟩⟩
/-- The guarantee of a step that turns nothing. -/
theorem del_same {es : Array Event} (h : ∀ e ∈ es, EvO Low O e) : DelO Low c O O w w es := ⟨rfl, rfl, rfl, Nat.le_refl _, fun _ _ _ => rfl, fun _ h => h, fun _ h => .inl h, h⟩
end
section
theorem run_loadP {w : World} {g : Nat} {v0 v1 v2 v3 : Value} (h : w.heap[g]? = some (.cells #[v0, v1, v2, v3] 25)) :
    (Instr.loadAt 25 (.pointer (some ⟨g, 0, none⟩))).run Try.prog w = .ok (.agg #[v0, v1, v2, v3]) w ∧ (Instr.loadAt 25 (.pointer (some ⟨g, 0, none⟩))).events Try.prog w #[] = #[⟨.cell ⟨g, 0, none⟩, false, false⟩, ⟨.cell ⟨g, 1, none⟩, false, false⟩, ⟨.cell ⟨g, 2, none⟩, false, false⟩, ⟨.cell ⟨g, 3, none⟩, false, false⟩] := by
  have h0 := cells_at h 0
  have h1 := cells_at h 1
  have h2 := cells_at h 2
  have h3 := cells_at h 3
  simp at h0 h1 h2 h3
  constructor
  · go_simp
  · simp [go_sem, *]
theorem run_loadL {w : World} {g : Nat} {v0 v1 v2 v3 v4 v5 : Value} (h : w.heap[g]? = some (.cells #[v0, v1, v2, v3, v4, v5] 35)) :
    (Instr.loadAt 35 (.pointer (some ⟨g, 0, none⟩))).run Try.prog w = .ok (.agg #[v0, v1, v2, v3, v4, v5]) w ∧ (Instr.loadAt 35 (.pointer (some ⟨g, 0, none⟩))).events Try.prog w #[] = #[⟨.cell ⟨g, 0, none⟩, false, false⟩, ⟨.cell ⟨g, 1, none⟩, false, false⟩, ⟨.cell ⟨g, 2, none⟩, false, false⟩, ⟨.cell ⟨g, 3, none⟩, false, false⟩, ⟨.cell ⟨g, 4, none⟩, false, false⟩, ⟨.cell ⟨g, 5, none⟩, false, false⟩] := by
  have h0 := cells_at h 0
  have h1 := cells_at h 1
  have h2 := cells_at h 2
  have h3 := cells_at h 3
  have h4 := cells_at h 4
  have h5 := cells_at h 5
  simp at h0 h1 h2 h3 h4 h5
  constructor
  · go_simp
  · simp [go_sem, *]
theorem run_loadI {w : World} {g i : Nat} {cs : Array Value} {t : TypeId} {v : Value} (h : w.heap[g]? = some (.cells cs t)) (hv : cs[i]? = some v) :
    (Instr.loadAt 3 (.pointer (some ⟨g, i, none⟩))).run Try.prog w = .ok v w ∧ (Instr.loadAt 3 (.pointer (some ⟨g, i, none⟩))).events Try.prog w #[] = #[⟨.cell ⟨g, i, none⟩, false, false⟩] := by
  have h0 := (cells_at h i).trans hv
  constructor
  · go_simp
  · simp [go_sem, *]
theorem run_fieldP0 {w : World} {g : Nat} : (Instr.fieldAt 25 (.pointer (some ⟨g, 0, none⟩)) 0).run Try.prog w = .ok (.pointer (some ⟨g, 0, none⟩)) w ∧ (Instr.fieldAt 25 (.pointer (some ⟨g, 0, none⟩)) 0).events Try.prog w #[] = #[] := by
  constructor
  · go_simp
  · simp [go_sem]
theorem run_fieldP1 {w : World} {g : Nat} : (Instr.fieldAt 25 (.pointer (some ⟨g, 0, none⟩)) 1).run Try.prog w = .ok (.pointer (some ⟨g, 1, none⟩)) w ∧ (Instr.fieldAt 25 (.pointer (some ⟨g, 0, none⟩)) 1).events Try.prog w #[] = #[] := by
  constructor
  · go_simp
  · simp [go_sem]
theorem run_fieldP2 {w : World} {g : Nat} : (Instr.fieldAt 25 (.pointer (some ⟨g, 0, none⟩)) 2).run Try.prog w = .ok (.pointer (some ⟨g, 2, none⟩)) w ∧ (Instr.fieldAt 25 (.pointer (some ⟨g, 0, none⟩)) 2).events Try.prog w #[] = #[] := by
  constructor
  · go_simp
  · simp [go_sem]
theorem run_fieldP3 {w : World} {g : Nat} : (Instr.fieldAt 25 (.pointer (some ⟨g, 0, none⟩)) 3).run Try.prog w = .ok (.pointer (some ⟨g, 3, none⟩)) w ∧ (Instr.fieldAt 25 (.pointer (some ⟨g, 0, none⟩)) 3).events Try.prog w #[] = #[] := by
  constructor
  · go_simp
  · simp [go_sem]
theorem run_fieldL0 {w : World} {g : Nat} : (Instr.fieldAt 35 (.pointer (some ⟨g, 0, none⟩)) 0).run Try.prog w = .ok (.pointer (some ⟨g, 0, none⟩)) w ∧ (Instr.fieldAt 35 (.pointer (some ⟨g, 0, none⟩)) 0).events Try.prog w #[] = #[] := by
  constructor
  · go_simp
  · simp [go_sem]
theorem run_fieldL1 {w : World} {g : Nat} : (Instr.fieldAt 35 (.pointer (some ⟨g, 0, none⟩)) 1).run Try.prog w = .ok (.pointer (some ⟨g, 1, none⟩)) w ∧ (Instr.fieldAt 35 (.pointer (some ⟨g, 0, none⟩)) 1).events Try.prog w #[] = #[] := by
  constructor
  · go_simp
  · simp [go_sem]
theorem run_fieldL2 {w : World} {g : Nat} : (Instr.fieldAt 35 (.pointer (some ⟨g, 0, none⟩)) 2).run Try.prog w = .ok (.pointer (some ⟨g, 2, none⟩)) w ∧ (Instr.fieldAt 35 (.pointer (some ⟨g, 0, none⟩)) 2).events Try.prog w #[] = #[] := by
  constructor
  · go_simp
  · simp [go_sem]
theorem run_fieldL3 {w : World} {g : Nat} : (Instr.fieldAt 35 (.pointer (some ⟨g, 0, none⟩)) 3).run Try.prog w = .ok (.pointer (some ⟨g, 3, none⟩)) w ∧ (Instr.fieldAt 35 (.pointer (some ⟨g, 0, none⟩)) 3).events Try.prog w #[] = #[] := by
  constructor
  · go_simp
  · simp [go_sem]
theorem run_fieldL4 {w : World} {g : Nat} : (Instr.fieldAt 35 (.pointer (some ⟨g, 0, none⟩)) 4).run Try.prog w = .ok (.pointer (some ⟨g, 4, none⟩)) w ∧ (Instr.fieldAt 35 (.pointer (some ⟨g, 0, none⟩)) 4).events Try.prog w #[] = #[] := by
  constructor
  · go_simp
  · simp [go_sem]
theorem run_fieldL5 {w : World} {g : Nat} : (Instr.fieldAt 35 (.pointer (some ⟨g, 0, none⟩)) 5).run Try.prog w = .ok (.pointer (some ⟨g, 5, none⟩)) w ∧ (Instr.fieldAt 35 (.pointer (some ⟨g, 0, none⟩)) 5).events Try.prog w #[] = #[] := by
  constructor
  · go_simp
  · simp [go_sem]
theorem run_boxP {w : World} {v0 v1 v2 v3 : Value} : (Instr.box 25 (.agg #[v0, v1, v2, v3])).run Try.prog w = .ok (.pointer (some ⟨w.heap.size, 0, none⟩)) (w.alloc (.cells #[v0, v1, v2, v3] 25)) ∧ (Instr.box 25 (.agg #[v0, v1, v2, v3])).events Try.prog w #[] = #[] := by
  constructor
  · go_simp
  · simp [go_sem]
theorem run_boxL {w : World} {v0 v1 v2 v3 v4 v5 : Value} : (Instr.box 35 (.agg #[v0, v1, v2, v3, v4, v5])).run Try.prog w = .ok (.pointer (some ⟨w.heap.size, 0, none⟩)) (w.alloc (.cells #[v0, v1, v2, v3, v4, v5] 35)) ∧ (Instr.box 35 (.agg #[v0, v1, v2, v3, v4, v5])).events Try.prog w #[] = #[] := by
  constructor
  · go_simp
  · simp [go_sem]
theorem infoLz : (Try.prog.info? 35).map (·.zero) = some (some (.agg #[.int .i64 0, .int .i64 0, .int .i64 0, .int .i64 0, .int .i64 0, .int .i64 0])) := by kernel_rfl
/-- The noughts of a link. -/
abbrev noughts : Array Value := #[.int .i64 0, .int .i64 0, .int .i64 0, .int .i64 0, .int .i64 0, .int .i64 0]
theorem run_allocL {w : World} : (Instr.alloc 35 true (.tuple #[])).run Try.prog w = .ok (.pointer (some ⟨w.heap.size, 0, none⟩)) (w.alloc (.cells noughts 35)) ∧ (Instr.alloc 35 true (.tuple #[])).events Try.prog w #[] = #[] := by
  constructor
  · go_simp
  · simp [go_sem]
/-- One block is turned. -/
structure SetO (w w' : World) (g : Nat) (t : TypeId) (cs : Array Value) : Prop where
  tape : w'.tape = w.tape
  os : w'.os = w.os
  output : w'.output = w.output
  size : w'.heap.size = w.heap.size
  else_ : ∀ k, k ≠ g → w'.heap[k]? = w.heap[k]?
  at_ : w'.heap[g]? = some (.cells cs t)
theorem setO_cell {w : World} {g : Nat} {t : TypeId} {cs : Array Value} (h : w.heap[g]? = some (.cells cs t)) (i : Nat) (v : Value) : SetO w (w.setCell ⟨g, i, none⟩ v) g t (cs.setIfInBounds i v) := by
  refine ⟨rfl, rfl, rfl, by simp [World.setCell], fun k hk => ?_, ?_⟩
  · simp only [World.setCell, Array.getElem?_modify]
    rw [if_neg (by omega)]
  · simp only [World.setCell, Array.getElem?_modify, if_true, h]
    rfl
theorem SetO.trans {w w1 w2 : World} {g : Nat} {t : TypeId} {cs cs' : Array Value} (h : SetO w w1 g t cs) (h' : SetO w1 w2 g t cs') : SetO w w2 g t cs' :=
  ⟨h'.tape.trans h.tape, h'.os.trans h.os, h'.output.trans h.output, h'.size.trans h.size, fun k hk => (h'.else_ k hk).trans (h.else_ k hk), h'.at_⟩
theorem run_storeI {w : World} {g i : Nat} {cs : Array Value} {t : TypeId} {v : Value} {u : Int} (h : w.heap[g]? = some (.cells cs t)) (hv : cs[i]? = some v) :
    (Instr.storeAt 3 (.pointer (some ⟨g, i, none⟩)) (.int .i64 u)).run Try.prog w = .ok () (w.setCell ⟨g, i, none⟩ (.int .i64 u)) ∧ (Instr.storeAt 3 (.pointer (some ⟨g, i, none⟩)) (.int .i64 u)).events Try.prog w #[] = #[⟨.cell ⟨g, i, none⟩, true, false⟩] := by
  have h0 := (cells_at h i).trans hv
  have f0 := frozen_at h i
  constructor <;> simp [go_sem, *]
theorem run_storeL {w : World} {g : Nat} {v0 v1 v2 v3 v4 v5 : Value} {u0 u1 u2 u3 u4 u5 : Int} (h : w.heap[g]? = some (.cells #[v0, v1, v2, v3, v4, v5] 35)) :
    ∃ w', (Instr.storeAt 35 (.pointer (some ⟨g, 0, none⟩)) (.agg #[.int .i64 u0, .int .i64 u1, .int .i64 u2, .int .i64 u3, .int .i64 u4, .int .i64 u5])).run Try.prog w = .ok () w' ∧ SetO w w' g 35 #[.int .i64 u0, .int .i64 u1, .int .i64 u2, .int .i64 u3, .int .i64 u4, .int .i64 u5] ∧
      (Instr.storeAt 35 (.pointer (some ⟨g, 0, none⟩)) (.agg #[.int .i64 u0, .int .i64 u1, .int .i64 u2, .int .i64 u3, .int .i64 u4, .int .i64 u5])).events Try.prog w #[] = #[⟨.cell ⟨g, 0, none⟩, true, false⟩, ⟨.cell ⟨g, 1, none⟩, true, false⟩, ⟨.cell ⟨g, 2, none⟩, true, false⟩, ⟨.cell ⟨g, 3, none⟩, true, false⟩, ⟨.cell ⟨g, 4, none⟩, true, false⟩, ⟨.cell ⟨g, 5, none⟩, true, false⟩] := by
  have s0 := setO_cell h 0 (.int .i64 u0)
  have s1 := setO_cell s0.at_ 1 (.int .i64 u1)
  have s2 := setO_cell s1.at_ 2 (.int .i64 u2)
  have s3 := setO_cell s2.at_ 3 (.int .i64 u3)
  have s4 := setO_cell s3.at_ 4 (.int .i64 u4)
  have s5 := setO_cell s4.at_ 5 (.int .i64 u5)
  have c0 := cells_at h 0
  have c1 := cells_at s0.at_ 1
  have c2 := cells_at s1.at_ 2
  have c3 := cells_at s2.at_ 3
  have c4 := cells_at s3.at_ 4
  have c5 := cells_at s4.at_ 5
  have f0 := frozen_at h 0
  have f1 := frozen_at s0.at_ 1
  have f2 := frozen_at s1.at_ 2
  have f3 := frozen_at s2.at_ 3
  have f4 := frozen_at s3.at_ 4
  have f5 := frozen_at s4.at_ 5
  simp at c0 c1 c2 c3 c4 c5
  refine ⟨_, ?_, ((((s0.trans s1).trans s2).trans s3).trans s4).trans s5, ?_⟩
  · simp [go_sem, *]
  · simp [go_sem, *]
/-! ### at the grain of an operation -/
variable {main : Bool} {Low : Nat} {c : Option Nat} {fn : FuncId} {Q : PostI} {O0 O : OwnP} {a : Act} {w0 w : World} {ops : Array Oper} {i : Nat} {rest : List Nat} {o : Oper} {L : List (Nat × Obj)} {K : OwnP → Act → World → Prop}
theorem op_value {s : Sem Value} {v : Value} {w w' : World} {es : Array Event} (h : s.run Try.prog w = .ok v w' ∧ s.events Try.prog w #[] = es) :
    (do pure (Next.value (← s)) : Sem Next).run Try.prog w = .ok (.value v) w' ∧ (do pure (Next.value (← s)) : Sem Next).events Try.prog w #[] = es := by
  obtain ⟨h1, h2⟩ := h
  subst h2
  constructor
  · simp [h1]
  · simp [h1]
theorem op_skip {s : Sem Unit} {w w' : World} {es : Array Event} (h : s.run Try.prog w = .ok () w' ∧ s.events Try.prog w #[] = es) :
    (do s; pure Next.skip : Sem Next).run Try.prog w = .ok .skip w' ∧ (do s; pure Next.skip : Sem Next).events Try.prog w #[] = es := by
  obtain ⟨h1, h2⟩ := h
  subst h2
  constructor
  · simp [h1]
  · simp [h1]
theorem listed_own {w : World} {es : Array Event} (h : (execOp a.eval o).events Try.prog w #[] = es) (hes : ∀ e ∈ es, EvO Low O e) : ∀ e ∈ listed Try.prog fn a o w, EvO Low O e := fun e he => hes e (h ▸ mem_listed he)
end
end Go.Proofs.Ytnbgfffcialfkaa

namespace Go.Proofs.Ytnbgfffcialfkaa
open Go Go.Conc Go.RowKit
set_option linter.unusedVariables false

/-- An operation that reads: the value, in every world that holds these boxes. -/
def Rd (Low : Nat) (c : Option Nat) (O0 : OwnP) (w0 : World) (L : List (Nat × Obj)) (a : Act) (o : Oper) (v : Value) : Prop :=
  ∀ O w, StO Low c O0 w0 L O w → (execOp a.eval o).run Try.prog w = .ok (.value v) w ∧ ∀ e ∈ (execOp a.eval o).events Try.prog w #[], EvO Low O e
section
variable {main : Bool} {R : RelyI} {D : GuarI} {Low : Nat} {c : Option Nat} {fn : FuncId} {Q : PostI} {O0 O : OwnP} {a : Act} {w0 w : World} {ops : Array Oper} {i : Nat} {rest : List Nat} {o : Oper} {L : List (Nat × Obj)} {x y z : Operand} {v : Value}
/-! ### what reads -/
theorem rd_pure (h : ∀ w, (execOp a.eval o).run Try.prog w = .ok (.value v) w ∧ (execOp a.eval o).events Try.prog w #[] = #[]) : Rd Low c O0 w0 L a o v :=
  fun O w _ => ⟨(h w).1, fun e he => by rw [(h w).2] at he; simp at he⟩
theorem rd_move (hop : o.op = .move x) (hx : a.eval x = v) : Rd Low c O0 w0 L a o v := rd_pure fun w => by unfold execOp; rw [hop]; subst hx; exact ⟨rfl, rfl⟩
theorem rd_assign (hop : o.op = .assign x) (hx : a.eval x = v) : Rd Low c O0 w0 L a o v := rd_pure fun w => by unfold execOp; rw [hop]; subst hx; exact ⟨rfl, rfl⟩
theorem rd_pickT {u : Value} (hop : o.op = .pick x y z) (hx : a.eval x = .bool true) (hy : a.eval y = u) : Rd Low c O0 w0 L a o u := rd_pure fun w => by unfold execOp; rw [hop]; subst hy; simp only [hx]; simp [go_sem]
theorem rd_pickF {u : Value} (hop : o.op = .pick x y z) (hx : a.eval x = .bool false) (hz : a.eval z = u) : Rd Low c O0 w0 L a o u := rd_pure fun w => by unfold execOp; rw [hop]; subst hz; simp only [hx]; simp [go_sem]
theorem rd_extract {vs : Array Value} {k : Nat} (hop : o.op = .extract x k) (hx : a.eval x = .tuple vs) (hv : vs[k]? = some v) : Rd Low c O0 w0 L a o v := rd_pure fun w => by unfold execOp; rw [hop]; simp only [hx]; simp [hv, go_sem]
theorem rd_loadP {g : Nat} {v0 v1 v2 v3 : Value} (hop : o.op = .load 25 x) (hx : a.eval x = .pointer (some ⟨g, 0, none⟩)) (hm : (g, .cells #[v0, v1, v2, v3] 25) ∈ L) : Rd Low c O0 w0 L a o (.agg #[v0, v1, v2, v3]) := fun O w hst => by
  obtain ⟨h1, h2, h3⟩ := hst.mine _ hm
  have := op_value (run_loadP h3)
  unfold execOp
  rw [hop]
  simp only [hx]
  refine ⟨this.1, fun e he => ?_⟩
  rw [this.2] at he
  simp at he
  rcases he with rfl | rfl | rfl | rfl <;> exact ev_own h1
theorem rd_loadL {g : Nat} {v0 v1 v2 v3 v4 v5 : Value} (hop : o.op = .load 35 x) (hx : a.eval x = .pointer (some ⟨g, 0, none⟩)) (hm : (g, .cells #[v0, v1, v2, v3, v4, v5] 35) ∈ L) : Rd Low c O0 w0 L a o (.agg #[v0, v1, v2, v3, v4, v5]) := fun O w hst => by
  obtain ⟨h1, h2, h3⟩ := hst.mine _ hm
  have := op_value (run_loadL h3)
  unfold execOp
  rw [hop]
  simp only [hx]
  refine ⟨this.1, fun e he => ?_⟩
  rw [this.2] at he
  simp at he
  rcases he with rfl | rfl | rfl | rfl | rfl | rfl <;> exact ev_own h1
theorem rd_loadI {g k : Nat} {t : TypeId} {cs : Array Value} (hop : o.op = .load 3 x) (hx : a.eval x = .pointer (some ⟨g, k, none⟩)) (hm : (g, .cells cs t) ∈ L) (hv : cs[k]? = some v) : Rd Low c O0 w0 L a o v := fun O w hst => by
  obtain ⟨h1, h2, h3⟩ := hst.mine _ hm
  have := op_value (run_loadI h3 hv)
  unfold execOp
  rw [hop]
  simp only [hx]
  refine ⟨this.1, fun e he => ?_⟩
  rw [this.2] at he
  simp at he
  subst he
  exact ev_own h1
theorem rd_fieldP {g k : Nat} (hk : k < 4) (hop : o.op = .fieldAddr 25 x k) (hx : a.eval x = .pointer (some ⟨g, 0, none⟩)) : Rd Low c O0 w0 L a o (.pointer (some ⟨g, k, none⟩)) := rd_pure fun w => by
  unfold execOp
  rw [hop]
  simp only [hx]
  match k, hk with
  | 0, _ => exact op_value run_fieldP0
  | 1, _ => exact op_value run_fieldP1
  | 2, _ => exact op_value run_fieldP2
  | 3, _ => exact op_value run_fieldP3
theorem rd_fieldL {g k : Nat} (hk : k < 6) (hop : o.op = .fieldAddr 35 x k) (hx : a.eval x = .pointer (some ⟨g, 0, none⟩)) : Rd Low c O0 w0 L a o (.pointer (some ⟨g, k, none⟩)) := rd_pure fun w => by
  unfold execOp
  rw [hop]
  simp only [hx]
  match k, hk with
  | 0, _ => exact op_value run_fieldL0
  | 1, _ => exact op_value run_fieldL1
  | 2, _ => exact op_value run_fieldL2
  | 3, _ => exact op_value run_fieldL3
  | 4, _ => exact op_value run_fieldL4
  | 5, _ => exact op_value run_fieldL5
/-! ### what reckons -/
section
variable {p q : Int} {t t' : TypeId}
theorem rd_eqT {k : IntKind} (hop : o.op = .binOp .eql t x y t') (hx : a.eval x = .int k p) (hy : a.eval y = .int k q) (h : p = q) : Rd Low c O0 w0 L a o (.bool true) := rd_pure fun w => by unfold execOp; rw [hop]; simp only [hx, hy]; simp [h, go_sem, eqGuard]
theorem rd_eqF {k : IntKind} (hop : o.op = .binOp .eql t x y t') (hx : a.eval x = .int k p) (hy : a.eval y = .int k q) (h : p ≠ q) : Rd Low c O0 w0 L a o (.bool false) := rd_pure fun w => by unfold execOp; rw [hop]; simp only [hx, hy]; simp [h, go_sem, eqGuard]
theorem rd_neT {k : IntKind} (hop : o.op = .binOp .neq t x y t') (hx : a.eval x = .int k p) (hy : a.eval y = .int k q) (h : p ≠ q) : Rd Low c O0 w0 L a o (.bool true) := rd_pure fun w => by unfold execOp; rw [hop]; simp only [hx, hy]; simp [h, go_sem, eqGuard]
theorem rd_neF {k : IntKind} (hop : o.op = .binOp .neq t x y t') (hx : a.eval x = .int k p) (hy : a.eval y = .int k q) (h : p = q) : Rd Low c O0 w0 L a o (.bool false) := rd_pure fun w => by unfold execOp; rw [hop]; simp only [hx, hy]; simp [h, go_sem, eqGuard]
theorem rd_ltT {k : IntKind} (hop : o.op = .binOp .lss t x y t') (hx : a.eval x = .int k p) (hy : a.eval y = .int k q) (h : p < q) : Rd Low c O0 w0 L a o (.bool true) := rd_pure fun w => by unfold execOp; rw [hop]; simp only [hx, hy]; simp [h, go_sem, eqGuard]
theorem rd_ltF {k : IntKind} (hop : o.op = .binOp .lss t x y t') (hx : a.eval x = .int k p) (hy : a.eval y = .int k q) (h : ¬ p < q) : Rd Low c O0 w0 L a o (.bool false) := rd_pure fun w => by unfold execOp; rw [hop]; simp only [hx, hy]; simp [h, go_sem, eqGuard]; try omega
theorem rd_leT {k : IntKind} (hop : o.op = .binOp .leq t x y t') (hx : a.eval x = .int k p) (hy : a.eval y = .int k q) (h : p ≤ q) : Rd Low c O0 w0 L a o (.bool true) := rd_pure fun w => by unfold execOp; rw [hop]; simp only [hx, hy]; simp [h, go_sem, eqGuard]
theorem rd_leF {k : IntKind} (hop : o.op = .binOp .leq t x y t') (hx : a.eval x = .int k p) (hy : a.eval y = .int k q) (h : ¬ p ≤ q) : Rd Low c O0 w0 L a o (.bool false) := rd_pure fun w => by unfold execOp; rw [hop]; simp only [hx, hy]; simp [h, go_sem, eqGuard]; try omega
theorem rd_add (hop : o.op = .binOp .add t x y t') (hx : a.eval x = .int .i64 p) (hy : a.eval y = .int .i64 q) (h : -1000000 ≤ p + q ∧ p + q ≤ 1000000) : Rd Low c O0 w0 L a o (.int .i64 (p + q)) := rd_pure fun w => by
  have hw : IntKind.i64.wrap (p + q) = p + q := IntWalk.i64_in _ (by omega)
  unfold execOp; rw [hop]; simp only [hx, hy]; simp [hw, go_sem, eqGuard]
theorem rd_rem (hop : o.op = .binOp .rem t x y t') (hx : a.eval x = .int .i64 p) (hy : a.eval y = .int .i64 q) (h : q ≠ 0) : Rd Low c O0 w0 L a o (.int .i64 (p.tmod q)) := rd_pure fun w => by
  unfold execOp; rw [hop]; simp only [hx, hy]; simp [h, go_sem, eqGuard]
theorem rd_quo (hop : o.op = .binOp .quo t x y t') (hx : a.eval x = .int .i64 p) (hy : a.eval y = .int .i64 q) (h : q ≠ 0) (hr : -1000000 ≤ p.tdiv q ∧ p.tdiv q ≤ 1000000) : Rd Low c O0 w0 L a o (.int .i64 (p.tdiv q)) := rd_pure fun w => by
  have hw : IntKind.i64.wrap (p.tdiv q) = p.tdiv q := IntWalk.i64_in _ (by omega)
  unfold execOp; rw [hop]; simp only [hx, hy]; simp [h, hw, go_sem, eqGuard]
theorem rd_notT (hop : o.op = .unOp .not t x) (hx : a.eval x = .bool true) : Rd Low c O0 w0 L a o (.bool false) := rd_pure fun w => by unfold execOp; rw [hop]; simp only [hx]; simp [go_sem]
theorem rd_notF (hop : o.op = .unOp .not t x) (hx : a.eval x = .bool false) : Rd Low c O0 w0 L a o (.bool true) := rd_pure fun w => by unfold execOp; rw [hop]; simp only [hx]; simp [go_sem]
theorem rd_min {ts : Array TypeId} (hop : o.op = .call { callee := .builtin .min, args := #[x, y], argTypes := ts }) (hx : a.eval x = .int .i64 p) (hy : a.eval y = .int .i64 q) : Rd Low c O0 w0 L a o (.int .i64 (min p q)) := rd_pure fun w => by
  have hm : (if q < p then q else p) = min p q := by rw [Int.min_def]; split <;> split <;> omega
  unfold execOp; rw [hop]; simp only [resolve, List.map_toArray, List.map_cons, List.map_nil, hx, hy]; simp [hm, go_sem, invoke, builtin, Builtin.min_, Builtin.min2]
end
/-! ### the rules -/
/-- The next operation reads. -/
theorem i_rd (M : MemI R D Low c) (hst : StO Low c O0 w0 L O w) (ho : ops[i]? = some o) (hw : Region.wanted o (yielded ops a.tmps) = true) (hr : Rd Low c O0 w0 L a o v)
    (h : OpsI Try.prog main R D fn ops rest Q O (a.put o.dst v) w) : OpsI Try.prog main R D fn ops (i :: rest) Q O a w :=
  opsI_read M.T ho hw (fun w₁ r => (hr O w₁ (hst.rely (M.rely r))).1) (fun w₁ r => M.guar (del_same fun e he => (hr O w₁ (hst.rely (M.rely r))).2 e (mem_listed he))) h
/-- .. makes a box. -/
def Mk (a : Act) (o : Oper) (t : TypeId) (cs : Array Value) : Prop := ∀ w, (execOp a.eval o).run Try.prog w = .ok (.value (.pointer (some ⟨w.heap.size, 0, none⟩))) (w.alloc (.cells cs t)) ∧ (execOp a.eval o).events Try.prog w #[] = #[]
theorem mk_boxP {v0 v1 v2 v3 : Value} (hop : o.op = .box 25 x) (hx : a.eval x = .agg #[v0, v1, v2, v3]) : Mk a o 25 #[v0, v1, v2, v3] := fun w => by unfold execOp; rw [hop]; simp only [hx]; exact op_value run_boxP
theorem mk_boxL {v0 v1 v2 v3 v4 v5 : Value} (hop : o.op = .box 35 x) (hx : a.eval x = .agg #[v0, v1, v2, v3, v4, v5]) : Mk a o 35 #[v0, v1, v2, v3, v4, v5] := fun w => by unfold execOp; rw [hop]; simp only [hx]; exact op_value run_boxL
theorem mk_allocL (hop : o.op = .alloc 35) : Mk a o 35 noughts := fun w => by unfold execOp; rw [hop]; exact op_value run_allocL
theorem DelO.alloc (w : World) (x : Obj) : DelO Low c O (fun k => O k ∨ k = w.heap.size) w (w.alloc x) #[] :=
  ⟨rfl, rfl, rfl, by simp, fun k hk _ => Below.heap_alloc w x k hk, fun k h => .inl h, fun k h => h.elim .inl fun e => .inr ⟨by omega, by simp; omega⟩, by simp⟩
theorem i_new {t : TypeId} {cs : Array Value} (M : MemI R D Low c) (hst : StO Low c O0 w0 L O w) (ho : ops[i]? = some o) (hw : Region.wanted o (yielded ops a.tmps) = true) (hr : Mk a o t cs)
    (h : ∀ g O' w', StO Low c O0 w0 ((g, .cells cs t) :: L) O' w' → OpsI Try.prog main R D fn ops rest Q O' (a.put o.dst (.pointer (some ⟨g, 0, none⟩))) w') : OpsI Try.prog main R D fn ops (i :: rest) Q O a w :=
  opsI_cons ho hw fun w₁ r => by
    rw [(hr w₁).1]
    exact ⟨_, by rw [listed_nil (hr w₁).2]; exact M.guar (DelO.alloc w₁ _), h _ _ _ ((hst.rely (M.rely r)).alloc (.cells cs t))⟩
theorem StO.setN {n g : Nat} {t : TypeId} {cs cs' : Array Value} {w' : World} (h : StO Low c O0 w0 L O w) (hn : L[n]? = some (g, .cells cs t)) (hs : SetO w w' g t cs') : StO Low c O0 w0 (L.set n (g, .cells cs' t)) O w' := by
  obtain ⟨hlt, hge⟩ := List.getElem?_eq_some_iff.1 hn
  have hm : (g, .cells cs t) ∈ L := List.mem_of_getElem? hn
  obtain ⟨m1, m2, m3⟩ := h.mine _ hm
  simp only at m1 m2 m3
  have e : (L.set n (g, .cells cs' t)).map (·.1) = L.map (·.1) := by
    rw [List.map_set]
    refine List.ext_getElem? fun k => ?_
    by_cases hk : n = k
    · subst hk; simp [hlt, hge]
    · simp [hk]
  have hnd : (L.map (·.1)).Nodup := h.nodup
  refine ⟨h.base, ⟨hs.tape.trans h.keep.tape, hs.os.trans h.keep.os, hs.output.trans h.keep.output, by rw [hs.size]; exact h.keep.size, h.keep.sub, fun k e1 e2 e3 => (hs.else_ k (by omega)).trans (h.keep.kept k e1 e2 e3), h.keep.new, fun k hk => by rw [hs.size]; exact h.keep.lt k hk⟩, fun y hy => ?_, by rw [e]; exact hnd⟩
  obtain ⟨k, hk⟩ := List.mem_iff_getElem?.1 hy
  by_cases hkn : n = k
  · subst hkn
    simp [hlt] at hk
    subst hk
    exact ⟨m1, m2, hs.at_⟩
  · rw [List.getElem?_set_ne hkn] at hk
    obtain ⟨e1, e2, e3⟩ := h.mine y (List.mem_of_getElem? hk)
    refine ⟨e1, e2, (hs.else_ _ fun e' => ?_).trans e3⟩
    have h1 : (L.map (·.1))[n]? = some g := by simp [hn]
    have h2 : (L.map (·.1))[k]? = some g := by simp [hk, e']
    obtain ⟨l1, g1⟩ := List.getElem?_eq_some_iff.1 h1
    obtain ⟨l2, g2⟩ := List.getElem?_eq_some_iff.1 h2
    have hpw := List.pairwise_iff_getElem.1 hnd
    rcases Nat.lt_trichotomy n k with hl | hl | hl
    · exact hpw n k l1 l2 hl (g1.trans g2.symm)
    · exact hkn hl
    · exact hpw k n l2 l1 hl (g2.trans g1.symm)
theorem DelO.set {g : Nat} {t : TypeId} {cs' : Array Value} {w w' : World} {es : Array Event} (hg : O g) (hs : SetO w w' g t cs') (he : ∀ e ∈ es, EvO Low O e) : DelO Low c O O w w' es :=
  ⟨hs.tape, hs.os, hs.output, by rw [hs.size]; exact Nat.le_refl _, fun k _ hk => hs.else_ k fun e => hk (e ▸ hg), fun _ h => h, fun _ h => .inl h, he⟩
/-- .. turns a number within a box. -/
theorem i_stI {n g k : Nat} {t : TypeId} {cs : Array Value} {u : Int} (M : MemI R D Low c) (hst : StO Low c O0 w0 L O w) (ho : ops[i]? = some o) (hw : Region.wanted o (yielded ops a.tmps) = true)
    (hop : o.op = .store 3 x y) (hx : a.eval x = .pointer (some ⟨g, k, none⟩)) (hy : a.eval y = .int .i64 u) (hn : L[n]? = some (g, .cells cs t)) (hk : cs[k]? = some v)
    (h : ∀ w', StO Low c O0 w0 (L.set n (g, .cells (cs.setIfInBounds k (.int .i64 u)) t)) O w' → OpsI Try.prog main R D fn ops rest Q O (a.put o.dst undef) w') : OpsI Try.prog main R D fn ops (i :: rest) Q O a w :=
  opsI_cons ho hw fun w₁ r => by
    obtain ⟨h1, _, h3⟩ := (hst.rely (M.rely r)).mine _ (List.mem_of_getElem? hn)
    have hr := op_skip (run_storeI (u := u) h3 hk)
    have hs := setO_cell h3 k (.int .i64 u)
    have e : execOp a.eval o = (do Instr.storeAt 3 (.pointer (some ⟨g, k, none⟩)) (.int .i64 u); pure Next.skip : Sem Next) := by unfold execOp; rw [hop]; simp only [hx, hy]
    rw [e, hr.1]
    refine ⟨O, M.guar (DelO.set h1 hs fun e' he => ?_), h _ ((hst.rely (M.rely r)).setN hn hs)⟩
    have := mem_listed he
    rw [e, hr.2] at this
    simp at this
    subst this
    exact ev_own h1
/-- .. turns a link's box. -/
theorem i_stL {n g : Nat} {v0 v1 v2 v3 v4 v5 : Value} {u0 u1 u2 u3 u4 u5 : Int} (M : MemI R D Low c) (hst : StO Low c O0 w0 L O w) (ho : ops[i]? = some o) (hw : Region.wanted o (yielded ops a.tmps) = true)
    (hop : o.op = .store 35 x y) (hx : a.eval x = .pointer (some ⟨g, 0, none⟩)) (hy : a.eval y = .agg #[.int .i64 u0, .int .i64 u1, .int .i64 u2, .int .i64 u3, .int .i64 u4, .int .i64 u5]) (hn : L[n]? = some (g, .cells #[v0, v1, v2, v3, v4, v5] 35))
    (h : ∀ w', StO Low c O0 w0 (L.set n (g, .cells #[.int .i64 u0, .int .i64 u1, .int .i64 u2, .int .i64 u3, .int .i64 u4, .int .i64 u5] 35)) O w' → OpsI Try.prog main R D fn ops rest Q O (a.put o.dst undef) w') : OpsI Try.prog main R D fn ops (i :: rest) Q O a w :=
  opsI_cons ho hw fun w₁ r => by
    obtain ⟨h1, _, h3⟩ := (hst.rely (M.rely r)).mine _ (List.mem_of_getElem? hn)
    obtain ⟨w2, r1, hs, r2⟩ := run_storeL (u0 := u0) (u1 := u1) (u2 := u2) (u3 := u3) (u4 := u4) (u5 := u5) h3
    have hr := op_skip ⟨r1, r2⟩
    have e : execOp a.eval o = (do Instr.storeAt 35 (.pointer (some ⟨g, 0, none⟩)) (.agg #[.int .i64 u0, .int .i64 u1, .int .i64 u2, .int .i64 u3, .int .i64 u4, .int .i64 u5]); pure Next.skip : Sem Next) := by unfold execOp; rw [hop]; simp only [hx, hy]
    rw [e, hr.1]
    refine ⟨O, M.guar (DelO.set h1 hs fun e' he => ?_), h _ ((hst.rely (M.rely r)).setN hn hs)⟩
    have := mem_listed he
    rw [e, hr.2] at this
    simp at this
    rcases this with rfl | rfl | rfl | rfl | rfl | rfl <;> exact ev_own h1
/-- .. is a call, through its contract. -/
theorem i_call {f : FuncId} {args : Array Operand} {ats : Array TypeId} {Rv : Value → Prop} (M : MemI R D Low c) (hst : StO Low c O0 w0 L O w) (ho : ops[i]? = some o) (hw : Region.wanted o (yielded ops a.tmps) = true)
    (hop : o.op = .call { callee := .value (.func f), args := args, argTypes := ats }) (hcall : ∀ O w, BaseO Low c O w → CallsI Try.prog main R D f (args.map a.eval) O w fun v O' w' => Rv v ∧ KeepO Low c O w O' w')
    (h : ∀ v O' w', Rv v → StO Low c O0 w0 L O' w' → OpsI Try.prog main R D fn ops rest Q O' (a.put o.dst v) w') : OpsI Try.prog main R D fn ops (i :: rest) Q O a w :=
  opsI_call M.T ho hw hop (hcall O w hst.now) fun v O' w' p => h v O' w' p.1 (hst.calls p.2)
/-- In a region that draws its order. -/
theorem y_rd (M : MemI R D Low c) (hw : Region.wanted o (yielded ops a.tmps) = true) (hr : Rd Low c O0 w0 L a o v) : YieldsI Try.prog D fn ops (fun O w => StO Low c O0 w0 L O w) o v a :=
  .inl ⟨hw, fun O w h => ⟨(hr O w h).1, M.guar (del_same fun e he => (hr O w h).2 e (mem_listed he))⟩⟩
theorem y_un (hw : Region.wanted o (yielded ops a.tmps) = false) : YieldsI Try.prog D fn ops (fun O w => StO Low c O0 w0 L O w) o undef a := .inr ⟨hw, rfl⟩
theorem mixed : Try.prog.follows .mixedOrders = true := by kernel_rfl
theorem DelO.draw (O : OwnP) (w : World) : DelO Low c O O w { w with drawn := w.drawn + 1 } #[] := ⟨rfl, rfl, rfl, Nat.le_refl _, fun _ _ _ => rfl, fun _ h => h, fun _ h => .inl h, by simp⟩
/-- .. which begins. -/
theorem i_held {id : Nat} (M : MemI R D Low c) (hst : StO Low c O0 w0 L O w) (h : ∀ w, StO Low c O0 w0 L O w → AnyIH Try.prog main R D fn .any ops Q (fun O w => StO Low c O0 w0 L O w) ops.size (Array.replicate ops.size false) O a w) :
    CodeI Try.prog main R D fn (.region id ops true) Q O a w :=
  codeI_held M.T mixed (fun O w => M.guar (DelO.draw O w)) fun w₁ r => h _ ((hst.rely (M.rely r)).draw _)
end
end Go.Proofs.Ytnbgfffcialfkaa
