/-
  The law FnExactIsSafe as goroutine 0, from what the model's IsSafe and the program's IsSafe answer. No condition but these.
  A law's run, as goroutine 0, ends well: in one word. No condition.
  Rules in company for what the laws do: plans in boxes, comparisons, lengths. No condition.
  What IsSafe answers, the model's and the program's, in one place. No condition.
-/
import Derived.Test.YtnbgfffcialfkaaLn34
import Derived.Test.YtnbgfffcialfkaaLn27
import Derived.Test.YtnbgfffcialfkaaLn25
import Derived.Test.YtnbgfffcialfkaaLn28
set_option linter.unusedSimpArgs false
set_option linter.unusedVariables false
namespace Go.Proofs.Ytnbgfffcialfkaa
open Go Go.Conc Go.RowKit
set_option linter.unusedVariables false

theorem toP_any (n a k m : Int) (w : World) : Calls Try.prog 11 #[(.agg #[.int .i64 n, .int .i64 a, .int .i64 k, .int .i64 m])] w fun e w' => e = .returned (.agg #[.int .i64 n, .int .i64 a, .int .i64 k, .int .i64 m]) ∧ Below w.heap.size w w' := by
  go_enter Try.func11, Try.ntmps11
  go_wp2
  exact bodyPost_ret (v := (.agg #[.int .i64 n, .int .i64 a, .int .i64 k, .int .i64 m])) (by simp [results, Try.results11, go_sem]) rfl ⟨rfl, (by repeat (first | exact Below.refl _ _ | assumption | refine Below.alloc ?_ (by first | exact Nat.le_refl _ | (simp; done) | (simp; omega)) _ | refine Below.setCell ?_ (by first | (simp; done) | (simp; omega)) _))⟩
theorem run_boxQ {w : World} {v0 v1 v2 v3 : Value} : (Instr.box 23 (.agg #[v0, v1, v2, v3])).run Try.prog w = .ok (.pointer (some ⟨w.heap.size, 0, none⟩)) (w.alloc (.cells #[v0, v1, v2, v3] 23)) ∧ (Instr.box 23 (.agg #[v0, v1, v2, v3])).events Try.prog w #[] = #[] := by
  constructor
  · go_simp
  · simp [go_sem]
theorem run_loadQ {w : World} {g : Nat} {v0 v1 v2 v3 : Value} (h : w.heap[g]? = some (.cells #[v0, v1, v2, v3] 23)) :
    (Instr.loadAt 23 (.pointer (some ⟨g, 0, none⟩))).run Try.prog w = .ok (.agg #[v0, v1, v2, v3]) w ∧ (Instr.loadAt 23 (.pointer (some ⟨g, 0, none⟩))).events Try.prog w #[] = #[⟨.cell ⟨g, 0, none⟩, false, false⟩, ⟨.cell ⟨g, 1, none⟩, false, false⟩, ⟨.cell ⟨g, 2, none⟩, false, false⟩, ⟨.cell ⟨g, 3, none⟩, false, false⟩] := by
  have h0 := cells_at h 0
  have h1 := cells_at h 1
  have h2 := cells_at h 2
  have h3 := cells_at h 3
  simp at h0 h1 h2 h3
  constructor
  · go_simp
  · simp [go_sem, *]
section
variable {Low : Nat} {c : Option Nat} {O0 O : OwnP} {a : Act} {w0 w : World} {o : Oper} {L : List (Nat × Obj)} {x y : Operand}
theorem rd_loadQ {g : Nat} {v0 v1 v2 v3 : Value} (hop : o.op = .load 23 x) (hx : a.eval x = .pointer (some ⟨g, 0, none⟩)) (hm : (g, .cells #[v0, v1, v2, v3] 23) ∈ L) : Rd Low c O0 w0 L a o (.agg #[v0, v1, v2, v3]) := fun O w hst => by
  obtain ⟨h1, h2, h3⟩ := hst.mine _ hm
  have := op_value (run_loadQ h3)
  unfold execOp
  rw [hop]
  simp only [hx]
  refine ⟨this.1, fun e he => ?_⟩
  rw [this.2] at he
  simp at he
  rcases he with rfl | rfl | rfl | rfl <;> exact ev_own h1
theorem rd_neqB {b : Bool} (hop : o.op = .binOp .neq 4 x y 4) (hx : a.eval x = .bool b) (hy : a.eval y = .bool b) : Rd Low c O0 w0 L a o (.bool false) := rd_pure fun w => by unfold execOp; rw [hop]; simp only [hx, hy]; cases b <;> exact ⟨by kernel_rfl, by kernel_rfl⟩
end
set_option maxRecDepth 100000 in
set_option maxHeartbeats 3200000 in
theorem issafe_runs (n a k m : Int) (B : Bool) (hspec : ∀ w, Calls Try.prog 10 #[.agg #[.int .i64 n, .int .i64 a, .int .i64 k, .int .i64 m]] w fun e w' => e = .returned (.bool B) ∧ Below w.heap.size w w') (W : World)
    (himpl : ∀ O0 w0, BaseO 0 none O0 w0 → CallsX Try.prog true PhR PhD (PhF Try.prog (.agg noughts) (fun v w' => v = .bool true ∧ Below W.heap.size W w')) 12 #[.agg #[.int .i64 n, .int .i64 a, .int .i64 k, .int .i64 m]] .front O0 w0 fun s v O' w' => (s = .front ∨ s = .back) ∧ v = .bool B ∧ KeepO 0 none O0 w0 O' w') :
    ∃ M last o w' t', runNT Try.prog (M + 1) (solo (G (Frame.enter Try.prog 3 #[.agg #[.int .i64 n, .int .i64 a, .int .i64 k, .int .i64 m]] .normal) []) W) #[] = (.ended o w', t') ∧ runN Try.prog M (solo (G (Frame.enter Try.prog 3 #[.agg #[.int .i64 n, .int .i64 a, .int .i64 k, .int .i64 m]] .normal) []) W) = .next last ∧ step Try.prog last = .ended o w' ∧
      Conc.Good Try.prog (fun v w' => v = .bool true ∧ Below W.heap.size W w') last o w' t' := by
  have hb : BaseO 0 none (fun k => k < W.heap.size) W := ⟨fun x h => (by cases h), Nat.zero_le _, fun k h => h⟩
  have hst := hb.st
  have M : MemI (PhR .front) (PhD .front) 0 none := memF 0
  have T := termsPh
  refine law_runs (z := .agg noughts) (O := fun k => k < W.heap.size) Try.func3 (by rfl) rfl (by kernel_rfl) ?_
  simp only [Try.ntmps3, List.size_toArray, List.length_cons, List.length_nil, Nat.reduceAdd, Nat.reduceSub, Array.replicate_succ, Array.replicate_zero, List.push_toArray, List.append_toArray, List.nil_append, List.cons_append]
  refine codeX_seq T (itemX_of ?_)
  simp only [ThenX]
  refine codeI_region M.T ?_
  simp only [List.size_toArray, List.length_cons, List.length_nil, Nat.reduceAdd, Nat.zero_add, List.range, List.range.loop]
  refine i_newV (val := fun g => .pointer (some ⟨g, 0, none⟩)) (ob := .cells #[.int .i64 n, .int .i64 a, .int .i64 k, .int .i64 m] 23) M hst rfl (by rfl) (fun w => ?_) ?_
  · unfold execOp
    exact op_value run_boxQ
  intro gq O w hst
  walk_nrm
  repeat (first | (refine i_rd M hst rfl (by rfl) (by first | exact rd_move rfl rfl | exact rd_assign rfl rfl) ?_; walk_nrm) | (refine codeI_region M.T ?_; simp only [List.size_toArray, List.length_cons, List.length_nil, Nat.reduceAdd, Nat.zero_add, List.range, List.range.loop]) | (refine opsI_nil M.T ?_; try simp only [ThenI, BlockI, if_true]) | (refine codeI_cond M.T (v := true) rfl ?_; simp only [if_true]) | (refine codeI_cond M.T (v := false) rfl ?_; simp only [Bool.false_eq_true, if_false]) | (refine codeI_block M.T ?_) | (refine codeI_skip M.T ?_; try simp only [ThenI, BlockI, if_true]) | (refine codeI_label M.T ?_; try simp only [ThenI, BlockI, if_true]) | (refine codeI_exit M.T ?_; try simp only [ThenI, BlockI, if_true]) | (refine codeI_ret M.T ?_; try simp only [ThenI, BlockI]))
  refine codeX_seq T (itemX_of ?_)
  simp only [ThenX]
  refine codeI_region M.T ?_
  simp only [List.size_toArray, List.length_cons, List.length_nil, Nat.reduceAdd, Nat.zero_add, List.range, List.range.loop]
  (refine i_rd M hst rfl (by rfl) (rd_loadQ rfl rfl (.head _)) ?_; walk_nrm)
  (refine i_call (Rv := fun v => v = .agg #[.int .i64 n, .int .i64 a, .int .i64 k, .int .i64 m]) M hst rfl (by rfl) rfl (fun O w hb => by walk_nrm; exact (plain_call (by kernel_rfl) (toP_any n a k m) O w hb)) ?_; rintro _ O w rfl hst; walk_nrm)
  (refine i_call (Rv := fun v => v = .bool B) M hst rfl (by rfl) rfl (fun O w hb => by walk_nrm; exact (plain_call (by kernel_rfl) hspec O w hb)) ?_; rintro _ O w rfl hst; walk_nrm)
  repeat (first | (refine i_rd M hst rfl (by rfl) (by first | exact rd_move rfl rfl | exact rd_assign rfl rfl) ?_; walk_nrm) | (refine codeI_region M.T ?_; simp only [List.size_toArray, List.length_cons, List.length_nil, Nat.reduceAdd, Nat.zero_add, List.range, List.range.loop]) | (refine opsI_nil M.T ?_; try simp only [ThenI, BlockI, if_true]) | (refine codeI_cond M.T (v := true) rfl ?_; simp only [if_true]) | (refine codeI_cond M.T (v := false) rfl ?_; simp only [Bool.false_eq_true, if_false]) | (refine codeI_block M.T ?_) | (refine codeI_skip M.T ?_; try simp only [ThenI, BlockI, if_true]) | (refine codeI_label M.T ?_; try simp only [ThenI, BlockI, if_true]) | (refine codeI_exit M.T ?_; try simp only [ThenI, BlockI, if_true]) | (refine codeI_ret M.T ?_; try simp only [ThenI, BlockI]))
  refine codeX_seq T ?_
  refine codeX_region T ?_
  simp only [List.size_toArray, List.length_cons, List.length_nil, Nat.reduceAdd, Nat.zero_add, List.range, List.range.loop]
  (refine p_rd M hst rfl (by rfl) (rd_loadQ rfl rfl (.head _)) ?_; walk_nrm)
  refine opsX_call T rfl (by rfl) rfl (callsX_of_callsI (by walk_nrm; exact plain_call (by kernel_rfl) (toP_any n a k m) _ _ hst.now)) ?_
  rintro s' v O w ⟨rfl, rfl, hk⟩
  replace hst := hst.calls hk
  clear hk
  walk_nrm
  refine opsX_call T rfl (by rfl) rfl (by walk_nrm; exact himpl _ _ hst.now) ?_
  rintro s' v O w ⟨hs, rfl, hk⟩
  replace hst := hst.calls hk
  clear hk M
  have M : MemI (PhR s') (PhD s') 0 none := by rcases hs with rfl | rfl <;> exact memF 0
  walk_nrm
  refine itemX_of ?_
  repeat (first | (refine i_rd M hst rfl (by rfl) (by first | exact rd_move rfl rfl | exact rd_assign rfl rfl) ?_; walk_nrm) | (refine codeI_seq M.T ?_) | (refine codeI_region M.T ?_; simp only [List.size_toArray, List.length_cons, List.length_nil, Nat.reduceAdd, Nat.zero_add, List.range, List.range.loop]) | (refine opsI_nil M.T ?_; try simp only [ThenI, BlockI, if_true]) | (refine codeI_cond M.T (v := true) rfl ?_; simp only [if_true]) | (refine codeI_cond M.T (v := false) rfl ?_; simp only [Bool.false_eq_true, if_false]) | (refine codeI_block M.T ?_) | (refine codeI_skip M.T ?_; try simp only [ThenI, BlockI, if_true]) | (refine codeI_label M.T ?_; try simp only [ThenI, BlockI, if_true]) | (refine codeI_exit M.T ?_; try simp only [ThenI, BlockI, if_true]) | (refine codeI_ret M.T ?_; try simp only [ThenI, BlockI]))
  try simp only [ThenX, ThenI]
  refine codeX_seq T (itemX_of ?_)
  simp only [ThenX]
  refine codeI_seq M.T ?_
  refine codeI_region M.T ?_
  simp only [List.size_toArray, List.length_cons, List.length_nil, Nat.reduceAdd, Nat.zero_add, List.range, List.range.loop]
  (refine i_rd M hst rfl (by rfl) (rd_move rfl rfl) ?_; walk_nrm)
  (refine i_rd M hst rfl (by rfl) (rd_move rfl rfl) ?_; walk_nrm)
  (refine i_rd M hst rfl (by rfl) (rd_neqB rfl rfl rfl) ?_; walk_nrm)
  repeat (first | (refine i_rd M hst rfl (by rfl) (by first | exact rd_move rfl rfl | exact rd_assign rfl rfl) ?_; walk_nrm) | (refine codeI_seq M.T ?_) | (refine codeI_region M.T ?_; simp only [List.size_toArray, List.length_cons, List.length_nil, Nat.reduceAdd, Nat.zero_add, List.range, List.range.loop]) | (refine opsI_nil M.T ?_; try simp only [ThenI, BlockI, if_true]) | (refine codeI_cond M.T (v := true) rfl ?_; simp only [if_true]) | (refine codeI_cond M.T (v := false) rfl ?_; simp only [Bool.false_eq_true, if_false]) | (refine codeI_block M.T ?_) | (refine codeI_skip M.T ?_; try simp only [ThenI, BlockI, if_true]) | (refine codeI_label M.T ?_; try simp only [ThenI, BlockI, if_true]) | (refine codeI_exit M.T ?_; try simp only [ThenI, BlockI, if_true]) | (refine codeI_ret M.T ?_; try simp only [ThenI, BlockI]))
  try simp only [ThenX, ThenI]
  refine itemX_of ?_
  repeat (first | (refine i_rd M hst rfl (by rfl) (by first | exact rd_move rfl rfl | exact rd_assign rfl rfl) ?_; walk_nrm) | (refine codeI_seq M.T ?_) | (refine codeI_region M.T ?_; simp only [List.size_toArray, List.length_cons, List.length_nil, Nat.reduceAdd, Nat.zero_add, List.range, List.range.loop]) | (refine opsI_nil M.T ?_; try simp only [ThenI, BlockI, if_true]) | (refine codeI_cond M.T (v := true) rfl ?_; simp only [if_true]) | (refine codeI_cond M.T (v := false) rfl ?_; simp only [Bool.false_eq_true, if_false]) | (refine codeI_block M.T ?_) | (refine codeI_skip M.T ?_; try simp only [ThenI, BlockI, if_true]) | (refine codeI_label M.T ?_; try simp only [ThenI, BlockI, if_true]) | (refine codeI_exit M.T ?_; try simp only [ThenI, BlockI, if_true]) | (refine codeI_ret M.T ?_; try simp only [ThenI, BlockI]))
  refine ⟨.inr rfl, hs, rfl, _, resultsC_tmp (by rfl) _, fun w₁ r => ⟨rfl, ?_⟩⟩
  have hst := hst.rely (M.rely (by rcases hs with rfl | rfl <;> exact r))
  exact ⟨hst.keep.os, hst.keep.tape, hst.keep.output, hst.keep.size, fun k hk => hst.keep.kept k hk (by simp) (.inl hk)⟩
end Go.Proofs.Ytnbgfffcialfkaa

namespace Go.Proofs.Ytnbgfffcialfkaa
open Go Go.Conc Go.RowKit
set_option linter.unusedVariables false

/-- The run ends, returns true, and what lay there stays. -/
def RunsW (f : FuncId) (args : Array Value) (W : World) : Prop :=
  ∃ M last o w' t', runNT Try.prog (M + 1) (solo (G (Frame.enter Try.prog f args .normal) []) W) #[] = (.ended o w', t') ∧ runN Try.prog M (solo (G (Frame.enter Try.prog f args .normal) []) W) = .next last ∧ step Try.prog last = .ended o w' ∧
    Conc.Good Try.prog (fun v w' => v = .bool true ∧ Below W.heap.size W w') last o w' t'
/-- A contract of this form goes over: a fact on the value that no draw changes, and what lay there stays. -/
theorem plain_callR {f : FuncId} {args : Array Value} {Q : Value → Prop} (hf : plF f = true) {O0 : OwnP} {w0 : World} (h : ∀ τ n, Calls Try.prog f args (reW τ n w0) fun e w' => ∃ v, e = .returned v ∧ Q v ∧ Below w0.heap.size (reW τ n w0) w') (hb : BaseO 0 none O0 w0) :
    CallsI Try.prog true RelF DelF f args O0 w0 fun v O' w' => Q v ∧ KeepO 0 none O0 w0 O' w' := by
  refine (callsF_full plainTry noEarlyTry hf (R := fun v w' => Q v ∧ w'.os = w0.os ∧ w'.output = w0.output ∧ w0.heap.size ≤ w'.heap.size ∧ ∀ k, k < w0.heap.size → w'.heap[k]? = w0.heap[k]?) (fun v w τ n h => h) (fun τ n => (h τ n).mono fun e w' p => ?_)).mono ?_
  · obtain ⟨v, e, hq, hbl⟩ := p
    exact ⟨v, e, hq, hbl.os, hbl.output, hbl.size, fun k hk => hbl.block k hk⟩
  · rintro v O w ⟨rfl, ht, hq, h1, h2, h3, h4⟩
    exact ⟨hq, ht, h1, h2, h3, fun _ h => h, fun k hk _ _ => h4 k hk, fun _ h => .inl h, fun k hk => Nat.lt_of_lt_of_le (hb.lt k hk) h3⟩
end Go.Proofs.Ytnbgfffcialfkaa

namespace Go.Proofs.Ytnbgfffcialfkaa
open Go Go.Conc Go.RowKit
set_option linter.unusedVariables false

theorem infoPz : (Try.prog.info? 25).map (·.zero) = some (some (.agg #[.int .i64 0, .int .i64 0, .int .i64 0, .int .i64 0])) := by kernel_rfl
theorem run_allocP {w : World} : (Instr.alloc 25 true (.tuple #[])).run Try.prog w = .ok (.pointer (some ⟨w.heap.size, 0, none⟩)) (w.alloc (.cells #[.int .i64 0, .int .i64 0, .int .i64 0, .int .i64 0] 25)) ∧ (Instr.alloc 25 true (.tuple #[])).events Try.prog w #[] = #[] := by
  constructor
  · go_simp
  · simp [go_sem]
theorem run_storeP {w : World} {g : Nat} {v0 v1 v2 v3 : Value} {u0 u1 u2 u3 : Int} (h : w.heap[g]? = some (.cells #[v0, v1, v2, v3] 25)) :
    ∃ w', (Instr.storeAt 25 (.pointer (some ⟨g, 0, none⟩)) (.agg #[.int .i64 u0, .int .i64 u1, .int .i64 u2, .int .i64 u3])).run Try.prog w = .ok () w' ∧ SetO w w' g 25 #[.int .i64 u0, .int .i64 u1, .int .i64 u2, .int .i64 u3] ∧
      (Instr.storeAt 25 (.pointer (some ⟨g, 0, none⟩)) (.agg #[.int .i64 u0, .int .i64 u1, .int .i64 u2, .int .i64 u3])).events Try.prog w #[] = #[⟨.cell ⟨g, 0, none⟩, true, false⟩, ⟨.cell ⟨g, 1, none⟩, true, false⟩, ⟨.cell ⟨g, 2, none⟩, true, false⟩, ⟨.cell ⟨g, 3, none⟩, true, false⟩] := by
  have s0 := setO_cell h 0 (.int .i64 u0)
  have s1 := setO_cell s0.at_ 1 (.int .i64 u1)
  have s2 := setO_cell s1.at_ 2 (.int .i64 u2)
  have s3 := setO_cell s2.at_ 3 (.int .i64 u3)
  have c0 := cells_at h 0
  have c1 := cells_at s0.at_ 1
  have c2 := cells_at s1.at_ 2
  have c3 := cells_at s2.at_ 3
  have f0 := frozen_at h 0
  have f1 := frozen_at s0.at_ 1
  have f2 := frozen_at s1.at_ 2
  have f3 := frozen_at s2.at_ 3
  simp at c0 c1 c2 c3
  refine ⟨_, ?_, ((s0.trans s1).trans s2).trans s3, ?_⟩
  · simp [go_sem, *]
  · simp [go_sem, *]
section
variable {main : Bool} {R : RelyI} {D : GuarI} {Low : Nat} {c : Option Nat} {fn : FuncId} {Q : PostI} {O0 O : OwnP} {a : Act} {w0 w : World} {ops : Array Oper} {i : Nat} {rest : List Nat} {o : Oper} {L : List (Nat × Obj)} {x y : Operand} {t t' : TypeId} {p q : Int}
theorem mk_allocP (hop : o.op = .alloc 25) : Mk a o 25 #[.int .i64 0, .int .i64 0, .int .i64 0, .int .i64 0] := fun w => by unfold execOp; rw [hop]; exact op_value run_allocP
theorem i_stP {n g : Nat} {v0 v1 v2 v3 : Value} {u0 u1 u2 u3 : Int} (M : MemI R D Low c) (hst : StO Low c O0 w0 L O w) (ho : ops[i]? = some o) (hw : Region.wanted o (yielded ops a.tmps) = true)
    (hop : o.op = .store 25 x y) (hx : a.eval x = .pointer (some ⟨g, 0, none⟩)) (hy : a.eval y = .agg #[.int .i64 u0, .int .i64 u1, .int .i64 u2, .int .i64 u3]) (hn : L[n]? = some (g, .cells #[v0, v1, v2, v3] 25))
    (h : ∀ w', StO Low c O0 w0 (L.set n (g, .cells #[.int .i64 u0, .int .i64 u1, .int .i64 u2, .int .i64 u3] 25)) O w' → OpsI Try.prog main R D fn ops rest Q O (a.put o.dst undef) w') : OpsI Try.prog main R D fn ops (i :: rest) Q O a w :=
  opsI_cons ho hw fun w₁ r => by
    obtain ⟨h1, _, h3⟩ := (hst.rely (M.rely r)).mine _ (List.mem_of_getElem? hn)
    obtain ⟨w2, r1, hs, r2⟩ := run_storeP (u0 := u0) (u1 := u1) (u2 := u2) (u3 := u3) h3
    have hr := op_skip ⟨r1, r2⟩
    have e : execOp a.eval o = (do Instr.storeAt 25 (.pointer (some ⟨g, 0, none⟩)) (.agg #[.int .i64 u0, .int .i64 u1, .int .i64 u2, .int .i64 u3]); pure Next.skip : Sem Next) := by unfold execOp; rw [hop]; simp only [hx, hy]
    rw [e, hr.1]
    refine ⟨O, M.guar (DelO.set h1 hs fun e' he => ?_), h _ ((hst.rely (M.rely r)).setN hn hs)⟩
    have := mem_listed he
    rw [e, hr.2] at this
    simp at this
    rcases this with rfl | rfl | rfl | rfl <;> exact ev_own h1
theorem rd_gtT {k : IntKind} (hop : o.op = .binOp .gtr t x y t') (hx : a.eval x = .int k p) (hy : a.eval y = .int k q) (h : q < p) : Rd Low c O0 w0 L a o (.bool true) := rd_pure fun w => by unfold execOp; rw [hop]; simp only [hx, hy]; simp [h, go_sem, eqGuard]
theorem rd_gtF {k : IntKind} (hop : o.op = .binOp .gtr t x y t') (hx : a.eval x = .int k p) (hy : a.eval y = .int k q) (h : ¬ q < p) : Rd Low c O0 w0 L a o (.bool false) := rd_pure fun w => by unfold execOp; rw [hop]; simp only [hx, hy]; simp [h, go_sem, eqGuard]; try omega
theorem rd_geT {k : IntKind} (hop : o.op = .binOp .geq t x y t') (hx : a.eval x = .int k p) (hy : a.eval y = .int k q) (h : q ≤ p) : Rd Low c O0 w0 L a o (.bool true) := rd_pure fun w => by unfold execOp; rw [hop]; simp only [hx, hy]; simp [h, go_sem, eqGuard]
theorem rd_geF {k : IntKind} (hop : o.op = .binOp .geq t x y t') (hx : a.eval x = .int k p) (hy : a.eval y = .int k q) (h : ¬ q ≤ p) : Rd Low c O0 w0 L a o (.bool false) := rd_pure fun w => by unfold execOp; rw [hop]; simp only [hx, hy]; simp [h, go_sem, eqGuard]; try omega
theorem rd_sub (hop : o.op = .binOp .sub t x y t') (hx : a.eval x = .int .i64 p) (hy : a.eval y = .int .i64 q) (h : -1000000 ≤ p - q ∧ p - q ≤ 1000000) : Rd Low c O0 w0 L a o (.int .i64 (p - q)) := rd_pure fun w => by
  have e : IntKind.i64.wrap (p - q) = p - q := IntWalk.i64_in _ (by omega)
  unfold execOp; rw [hop]; simp only [hx, hy]; simp [go_sem, eqGuard, e]
theorem rd_eqB {b : Bool} (hop : o.op = .binOp .eql 4 x y 4) (hx : a.eval x = .bool b) (hy : a.eval y = .bool b) : Rd Low c O0 w0 L a o (.bool true) := rd_pure fun w => by unfold execOp; rw [hop]; simp only [hx, hy]; cases b <;> exact ⟨by kernel_rfl, by kernel_rfl⟩
theorem rd_lenB {A : Option Addr} {n cap : Nat} (hop : o.op = .call { callee := .builtin .len, args := #[x], argTypes := #[31] }) (hx : a.eval x = .slice A n cap) : Rd Low c O0 w0 L a o (.int .i64 n) := rd_pure fun w => by
  unfold execOp; rw [hop]; have hu := Try.underlying31; simp only [resolve, List.map_toArray, List.map_cons, List.map_nil, hx]; simp [go_sem, invoke, builtin, Builtin.len_, Builtin.lenOf, hu]
theorem rd_lenT {s : ByteArray} (hop : o.op = .call { callee := .builtin .len, args := #[x], argTypes := #[9] }) (hx : a.eval x = .string s) : Rd Low c O0 w0 L a o (.int .i64 s.size) := rd_pure fun w => by
  unfold execOp; rw [hop]; have hu := Try.underlying9; simp only [resolve, List.map_toArray, List.map_cons, List.map_nil, hx]; simp [go_sem, invoke, builtin, Builtin.len_, Builtin.lenOf, hu]
end
/-- A row of bytes that came in can still be read. -/
theorem IsRow.at_ {k : IntKind} {w w' : World} {A : Option Addr} {len cap : Nat} {zs : List Int} (h : IsRow k w A len cap zs) (hk : ∀ j, j < w.heap.size → w'.heap[j]? = w.heap[j]?) : IsRow k w' A len cap zs := by
  rcases h with h | ⟨x, rfl, h1, h2, h3, h4, h5⟩
  · exact .inl h
  · refine .inr ⟨x, rfl, h1, h2, h3, fun i hi => ?_, h5⟩
    have hc := h4 i hi
    have hb := World.block_lt_of_cell? w _ hc
    rw [← hc]
    exact World.cell?_of_block (hk _ hb)
end Go.Proofs.Ytnbgfffcialfkaa

namespace Go.Proofs.Ytnbgfffcialfkaa
open Go Go.Conc Go.RowKit
set_option linter.unusedVariables false

theorem is_said (n a k m : Int) : ∃ B : Bool, (∀ w, Calls Try.prog 10 #[.agg #[.int .i64 n, .int .i64 a, .int .i64 k, .int .i64 m]] w fun e w' => e = .returned (.bool B) ∧ Below w.heap.size w w') ∧
    (∀ (Post : Value → World → Prop) (O0 : OwnP) (w0 : World), BaseO 0 none O0 w0 → CallsX Try.prog true PhR PhD (PhF Try.prog (.agg noughts) Post) 12 #[.agg #[.int .i64 n, .int .i64 a, .int .i64 k, .int .i64 m]] .front O0 w0 fun s v O' w' => (s = .front ∨ s = .back) ∧ v = .bool B ∧ KeepO 0 none O0 w0 O' w') ∧
    (vpB ⟨n, a, k, m⟩ = false → B = false) ∧ (vpB ⟨n, a, k, m⟩ = true → B = decide (minS ⟨n, a, k, m⟩ + k ≤ n)) := by
  cases hp : vpB ⟨n, a, k, m⟩ with
  | false => exact ⟨false, sIS_no n a k m hp, fun Post O0 w0 hb => (callsX_of_callsI (isafe_no Post n a k m hp O0 w0 hb)).mono fun s v O w h => ⟨.inl h.1, h.2⟩, fun _ => rfl, fun h => by cases h⟩
  | true =>
    obtain ⟨K, rfl⟩ : ∃ K : Nat, k = (K : Int) := ⟨k.toNat, by simp [vpB] at hp; omega⟩
    obtain ⟨l0, hf, hg, _, hr⟩ := found hp
    refine ⟨l0.all (takR ⟨n, a, K, m⟩), sIS_yes n a K m _ hp fun w => (sre_any n a K m hp l0 hg hr w).mono ?_, fun Post O0 w0 hb => (isafe_x Post n a m K hp l0 hf hg O0 w0 hb).mono fun s v O w h => ⟨.inr h.1, h.2⟩, fun h => (by cases h), fun _ => safe_iff hp hr⟩
    rintro e w' ⟨g, ln, c, h, _, hb⟩
    exact ⟨_, h, hb⟩
end Go.Proofs.Ytnbgfffcialfkaa
