/-
  The law FnExactRoundsOf as goroutine 0, from what the model's RoundsOf and the program's RoundsOf answer. No condition but these.
-/
import Derived.Test.YtnbgfffcialfkaaLnGa
import Derived.Test.YtnbgfffcialfkaaLnGd
import Derived.Test.YtnbgfffcialfkaaLnGc
set_option linter.unusedSimpArgs false
set_option linter.unusedVariables false
namespace Go.Proofs.Ytnbgfffcialfkaa
open Go Go.Conc Go.RowKit
set_option linter.unusedVariables false

set_option maxRecDepth 100000 in
set_option maxHeartbeats 3200000 in
theorem roundsof_runs (n a k m lost : Int) (r : Int) (hspec : ∀ w, Calls Try.prog 15 #[.agg #[.int .i64 n, .int .i64 a, .int .i64 k, .int .i64 m], .int .i64 lost] w fun e w' => e = .returned (.int .i64 r) ∧ Below w.heap.size w w') (W : World)
    (himpl : ∀ O0 w0, BaseO 0 none O0 w0 → CallsX Try.prog true PhR PhD (PhF Try.prog (.agg noughts) (fun v w' => v = .bool true ∧ Below W.heap.size W w')) 16 #[.agg #[.int .i64 n, .int .i64 a, .int .i64 k, .int .i64 m], .int .i64 lost] .front O0 w0 fun s v O' w' => (s = .front ∨ s = .back) ∧ v = .int .i64 r ∧ KeepO 0 none O0 w0 O' w') :
    ∃ M last o w' t', runNT Try.prog (M + 1) (solo (G (Frame.enter Try.prog 5 #[.agg #[.int .i64 n, .int .i64 a, .int .i64 k, .int .i64 m], .int .i64 lost] .normal) []) W) #[] = (.ended o w', t') ∧ runN Try.prog M (solo (G (Frame.enter Try.prog 5 #[.agg #[.int .i64 n, .int .i64 a, .int .i64 k, .int .i64 m], .int .i64 lost] .normal) []) W) = .next last ∧ step Try.prog last = .ended o w' ∧
      Conc.Good Try.prog (fun v w' => v = .bool true ∧ Below W.heap.size W w') last o w' t' := by
  have hb : BaseO 0 none (fun k => k < W.heap.size) W := ⟨fun x h => (by cases h), Nat.zero_le _, fun k h => h⟩
  have hst := hb.st
  have M : MemI (PhR .front) (PhD .front) 0 none := memF 0
  have T := termsPh
  refine law_runs (z := .agg noughts) (O := fun k => k < W.heap.size) Try.func5 (by rfl) rfl (by kernel_rfl) ?_
  simp only [Try.ntmps5, List.size_toArray, List.length_cons, List.length_nil, Nat.reduceAdd, Nat.reduceSub, Array.replicate_succ, Array.replicate_zero, List.push_toArray, List.append_toArray, List.nil_append, List.cons_append]
  refine codeX_seq T (itemX_of ?_)
  simp only [ThenX]
  refine codeI_region M.T ?_
  simp only [List.size_toArray, List.length_cons, List.length_nil, Nat.reduceAdd, Nat.zero_add, List.range, List.range.loop]
  refine i_newV (val := fun g => .pointer (some ⟨g, 0, none⟩)) (ob := .cells #[.int .i64 n, .int .i64 a, .int .i64 k, .int .i64 m] 23) M hst rfl (by rfl) (fun w => ?_) ?_
  · unfold execOp
    exact op_value run_boxQ
  intro gq O w hst
  walk_nrm
  repeat (first | (refine i_rd M hst rfl (by rfl) (by first | exact rd_move rfl rfl | exact rd_assign rfl rfl | exact rd_neT rfl rfl rfl (by omega) | exact rd_neF rfl rfl rfl (by omega)) ?_; walk_nrm) | (refine codeI_region M.T ?_; simp only [List.size_toArray, List.length_cons, List.length_nil, Nat.reduceAdd, Nat.zero_add, List.range, List.range.loop]) | (refine opsI_nil M.T ?_; try simp only [ThenI, BlockI, if_true]) | (refine codeI_cond M.T (v := true) rfl ?_; simp only [if_true]) | (refine codeI_cond M.T (v := false) rfl ?_; simp only [Bool.false_eq_true, if_false]) | (refine codeI_block M.T ?_) | (refine codeI_skip M.T ?_; try simp only [ThenI, BlockI, if_true]) | (refine codeI_label M.T ?_; try simp only [ThenI, BlockI, if_true]) | (refine codeI_exit M.T ?_; try simp only [ThenI, BlockI, if_true]) | (refine codeI_ret M.T ?_; try simp only [ThenI, BlockI]))
  refine codeX_seq T (itemX_of ?_)
  simp only [ThenX]
  refine codeI_region M.T ?_
  simp only [List.size_toArray, List.length_cons, List.length_nil, Nat.reduceAdd, Nat.zero_add, List.range, List.range.loop]
  (refine i_rd M hst rfl (by rfl) (rd_loadQ rfl rfl (.head _)) ?_; walk_nrm)
  (refine i_call (Rv := fun v => v = .agg #[.int .i64 n, .int .i64 a, .int .i64 k, .int .i64 m]) M hst rfl (by rfl) rfl (fun O w hb => by walk_nrm; exact (plain_call (by kernel_rfl) (toP_any n a k m) O w hb)) ?_; rintro _ O w rfl hst; walk_nrm)
  (refine i_rd M hst rfl (by rfl) (rd_move rfl rfl) ?_; walk_nrm)
  (refine i_call (Rv := fun v => v = .int .i64 r) M hst rfl (by rfl) rfl (fun O w hb => by walk_nrm; exact (plain_call (by kernel_rfl) hspec O w hb)) ?_; rintro _ O w rfl hst; walk_nrm)
  repeat (first | (refine i_rd M hst rfl (by rfl) (by first | exact rd_move rfl rfl | exact rd_assign rfl rfl | exact rd_neT rfl rfl rfl (by omega) | exact rd_neF rfl rfl rfl (by omega)) ?_; walk_nrm) | (refine codeI_region M.T ?_; simp only [List.size_toArray, List.length_cons, List.length_nil, Nat.reduceAdd, Nat.zero_add, List.range, List.range.loop]) | (refine opsI_nil M.T ?_; try simp only [ThenI, BlockI, if_true]) | (refine codeI_cond M.T (v := true) rfl ?_; simp only [if_true]) | (refine codeI_cond M.T (v := false) rfl ?_; simp only [Bool.false_eq_true, if_false]) | (refine codeI_block M.T ?_) | (refine codeI_skip M.T ?_; try simp only [ThenI, BlockI, if_true]) | (refine codeI_label M.T ?_; try simp only [ThenI, BlockI, if_true]) | (refine codeI_exit M.T ?_; try simp only [ThenI, BlockI, if_true]) | (refine codeI_ret M.T ?_; try simp only [ThenI, BlockI]))
  refine codeX_seq T ?_
  refine codeX_region T ?_
  simp only [List.size_toArray, List.length_cons, List.length_nil, Nat.reduceAdd, Nat.zero_add, List.range, List.range.loop]
  (refine p_rd M hst rfl (by rfl) (rd_loadQ rfl rfl (.head _)) ?_; walk_nrm)
  refine opsX_call T rfl (by rfl) rfl (callsX_of_callsI (by walk_nrm; exact plain_call (by kernel_rfl) (toP_any n a k m) _ _ hst.now)) ?_
  rintro s' v O w ⟨rfl, rfl, hk⟩
  replace hst := hst.calls hk
  clear hk
  walk_nrm
  (refine p_rd M hst rfl (by rfl) (rd_move rfl rfl) ?_; walk_nrm)
  refine opsX_call T rfl (by rfl) rfl (by walk_nrm; exact himpl _ _ hst.now) ?_
  rintro s' v O w ⟨hs, rfl, hk⟩
  replace hst := hst.calls hk
  clear hk M
  have M : MemI (PhR s') (PhD s') 0 none := by rcases hs with rfl | rfl <;> exact memF 0
  walk_nrm
  refine itemX_of ?_
  repeat (first | (refine i_rd M hst rfl (by rfl) (by first | exact rd_move rfl rfl | exact rd_assign rfl rfl | exact rd_neT rfl rfl rfl (by omega) | exact rd_neF rfl rfl rfl (by omega)) ?_; walk_nrm) | (refine codeI_seq M.T ?_) | (refine codeI_region M.T ?_; simp only [List.size_toArray, List.length_cons, List.length_nil, Nat.reduceAdd, Nat.zero_add, List.range, List.range.loop]) | (refine opsI_nil M.T ?_; try simp only [ThenI, BlockI, if_true]) | (refine codeI_cond M.T (v := true) rfl ?_; simp only [if_true]) | (refine codeI_cond M.T (v := false) rfl ?_; simp only [Bool.false_eq_true, if_false]) | (refine codeI_block M.T ?_) | (refine codeI_skip M.T ?_; try simp only [ThenI, BlockI, if_true]) | (refine codeI_label M.T ?_; try simp only [ThenI, BlockI, if_true]) | (refine codeI_exit M.T ?_; try simp only [ThenI, BlockI, if_true]) | (refine codeI_ret M.T ?_; try simp only [ThenI, BlockI]))
  try simp only [ThenX, ThenI]
  refine codeX_seq T (itemX_of ?_)
  simp only [ThenX]
  repeat (first | (refine i_rd M hst rfl (by rfl) (by first | exact rd_move rfl rfl | exact rd_assign rfl rfl | exact rd_neT rfl rfl rfl (by omega) | exact rd_neF rfl rfl rfl (by omega)) ?_; walk_nrm) | (refine codeI_seq M.T ?_) | (refine codeI_region M.T ?_; simp only [List.size_toArray, List.length_cons, List.length_nil, Nat.reduceAdd, Nat.zero_add, List.range, List.range.loop]) | (refine opsI_nil M.T ?_; try simp only [ThenI, BlockI, if_true]) | (refine codeI_cond M.T (v := true) rfl ?_; simp only [if_true]) | (refine codeI_cond M.T (v := false) rfl ?_; simp only [Bool.false_eq_true, if_false]) | (refine codeI_block M.T ?_) | (refine codeI_skip M.T ?_; try simp only [ThenI, BlockI, if_true]) | (refine codeI_label M.T ?_; try simp only [ThenI, BlockI, if_true]) | (refine codeI_exit M.T ?_; try simp only [ThenI, BlockI, if_true]) | (refine codeI_ret M.T ?_; try simp only [ThenI, BlockI]))
  try simp only [ThenX, ThenI]
  refine itemX_of ?_
  repeat (first | (refine i_rd M hst rfl (by rfl) (by first | exact rd_move rfl rfl | exact rd_assign rfl rfl | exact rd_neT rfl rfl rfl (by omega) | exact rd_neF rfl rfl rfl (by omega)) ?_; walk_nrm) | (refine codeI_seq M.T ?_) | (refine codeI_region M.T ?_; simp only [List.size_toArray, List.length_cons, List.length_nil, Nat.reduceAdd, Nat.zero_add, List.range, List.range.loop]) | (refine opsI_nil M.T ?_; try simp only [ThenI, BlockI, if_true]) | (refine codeI_cond M.T (v := true) rfl ?_; simp only [if_true]) | (refine codeI_cond M.T (v := false) rfl ?_; simp only [Bool.false_eq_true, if_false]) | (refine codeI_block M.T ?_) | (refine codeI_skip M.T ?_; try simp only [ThenI, BlockI, if_true]) | (refine codeI_label M.T ?_; try simp only [ThenI, BlockI, if_true]) | (refine codeI_exit M.T ?_; try simp only [ThenI, BlockI, if_true]) | (refine codeI_ret M.T ?_; try simp only [ThenI, BlockI]))
  refine ⟨.inr rfl, hs, rfl, _, resultsC_tmp (by rfl) _, fun w₁ r => ⟨rfl, ?_⟩⟩
  have hst := hst.rely (M.rely (by rcases hs with rfl | rfl <;> exact r))
  exact ⟨hst.keep.os, hst.keep.tape, hst.keep.output, hst.keep.size, fun k hk => hst.keep.kept k hk (by simp) (.inl hk)⟩
end Go.Proofs.Ytnbgfffcialfkaa
