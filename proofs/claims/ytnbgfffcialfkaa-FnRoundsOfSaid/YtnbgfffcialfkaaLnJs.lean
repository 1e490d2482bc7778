/-
  The law FnRoundsOf as goroutine 0. Condition: the code is a list that can be.
-/
import Derived.Test.YtnbgfffcialfkaaLnGa
import Derived.Test.YtnbgfffcialfkaaLnGd
import Derived.Test.YtnbgfffcialfkaaLnGb
set_option linter.unusedSimpArgs false
set_option linter.unusedVariables false
namespace Go.Proofs.Ytnbgfffcialfkaa
open Go Go.Conc Go.RowKit
set_option linter.unusedVariables false

set_option maxRecDepth 100000 in
set_option maxHeartbeats 6400000 in
theorem fnRoundsOf_runs (A : Option Addr) (len cap : Nat) (zs : List Int) (W : World) (h : IsRow .u8 W A len cap zs) : RunsW 9 #[.slice A len cap] W := by
  have hb : BaseO 0 none (fun k => k < W.heap.size) W := ⟨fun x h => (by cases h), Nat.zero_le _, fun k h => h⟩
  have hst := hb.st
  have M : MemI (PhR .front) (PhD .front) 0 none := memF 0
  have T := termsPh
  refine law_runs (z := .agg noughts) (O := fun k => k < W.heap.size) Try.func9 (by rfl) rfl (by kernel_rfl) ?_
  simp only [Try.ntmps9, List.size_toArray, List.length_cons, List.length_nil, Nat.reduceAdd, Nat.reduceSub, Array.replicate_succ, Array.replicate_zero, List.push_toArray, List.append_toArray, List.nil_append, List.cons_append]
  refine codeX_seq T (itemX_of ?_)
  simp only [ThenX]
  repeat (first | (refine i_rd M hst rfl (by rfl) (by first | exact rd_move rfl rfl | exact rd_assign rfl rfl | exact rd_fieldP (by decide) rfl rfl | exact rd_loadI rfl rfl (by first | exact .head _ | exact .tail _ (.head _) | exact .tail _ (.tail _ (.head _)) | exact .tail _ (.tail _ (.tail _ (.head _)))) (by rfl) | exact rd_loadP rfl rfl (by first | exact .head _ | exact .tail _ (.head _) | exact .tail _ (.tail _ (.head _)) | exact .tail _ (.tail _ (.tail _ (.head _)))) | exact rd_extract rfl rfl rfl | exact rd_eqT rfl rfl rfl (by omega) | exact rd_eqF rfl rfl rfl (by omega) | exact rd_ltT rfl rfl rfl (by omega) | exact rd_ltF rfl rfl rfl (by omega) | exact rd_neT rfl rfl rfl (by omega) | exact rd_neF rfl rfl rfl (by omega) | exact rd_pickT rfl rfl rfl | exact rd_pickF rfl rfl rfl | exact rd_gtT rfl rfl rfl (by omega) | exact rd_gtF rfl rfl rfl (by omega) | exact rd_geT rfl rfl rfl (by omega) | exact rd_geF rfl rfl rfl (by omega) | exact rd_lenB rfl rfl) ?_; walk_nrm) | (refine opsI_unwanted M.T rfl (by rfl) ?_; walk_nrm) | (refine codeI_region M.T ?_; simp only [List.size_toArray, List.length_cons, List.length_nil, Nat.reduceAdd, Nat.zero_add, List.range, List.range.loop]) | (refine opsI_nil M.T ?_; try simp only [ThenI, BlockI, if_true]) | (refine codeI_cond M.T (v := true) rfl ?_; simp only [if_true]) | (refine codeI_cond M.T (v := false) rfl ?_; simp only [Bool.false_eq_true, if_false]) | (refine codeI_block M.T ?_) | (refine codeI_skip M.T ?_; try simp only [ThenI, BlockI, if_true]) | (refine codeI_label M.T ?_; try simp only [ThenI, BlockI, if_true]) | (refine codeI_exit M.T ?_; try simp only [ThenI, BlockI, if_true]) | (refine codeI_ret M.T ?_; try simp only [ThenI, BlockI]))
  by_cases hg : (1048576 : Int) < (len : Int)
  · refine codeX_seq T (itemX_of ?_)
    simp only [ThenX]
    refine codeI_seq M.T ?_
    refine codeI_region M.T ?_
    simp only [List.size_toArray, List.length_cons, List.length_nil, Nat.reduceAdd, Nat.zero_add, List.range, List.range.loop]
    (refine i_rd M hst rfl (by rfl) (rd_move rfl rfl) ?_; walk_nrm)
    (refine i_rd M hst rfl (by rfl) (rd_lenB rfl rfl) ?_; walk_nrm)
    (refine i_rd M hst rfl (by rfl) (rd_gtT rfl rfl rfl hg) ?_; walk_nrm)
    repeat (first | (refine i_rd M hst rfl (by rfl) (by first | exact rd_move rfl rfl | exact rd_assign rfl rfl | exact rd_fieldP (by decide) rfl rfl | exact rd_loadI rfl rfl (by first | exact .head _ | exact .tail _ (.head _) | exact .tail _ (.tail _ (.head _)) | exact .tail _ (.tail _ (.tail _ (.head _)))) (by rfl) | exact rd_loadP rfl rfl (by first | exact .head _ | exact .tail _ (.head _) | exact .tail _ (.tail _ (.head _)) | exact .tail _ (.tail _ (.tail _ (.head _)))) | exact rd_extract rfl rfl rfl | exact rd_eqT rfl rfl rfl (by omega) | exact rd_eqF rfl rfl rfl (by omega) | exact rd_ltT rfl rfl rfl (by omega) | exact rd_ltF rfl rfl rfl (by omega) | exact rd_neT rfl rfl rfl (by omega) | exact rd_neF rfl rfl rfl (by omega) | exact rd_pickT rfl rfl rfl | exact rd_pickF rfl rfl rfl | exact rd_gtT rfl rfl rfl (by omega) | exact rd_gtF rfl rfl rfl (by omega) | exact rd_geT rfl rfl rfl (by omega) | exact rd_geF rfl rfl rfl (by omega) | exact rd_lenB rfl rfl) ?_; walk_nrm) | (refine opsI_unwanted M.T rfl (by rfl) ?_; walk_nrm) | (refine codeI_seq M.T ?_) | (refine codeI_region M.T ?_; simp only [List.size_toArray, List.length_cons, List.length_nil, Nat.reduceAdd, Nat.zero_add, List.range, List.range.loop]) | (refine opsI_nil M.T ?_; try simp only [ThenI, BlockI, if_true]) | (refine codeI_cond M.T (v := true) rfl ?_; simp only [if_true]) | (refine codeI_cond M.T (v := false) rfl ?_; simp only [Bool.false_eq_true, if_false]) | (refine codeI_block M.T ?_) | (refine codeI_skip M.T ?_; try simp only [ThenI, BlockI, if_true]) | (refine codeI_label M.T ?_; try simp only [ThenI, BlockI, if_true]) | (refine codeI_exit M.T ?_; try simp only [ThenI, BlockI, if_true]) | (refine codeI_ret M.T ?_; try simp only [ThenI, BlockI]))
    refine ⟨.inr rfl, .inl rfl, rfl, _, resultsC_tmp (by rfl) _, fun w₁ r => ⟨rfl, ?_⟩⟩
    have hst := hst.rely (M.rely r)
    exact ⟨hst.keep.os, hst.keep.tape, hst.keep.output, hst.keep.size, fun k hk => hst.keep.kept k hk (by simp) (.inl hk)⟩
  refine codeX_seq T (itemX_of ?_)
  simp only [ThenX]
  refine codeI_seq M.T ?_
  refine codeI_region M.T ?_
  simp only [List.size_toArray, List.length_cons, List.length_nil, Nat.reduceAdd, Nat.zero_add, List.range, List.range.loop]
  (refine i_rd M hst rfl (by rfl) (rd_move rfl rfl) ?_; walk_nrm)
  (refine i_rd M hst rfl (by rfl) (rd_lenB rfl rfl) ?_; walk_nrm)
  (refine i_rd M hst rfl (by rfl) (rd_gtF rfl rfl rfl hg) ?_; walk_nrm)
  repeat (first | (refine i_rd M hst rfl (by rfl) (by first | exact rd_move rfl rfl | exact rd_assign rfl rfl | exact rd_fieldP (by decide) rfl rfl | exact rd_loadI rfl rfl (by first | exact .head _ | exact .tail _ (.head _) | exact .tail _ (.tail _ (.head _)) | exact .tail _ (.tail _ (.tail _ (.head _)))) (by rfl) | exact rd_loadP rfl rfl (by first | exact .head _ | exact .tail _ (.head _) | exact .tail _ (.tail _ (.head _)) | exact .tail _ (.tail _ (.tail _ (.head _)))) | exact rd_extract rfl rfl rfl | exact rd_eqT rfl rfl rfl (by omega) | exact rd_eqF rfl rfl rfl (by omega) | exact rd_ltT rfl rfl rfl (by omega) | exact rd_ltF rfl rfl rfl (by omega) | exact rd_neT rfl rfl rfl (by omega) | exact rd_neF rfl rfl rfl (by omega) | exact rd_pickT rfl rfl rfl | exact rd_pickF rfl rfl rfl | exact rd_gtT rfl rfl rfl (by omega) | exact rd_gtF rfl rfl rfl (by omega) | exact rd_geT rfl rfl rfl (by omega) | exact rd_geF rfl rfl rfl (by omega) | exact rd_lenB rfl rfl) ?_; walk_nrm) | (refine opsI_unwanted M.T rfl (by rfl) ?_; walk_nrm) | (refine codeI_seq M.T ?_) | (refine codeI_region M.T ?_; simp only [List.size_toArray, List.length_cons, List.length_nil, Nat.reduceAdd, Nat.zero_add, List.range, List.range.loop]) | (refine opsI_nil M.T ?_; try simp only [ThenI, BlockI, if_true]) | (refine codeI_cond M.T (v := true) rfl ?_; simp only [if_true]) | (refine codeI_cond M.T (v := false) rfl ?_; simp only [Bool.false_eq_true, if_false]) | (refine codeI_block M.T ?_) | (refine codeI_skip M.T ?_; try simp only [ThenI, BlockI, if_true]) | (refine codeI_label M.T ?_; try simp only [ThenI, BlockI, if_true]) | (refine codeI_exit M.T ?_; try simp only [ThenI, BlockI, if_true]) | (refine codeI_ret M.T ?_; try simp only [ThenI, BlockI]))
  try simp only [ThenX, ThenI]
  refine codeX_seq T (itemX_of ?_)
  simp only [ThenX]
  refine codeI_region M.T ?_
  simp only [List.size_toArray, List.length_cons, List.length_nil, Nat.reduceAdd, Nat.zero_add, List.range, List.range.loop]
  (refine i_rd M hst rfl (by rfl) (rd_move rfl rfl) ?_; walk_nrm)
  have hrow : ∀ (τ : Nat → Question → Nat) (n : Nat), IsRow .u8 (reW τ n _) A len cap zs := fun τ n => h.at_ (fun j hj => hst.keep.kept j hj (by simp) (.inl hj))
  refine opsI_call M.T rfl (by rfl) rfl (by walk_nrm; exact plain_callR (Q := fun v => ∃ n a k m x : Int, v = .tuple #[.agg #[.int .i64 n, .int .i64 a, .int .i64 k, .int .i64 m], .int .i64 x] ∧ (0 ≤ n ∧ n ≤ 10 ∧ 0 ≤ a ∧ a ≤ 10 ∧ 0 ≤ k ∧ k ≤ 10 ∧ 0 ≤ m ∧ m ≤ 10)) (by kernel_rfl) (fun τ n => (dro_any (reW τ n _) A len cap zs (hrow τ n)).mono fun e w' p => by obtain ⟨n, a, k, m, x, e1, hbd, _, hbl⟩ := p; exact ⟨_, e1, ⟨n, a, k, m, x, rfl, hbd⟩, hbl⟩) hst.now) ?_
  rintro v O w ⟨⟨n, a, k, m, x, rfl, hbd⟩, hk⟩
  replace hst := hst.calls hk
  clear hk hrow
  walk_nrm
  (refine i_rd M hst rfl (by rfl) (rd_move rfl rfl) ?_; walk_nrm)
  (refine i_rd M hst rfl (by rfl) (rd_extract rfl rfl rfl) ?_; walk_nrm)
  (refine i_rd M hst rfl (by rfl) (rd_extract rfl rfl rfl) ?_; walk_nrm)
  (refine i_new M hst rfl (by rfl) (mk_allocP rfl) ?_; intro gp O w hst; walk_nrm)
  (refine i_stP (n := 0) M hst rfl (by rfl) rfl rfl rfl (by rfl) ?_; intro w hst; simp only [List.set_cons_zero] at hst; walk_nrm)
  (refine i_rd M hst rfl (by rfl) (rd_assign rfl rfl) ?_; walk_nrm)
  refine opsI_nil M.T ?_
  try simp only [ThenX, ThenI]
  obtain ⟨r, hspec, himpl, hR⟩ := ro_said n a k m x
  refine codeX_seq T ?_
  refine codeX_region T ?_
  simp only [List.size_toArray, List.length_cons, List.length_nil, Nat.reduceAdd, Nat.zero_add, List.range, List.range.loop]
  (refine p_rd M hst rfl (by rfl) (rd_loadP rfl rfl (.head _)) ?_; walk_nrm)
  (refine p_rd M hst rfl (by rfl) (rd_move rfl rfl) ?_; walk_nrm)
  refine opsX_call T rfl (by rfl) rfl (by walk_nrm; exact himpl _ _ _ hst.now) ?_
  rintro s' v O w ⟨hs, rfl, hk⟩
  replace hst := hst.calls hk
  clear hk M himpl
  have M : MemI (PhR s') (PhD s') 0 none := by rcases hs with rfl | rfl <;> exact memF 0
  walk_nrm
  refine itemX_of ?_
  repeat (first | (refine i_rd M hst rfl (by rfl) (by first | exact rd_move rfl rfl | exact rd_assign rfl rfl | exact rd_fieldP (by decide) rfl rfl | exact rd_loadI rfl rfl (by first | exact .head _ | exact .tail _ (.head _) | exact .tail _ (.tail _ (.head _)) | exact .tail _ (.tail _ (.tail _ (.head _)))) (by rfl) | exact rd_loadP rfl rfl (by first | exact .head _ | exact .tail _ (.head _) | exact .tail _ (.tail _ (.head _)) | exact .tail _ (.tail _ (.tail _ (.head _)))) | exact rd_extract rfl rfl rfl | exact rd_eqT rfl rfl rfl (by omega) | exact rd_eqF rfl rfl rfl (by omega) | exact rd_ltT rfl rfl rfl (by omega) | exact rd_ltF rfl rfl rfl (by omega) | exact rd_neT rfl rfl rfl (by omega) | exact rd_neF rfl rfl rfl (by omega) | exact rd_pickT rfl rfl rfl | exact rd_pickF rfl rfl rfl | exact rd_gtT rfl rfl rfl (by omega) | exact rd_gtF rfl rfl rfl (by omega) | exact rd_geT rfl rfl rfl (by omega) | exact rd_geF rfl rfl rfl (by omega) | exact rd_lenB rfl rfl) ?_; walk_nrm) | (refine opsI_unwanted M.T rfl (by rfl) ?_; walk_nrm) | (refine codeI_seq M.T ?_) | (refine codeI_region M.T ?_; simp only [List.size_toArray, List.length_cons, List.length_nil, Nat.reduceAdd, Nat.zero_add, List.range, List.range.loop]) | (refine opsI_nil M.T ?_; try simp only [ThenI, BlockI, if_true]) | (refine codeI_cond M.T (v := true) rfl ?_; simp only [if_true]) | (refine codeI_cond M.T (v := false) rfl ?_; simp only [Bool.false_eq_true, if_false]) | (refine codeI_block M.T ?_) | (refine codeI_skip M.T ?_; try simp only [ThenI, BlockI, if_true]) | (refine codeI_label M.T ?_; try simp only [ThenI, BlockI, if_true]) | (refine codeI_exit M.T ?_; try simp only [ThenI, BlockI, if_true]) | (refine codeI_ret M.T ?_; try simp only [ThenI, BlockI]))
  try simp only [ThenX, ThenI]
  have hcall : ∀ O0 w0, BaseO 0 none O0 w0 → CallsI Try.prog true (PhR s') (PhD s') 15 #[.agg #[.int .i64 n, .int .i64 a, .int .i64 k, .int .i64 m], .int .i64 x] O0 w0 fun v O' w' => v = .int .i64 r ∧ KeepO 0 none O0 w0 O' w' := by
    rcases hs with rfl | rfl <;> exact plain_call (by kernel_rfl) hspec
  refine codeX_seq T (itemX_of ?_)
  simp only [ThenX]
  refine codeI_seq M.T ?_
  refine codeI_region M.T ?_
  simp only [List.size_toArray, List.length_cons, List.length_nil, Nat.reduceAdd, Nat.zero_add, List.range, List.range.loop]
  (refine i_rd M hst rfl (by rfl) (rd_move rfl rfl) ?_; walk_nrm)
  (refine i_rd M hst rfl (by rfl) (rd_loadP rfl rfl (.head _)) ?_; walk_nrm)
  (refine i_rd M hst rfl (by rfl) (rd_move rfl rfl) ?_; walk_nrm)
  (refine i_call (Rv := fun v => v = .int .i64 r) M hst rfl (by rfl) rfl (fun O w hb => by walk_nrm; exact (hcall O w hb)) ?_; rintro _ O w rfl hst; walk_nrm)
  by_cases hneg : r < 0
  · repeat (first | (refine i_rd M hst rfl (by rfl) (by first | exact rd_move rfl rfl | exact rd_assign rfl rfl | exact rd_fieldP (by decide) rfl rfl | exact rd_loadI rfl rfl (by first | exact .head _ | exact .tail _ (.head _) | exact .tail _ (.tail _ (.head _)) | exact .tail _ (.tail _ (.tail _ (.head _)))) (by rfl) | exact rd_loadP rfl rfl (by first | exact .head _ | exact .tail _ (.head _) | exact .tail _ (.tail _ (.head _)) | exact .tail _ (.tail _ (.tail _ (.head _)))) | exact rd_extract rfl rfl rfl | exact rd_eqT rfl rfl rfl (by omega) | exact rd_eqF rfl rfl rfl (by omega) | exact rd_ltT rfl rfl rfl (by omega) | exact rd_ltF rfl rfl rfl (by omega) | exact rd_neT rfl rfl rfl (by omega) | exact rd_neF rfl rfl rfl (by omega) | exact rd_pickT rfl rfl rfl | exact rd_pickF rfl rfl rfl | exact rd_gtT rfl rfl rfl (by omega) | exact rd_gtF rfl rfl rfl (by omega) | exact rd_geT rfl rfl rfl (by omega) | exact rd_geF rfl rfl rfl (by omega) | exact rd_lenB rfl rfl) ?_; walk_nrm) | (refine opsI_unwanted M.T rfl (by rfl) ?_; walk_nrm) | (refine codeI_seq M.T ?_) | (refine codeI_region M.T ?_; simp only [List.size_toArray, List.length_cons, List.length_nil, Nat.reduceAdd, Nat.zero_add, List.range, List.range.loop]) | (refine opsI_nil M.T ?_; try simp only [ThenI, BlockI, if_true]) | (refine codeI_cond M.T (v := true) rfl ?_; simp only [if_true]) | (refine codeI_cond M.T (v := false) rfl ?_; simp only [Bool.false_eq_true, if_false]) | (refine codeI_block M.T ?_) | (refine codeI_skip M.T ?_; try simp only [ThenI, BlockI, if_true]) | (refine codeI_label M.T ?_; try simp only [ThenI, BlockI, if_true]) | (refine codeI_exit M.T ?_; try simp only [ThenI, BlockI, if_true]) | (refine codeI_ret M.T ?_; try simp only [ThenI, BlockI]))
    (refine i_call (Rv := fun v => v = .int .i64 r) M hst rfl (by rfl) rfl (fun O w hb => by walk_nrm; exact (hcall O w hb)) ?_; rintro _ O w rfl hst; walk_nrm)
    repeat (first | (refine i_rd M hst rfl (by rfl) (by first | exact rd_move rfl rfl | exact rd_assign rfl rfl | exact rd_fieldP (by decide) rfl rfl | exact rd_loadI rfl rfl (by first | exact .head _ | exact .tail _ (.head _) | exact .tail _ (.tail _ (.head _)) | exact .tail _ (.tail _ (.tail _ (.head _)))) (by rfl) | exact rd_loadP rfl rfl (by first | exact .head _ | exact .tail _ (.head _) | exact .tail _ (.tail _ (.head _)) | exact .tail _ (.tail _ (.tail _ (.head _)))) | exact rd_extract rfl rfl rfl | exact rd_eqT rfl rfl rfl (by omega) | exact rd_eqF rfl rfl rfl (by omega) | exact rd_ltT rfl rfl rfl (by omega) | exact rd_ltF rfl rfl rfl (by omega) | exact rd_neT rfl rfl rfl (by omega) | exact rd_neF rfl rfl rfl (by omega) | exact rd_pickT rfl rfl rfl | exact rd_pickF rfl rfl rfl | exact rd_gtT rfl rfl rfl (by omega) | exact rd_gtF rfl rfl rfl (by omega) | exact rd_geT rfl rfl rfl (by omega) | exact rd_geF rfl rfl rfl (by omega) | exact rd_lenB rfl rfl) ?_; walk_nrm) | (refine opsI_unwanted M.T rfl (by rfl) ?_; walk_nrm) | (refine codeI_seq M.T ?_) | (refine codeI_region M.T ?_; simp only [List.size_toArray, List.length_cons, List.length_nil, Nat.reduceAdd, Nat.zero_add, List.range, List.range.loop]) | (refine opsI_nil M.T ?_; try simp only [ThenI, BlockI, if_true]) | (refine codeI_cond M.T (v := true) rfl ?_; simp only [if_true]) | (refine codeI_cond M.T (v := false) rfl ?_; simp only [Bool.false_eq_true, if_false]) | (refine codeI_block M.T ?_) | (refine codeI_skip M.T ?_; try simp only [ThenI, BlockI, if_true]) | (refine codeI_label M.T ?_; try simp only [ThenI, BlockI, if_true]) | (refine codeI_exit M.T ?_; try simp only [ThenI, BlockI, if_true]) | (refine codeI_ret M.T ?_; try simp only [ThenI, BlockI]))
    refine ⟨.inr rfl, hs, rfl, _, resultsC_tmp (by rfl) _, fun w₁ r => ⟨rfl, ?_⟩⟩
    have hst := hst.rely (M.rely (by rcases hs with rfl | rfl <;> exact r))
    exact ⟨hst.keep.os, hst.keep.tape, hst.keep.output, hst.keep.size, fun k hk => hst.keep.kept k hk (by simp) (.inl hk)⟩
  · have hR : m ≤ r ∧ (0 < x ∨ r = m) := by omega
    repeat (first | (refine i_rd M hst rfl (by rfl) (by first | exact rd_move rfl rfl | exact rd_assign rfl rfl | exact rd_fieldP (by decide) rfl rfl | exact rd_loadI rfl rfl (by first | exact .head _ | exact .tail _ (.head _) | exact .tail _ (.tail _ (.head _)) | exact .tail _ (.tail _ (.tail _ (.head _)))) (by rfl) | exact rd_loadP rfl rfl (by first | exact .head _ | exact .tail _ (.head _) | exact .tail _ (.tail _ (.head _)) | exact .tail _ (.tail _ (.tail _ (.head _)))) | exact rd_extract rfl rfl rfl | exact rd_eqT rfl rfl rfl (by omega) | exact rd_eqF rfl rfl rfl (by omega) | exact rd_ltT rfl rfl rfl (by omega) | exact rd_ltF rfl rfl rfl (by omega) | exact rd_neT rfl rfl rfl (by omega) | exact rd_neF rfl rfl rfl (by omega) | exact rd_pickT rfl rfl rfl | exact rd_pickF rfl rfl rfl | exact rd_gtT rfl rfl rfl (by omega) | exact rd_gtF rfl rfl rfl (by omega) | exact rd_geT rfl rfl rfl (by omega) | exact rd_geF rfl rfl rfl (by omega) | exact rd_lenB rfl rfl) ?_; walk_nrm) | (refine opsI_unwanted M.T rfl (by rfl) ?_; walk_nrm) | (refine codeI_seq M.T ?_) | (refine codeI_region M.T ?_; simp only [List.size_toArray, List.length_cons, List.length_nil, Nat.reduceAdd, Nat.zero_add, List.range, List.range.loop]) | (refine opsI_nil M.T ?_; try simp only [ThenI, BlockI, if_true]) | (refine codeI_cond M.T (v := true) rfl ?_; simp only [if_true]) | (refine codeI_cond M.T (v := false) rfl ?_; simp only [Bool.false_eq_true, if_false]) | (refine codeI_block M.T ?_) | (refine codeI_skip M.T ?_; try simp only [ThenI, BlockI, if_true]) | (refine codeI_label M.T ?_; try simp only [ThenI, BlockI, if_true]) | (refine codeI_exit M.T ?_; try simp only [ThenI, BlockI, if_true]) | (refine codeI_ret M.T ?_; try simp only [ThenI, BlockI]))
    try simp only [ThenX, ThenI]
    refine itemX_of ?_
    by_cases hx : 0 < x
    · repeat (first | (refine i_rd M hst rfl (by rfl) (by first | exact rd_move rfl rfl | exact rd_assign rfl rfl | exact rd_fieldP (by decide) rfl rfl | exact rd_loadI rfl rfl (by first | exact .head _ | exact .tail _ (.head _) | exact .tail _ (.tail _ (.head _)) | exact .tail _ (.tail _ (.tail _ (.head _)))) (by rfl) | exact rd_loadP rfl rfl (by first | exact .head _ | exact .tail _ (.head _) | exact .tail _ (.tail _ (.head _)) | exact .tail _ (.tail _ (.tail _ (.head _)))) | exact rd_extract rfl rfl rfl | exact rd_eqT rfl rfl rfl (by omega) | exact rd_eqF rfl rfl rfl (by omega) | exact rd_ltT rfl rfl rfl (by omega) | exact rd_ltF rfl rfl rfl (by omega) | exact rd_neT rfl rfl rfl (by omega) | exact rd_neF rfl rfl rfl (by omega) | exact rd_pickT rfl rfl rfl | exact rd_pickF rfl rfl rfl | exact rd_gtT rfl rfl rfl (by omega) | exact rd_gtF rfl rfl rfl (by omega) | exact rd_geT rfl rfl rfl (by omega) | exact rd_geF rfl rfl rfl (by omega) | exact rd_lenB rfl rfl) ?_; walk_nrm) | (refine opsI_unwanted M.T rfl (by rfl) ?_; walk_nrm) | (refine codeI_seq M.T ?_) | (refine codeI_region M.T ?_; simp only [List.size_toArray, List.length_cons, List.length_nil, Nat.reduceAdd, Nat.zero_add, List.range, List.range.loop]) | (refine opsI_nil M.T ?_; try simp only [ThenI, BlockI, if_true]) | (refine codeI_cond M.T (v := true) rfl ?_; simp only [if_true]) | (refine codeI_cond M.T (v := false) rfl ?_; simp only [Bool.false_eq_true, if_false]) | (refine codeI_block M.T ?_) | (refine codeI_skip M.T ?_; try simp only [ThenI, BlockI, if_true]) | (refine codeI_label M.T ?_; try simp only [ThenI, BlockI, if_true]) | (refine codeI_exit M.T ?_; try simp only [ThenI, BlockI, if_true]) | (refine codeI_ret M.T ?_; try simp only [ThenI, BlockI]))
      refine ⟨.inr rfl, hs, rfl, _, resultsC_tmp (by rfl) _, fun w₁ r => ⟨rfl, ?_⟩⟩
      have hst := hst.rely (M.rely (by rcases hs with rfl | rfl <;> exact r))
      exact ⟨hst.keep.os, hst.keep.tape, hst.keep.output, hst.keep.size, fun k hk => hst.keep.kept k hk (by simp) (.inl hk)⟩
    · have hrm : r = m := by omega
      repeat (first | (refine i_rd M hst rfl (by rfl) (by first | exact rd_move rfl rfl | exact rd_assign rfl rfl | exact rd_fieldP (by decide) rfl rfl | exact rd_loadI rfl rfl (by first | exact .head _ | exact .tail _ (.head _) | exact .tail _ (.tail _ (.head _)) | exact .tail _ (.tail _ (.tail _ (.head _)))) (by rfl) | exact rd_loadP rfl rfl (by first | exact .head _ | exact .tail _ (.head _) | exact .tail _ (.tail _ (.head _)) | exact .tail _ (.tail _ (.tail _ (.head _)))) | exact rd_extract rfl rfl rfl | exact rd_eqT rfl rfl rfl (by omega) | exact rd_eqF rfl rfl rfl (by omega) | exact rd_ltT rfl rfl rfl (by omega) | exact rd_ltF rfl rfl rfl (by omega) | exact rd_neT rfl rfl rfl (by omega) | exact rd_neF rfl rfl rfl (by omega) | exact rd_pickT rfl rfl rfl | exact rd_pickF rfl rfl rfl | exact rd_gtT rfl rfl rfl (by omega) | exact rd_gtF rfl rfl rfl (by omega) | exact rd_geT rfl rfl rfl (by omega) | exact rd_geF rfl rfl rfl (by omega) | exact rd_lenB rfl rfl) ?_; walk_nrm) | (refine opsI_unwanted M.T rfl (by rfl) ?_; walk_nrm) | (refine codeI_seq M.T ?_) | (refine codeI_region M.T ?_; simp only [List.size_toArray, List.length_cons, List.length_nil, Nat.reduceAdd, Nat.zero_add, List.range, List.range.loop]) | (refine opsI_nil M.T ?_; try simp only [ThenI, BlockI, if_true]) | (refine codeI_cond M.T (v := true) rfl ?_; simp only [if_true]) | (refine codeI_cond M.T (v := false) rfl ?_; simp only [Bool.false_eq_true, if_false]) | (refine codeI_block M.T ?_) | (refine codeI_skip M.T ?_; try simp only [ThenI, BlockI, if_true]) | (refine codeI_label M.T ?_; try simp only [ThenI, BlockI, if_true]) | (refine codeI_exit M.T ?_; try simp only [ThenI, BlockI, if_true]) | (refine codeI_ret M.T ?_; try simp only [ThenI, BlockI]))
      refine ⟨.inr rfl, hs, rfl, _, resultsC_tmp (by rfl) _, fun w₁ r => ⟨rfl, ?_⟩⟩
      have hst := hst.rely (M.rely (by rcases hs with rfl | rfl <;> exact r))
      exact ⟨hst.keep.os, hst.keep.tape, hst.keep.output, hst.keep.size, fun k hk => hst.keep.kept k hk (by simp) (.inl hk)⟩
end Go.Proofs.Ytnbgfffcialfkaa
