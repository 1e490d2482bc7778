/-
  LinksOf of the program, which surveys, where another survey may follow. Conditions: those of the survey.
-/
import Derived.Test.YtnbgfffcialfkaaLn34
import Derived.Test.YtnbgfffcialfkaaLnZx
set_option linter.unusedSimpArgs false
set_option linter.unusedVariables false
namespace Go.Proofs.Ytnbgfffcialfkaa
open Go Go.Conc Go.RowKit
set_option linter.unusedVariables false

set_option maxRecDepth 100000 in
set_option maxHeartbeats 3200000 in
/-- LinksOf of a valid plan. -/
theorem ilinks_xE (E : Goroutine → World → Prop) (n a m : Int) (K : Nat) (hp : vpB ⟨n, a, K, m⟩ = true) (l0 : List Lk) (hs : Fnd ⟨n, a, K, m⟩ [newL] 0 l0) (hg : GoodL (Inv ⟨n, a, K, m⟩) l0) (B : Bool) (hB : l0.all (takR ⟨n, a, K, m⟩) = B) (O0 : OwnP) (w0 : World) (hb : BaseO 0 none O0 w0) :
    CallsX Try.prog true PhR PhD (PhFE Try.prog (.agg noughts) E) 14 #[.agg #[.int .i64 n, .int .i64 a, .int .i64 (K : Int), .int .i64 m]] .front O0 w0
      fun s' v O' w' => s' = .back ∧ v = .int .i64 (if B then (l0.length : Int) else -1) ∧ KeepO 0 none O0 w0 O' w' := by
  have hv : (2 ≤ n ∧ n ≤ 4) ∧ (0 ≤ a ∧ a ≤ 4) ∧ K ≤ 4 := by simp [vpB] at hp; omega
  have M : MemI (PhR .front) (PhD .front) 0 none := memF 0
  have T := termsPh
  have hst := hb.st
  have hsv := fun O0 w0 hb0 => survey_xE E n a m K _ (okay_inv hp) hv.1 hv.2.1 hv.2.2 l0 hs (newL_inv _ hp) hg.all ((okay_inv hp).len l0 hg.nodup hg.all) O0 w0 hb0
  rw [hB] at hsv
  refine callsX_of T Try.func14 (by rfl) rfl ?_
  simp only [Try.ntmps14, List.size_toArray, List.length_cons, List.length_nil, Nat.reduceAdd, Nat.reduceSub, Array.replicate_succ, Array.replicate_zero, List.push_toArray, List.append_toArray, List.nil_append, List.cons_append]
  refine codeX_seq T (itemX_of ?_)
  simp only [ThenX]
  repeat (first | (refine i_rd M hst rfl (by rfl) (by first | exact rd_move rfl rfl | exact rd_assign rfl rfl | exact rd_loadP rfl rfl (by first | exact .head _ | exact .tail _ (.head _) | exact .tail _ (.tail _ (.head _)) | exact .tail _ (.tail _ (.tail _ (.head _)))) | exact rd_extract rfl rfl rfl | exact rd_notT rfl rfl | exact rd_notF rfl rfl) ?_; walk_nrm) | (refine i_new M hst rfl (by rfl) (mk_boxP rfl rfl) ?_; intro gp O w hst; walk_nrm) | (refine codeI_region M.T ?_; simp only [List.size_toArray, List.length_cons, List.length_nil, Nat.reduceAdd, Nat.zero_add, List.range, List.range.loop]) | (refine opsI_nil M.T ?_; try simp only [ThenI, BlockI, if_true]) | (refine codeI_cond M.T (v := true) rfl ?_; simp only [if_true]) | (refine codeI_cond M.T (v := false) rfl ?_; simp only [Bool.false_eq_true, if_false]) | (refine codeI_block M.T ?_) | (refine codeI_skip M.T ?_; try simp only [ThenI, BlockI, if_true]) | (refine codeI_label M.T ?_; try simp only [ThenI, BlockI, if_true]) | (refine codeI_exit M.T ?_; try simp only [ThenI, BlockI, if_true]) | (refine codeI_ret M.T ?_; try simp only [ThenI, BlockI]))
  refine codeX_seq T (itemX_of ?_)
  simp only [ThenX]
  repeat (first | (refine i_rd M hst rfl (by rfl) (by first | exact rd_move rfl rfl | exact rd_assign rfl rfl | exact rd_loadP rfl rfl (by first | exact .head _ | exact .tail _ (.head _) | exact .tail _ (.tail _ (.head _)) | exact .tail _ (.tail _ (.tail _ (.head _)))) | exact rd_extract rfl rfl rfl | exact rd_notT rfl rfl | exact rd_notF rfl rfl) ?_; walk_nrm) | (refine i_new M hst rfl (by rfl) (mk_boxP rfl rfl) ?_; intro gp O w hst; walk_nrm) | (refine codeI_seq M.T ?_) | (refine codeI_region M.T ?_; simp only [List.size_toArray, List.length_cons, List.length_nil, Nat.reduceAdd, Nat.zero_add, List.range, List.range.loop]) | (refine opsI_nil M.T ?_; try simp only [ThenI, BlockI, if_true]) | (refine codeI_cond M.T (v := true) rfl ?_; simp only [if_true]) | (refine codeI_cond M.T (v := false) rfl ?_; simp only [Bool.false_eq_true, if_false]) | (refine codeI_block M.T ?_) | (refine codeI_skip M.T ?_; try simp only [ThenI, BlockI, if_true]) | (refine codeI_label M.T ?_; try simp only [ThenI, BlockI, if_true]) | (refine codeI_exit M.T ?_; try simp only [ThenI, BlockI, if_true]) | (refine codeI_ret M.T ?_; try simp only [ThenI, BlockI]))
  (refine i_call (Rv := fun v => v = .bool true) M hst rfl (by rfl) rfl (fun O w hb => by walk_nrm; exact (cvp_any M n a K m true hp O w hb)) ?_; rintro _ O w rfl hst; walk_nrm)
  repeat (first | (refine i_rd M hst rfl (by rfl) (by first | exact rd_move rfl rfl | exact rd_assign rfl rfl | exact rd_loadP rfl rfl (by first | exact .head _ | exact .tail _ (.head _) | exact .tail _ (.tail _ (.head _)) | exact .tail _ (.tail _ (.tail _ (.head _)))) | exact rd_extract rfl rfl rfl | exact rd_notT rfl rfl | exact rd_notF rfl rfl) ?_; walk_nrm) | (refine i_new M hst rfl (by rfl) (mk_boxP rfl rfl) ?_; intro gp O w hst; walk_nrm) | (refine codeI_seq M.T ?_) | (refine codeI_region M.T ?_; simp only [List.size_toArray, List.length_cons, List.length_nil, Nat.reduceAdd, Nat.zero_add, List.range, List.range.loop]) | (refine opsI_nil M.T ?_; try simp only [ThenI, BlockI, if_true]) | (refine codeI_cond M.T (v := true) rfl ?_; simp only [if_true]) | (refine codeI_cond M.T (v := false) rfl ?_; simp only [Bool.false_eq_true, if_false]) | (refine codeI_block M.T ?_) | (refine codeI_skip M.T ?_; try simp only [ThenI, BlockI, if_true]) | (refine codeI_label M.T ?_; try simp only [ThenI, BlockI, if_true]) | (refine codeI_exit M.T ?_; try simp only [ThenI, BlockI, if_true]) | (refine codeI_ret M.T ?_; try simp only [ThenI, BlockI]))
  refine codeX_seq T ?_
  refine codeX_region T ?_
  simp only [List.size_toArray, List.length_cons, List.length_nil, Nat.reduceAdd, Nat.zero_add, List.range, List.range.loop]
  (refine p_rdE M hst rfl (by rfl) (rd_loadP rfl rfl (.head _)) ?_; walk_nrm)
  refine opsX_call T rfl (by rfl) rfl (by walk_nrm; exact hsv _ _ hst.now) ?_
  rintro s' v O w ⟨rfl, rfl, hk⟩
  replace hst := hst.calls hk
  clear M hsv
  have M : MemI (PhR .back) (PhD .back) 0 none := memF 0
  walk_nrm
  refine itemX_of ?_
  repeat (first | (refine i_rd M hst rfl (by rfl) (by first | exact rd_move rfl rfl | exact rd_assign rfl rfl | exact rd_loadP rfl rfl (by first | exact .head _ | exact .tail _ (.head _) | exact .tail _ (.tail _ (.head _)) | exact .tail _ (.tail _ (.tail _ (.head _)))) | exact rd_extract rfl rfl rfl | exact rd_notT rfl rfl | exact rd_notF rfl rfl) ?_; walk_nrm) | (refine i_new M hst rfl (by rfl) (mk_boxP rfl rfl) ?_; intro gp O w hst; walk_nrm) | (refine codeI_seq M.T ?_) | (refine codeI_region M.T ?_; simp only [List.size_toArray, List.length_cons, List.length_nil, Nat.reduceAdd, Nat.zero_add, List.range, List.range.loop]) | (refine opsI_nil M.T ?_; try simp only [ThenI, BlockI, if_true]) | (refine codeI_cond M.T (v := true) rfl ?_; simp only [if_true]) | (refine codeI_cond M.T (v := false) rfl ?_; simp only [Bool.false_eq_true, if_false]) | (refine codeI_block M.T ?_) | (refine codeI_skip M.T ?_; try simp only [ThenI, BlockI, if_true]) | (refine codeI_label M.T ?_; try simp only [ThenI, BlockI, if_true]) | (refine codeI_exit M.T ?_; try simp only [ThenI, BlockI, if_true]) | (refine codeI_ret M.T ?_; try simp only [ThenI, BlockI]))
  simp only [ThenX, ThenI]
  cases B
  · refine codeX_seq T (itemX_of ?_)
    simp only [ThenX]
    repeat (first | (refine i_rd M hst rfl (by rfl) (by first | exact rd_move rfl rfl | exact rd_assign rfl rfl | exact rd_loadP rfl rfl (by first | exact .head _ | exact .tail _ (.head _) | exact .tail _ (.tail _ (.head _)) | exact .tail _ (.tail _ (.tail _ (.head _)))) | exact rd_extract rfl rfl rfl | exact rd_notT rfl rfl | exact rd_notF rfl rfl) ?_; walk_nrm) | (refine i_new M hst rfl (by rfl) (mk_boxP rfl rfl) ?_; intro gp O w hst; walk_nrm) | (refine codeI_seq M.T ?_) | (refine codeI_region M.T ?_; simp only [List.size_toArray, List.length_cons, List.length_nil, Nat.reduceAdd, Nat.zero_add, List.range, List.range.loop]) | (refine opsI_nil M.T ?_; try simp only [ThenI, BlockI, if_true]) | (refine codeI_cond M.T (v := true) rfl ?_; simp only [if_true]) | (refine codeI_cond M.T (v := false) rfl ?_; simp only [Bool.false_eq_true, if_false]) | (refine codeI_block M.T ?_) | (refine codeI_skip M.T ?_; try simp only [ThenI, BlockI, if_true]) | (refine codeI_label M.T ?_; try simp only [ThenI, BlockI, if_true]) | (refine codeI_exit M.T ?_; try simp only [ThenI, BlockI, if_true]) | (refine codeI_ret M.T ?_; try simp only [ThenI, BlockI]))
    exact ⟨rfl, _, ResI.of M.T (resultsC_tmp (by rfl) _), rfl, rfl, hst.keep⟩
  · refine codeX_seq T (itemX_of ?_)
    simp only [ThenX]
    repeat (first | (refine i_rd M hst rfl (by rfl) (by first | exact rd_move rfl rfl | exact rd_assign rfl rfl | exact rd_loadP rfl rfl (by first | exact .head _ | exact .tail _ (.head _) | exact .tail _ (.tail _ (.head _)) | exact .tail _ (.tail _ (.tail _ (.head _)))) | exact rd_extract rfl rfl rfl | exact rd_notT rfl rfl | exact rd_notF rfl rfl) ?_; walk_nrm) | (refine i_new M hst rfl (by rfl) (mk_boxP rfl rfl) ?_; intro gp O w hst; walk_nrm) | (refine codeI_seq M.T ?_) | (refine codeI_region M.T ?_; simp only [List.size_toArray, List.length_cons, List.length_nil, Nat.reduceAdd, Nat.zero_add, List.range, List.range.loop]) | (refine opsI_nil M.T ?_; try simp only [ThenI, BlockI, if_true]) | (refine codeI_cond M.T (v := true) rfl ?_; simp only [if_true]) | (refine codeI_cond M.T (v := false) rfl ?_; simp only [Bool.false_eq_true, if_false]) | (refine codeI_block M.T ?_) | (refine codeI_skip M.T ?_; try simp only [ThenI, BlockI, if_true]) | (refine codeI_label M.T ?_; try simp only [ThenI, BlockI, if_true]) | (refine codeI_exit M.T ?_; try simp only [ThenI, BlockI, if_true]) | (refine codeI_ret M.T ?_; try simp only [ThenI, BlockI]))
    try simp only [ThenX, ThenI]
    refine itemX_of ?_
    repeat (first | (refine i_rd M hst rfl (by rfl) (by first | exact rd_move rfl rfl | exact rd_assign rfl rfl | exact rd_loadP rfl rfl (by first | exact .head _ | exact .tail _ (.head _) | exact .tail _ (.tail _ (.head _)) | exact .tail _ (.tail _ (.tail _ (.head _)))) | exact rd_extract rfl rfl rfl | exact rd_notT rfl rfl | exact rd_notF rfl rfl) ?_; walk_nrm) | (refine i_new M hst rfl (by rfl) (mk_boxP rfl rfl) ?_; intro gp O w hst; walk_nrm) | (refine codeI_seq M.T ?_) | (refine codeI_region M.T ?_; simp only [List.size_toArray, List.length_cons, List.length_nil, Nat.reduceAdd, Nat.zero_add, List.range, List.range.loop]) | (refine opsI_nil M.T ?_; try simp only [ThenI, BlockI, if_true]) | (refine codeI_cond M.T (v := true) rfl ?_; simp only [if_true]) | (refine codeI_cond M.T (v := false) rfl ?_; simp only [Bool.false_eq_true, if_false]) | (refine codeI_block M.T ?_) | (refine codeI_skip M.T ?_; try simp only [ThenI, BlockI, if_true]) | (refine codeI_label M.T ?_; try simp only [ThenI, BlockI, if_true]) | (refine codeI_exit M.T ?_; try simp only [ThenI, BlockI, if_true]) | (refine codeI_ret M.T ?_; try simp only [ThenI, BlockI]))
    exact ⟨rfl, _, ResI.of M.T (resultsC_tmp (by rfl) _), rfl, rfl, hst.keep⟩
set_option maxRecDepth 100000 in
set_option maxHeartbeats 3200000 in
/-- .. of any other plan. -/
theorem ilinks_noE (n a k m : Int) (hp : vpB ⟨n, a, k, m⟩ = false) (O0 : OwnP) (w0 : World) (hb : BaseO 0 none O0 w0) :
    CallsI Try.prog true RelF DelF 14 #[.agg #[.int .i64 n, .int .i64 a, .int .i64 k, .int .i64 m]] O0 w0
      fun v O' w' => v = .int .i64 (-1) ∧ KeepO 0 none O0 w0 O' w' := by
  have M := memF 0
  have hst := hb.st
  refine callsI_of M.T Try.func14 (by rfl) rfl ?_
  simp only [Try.ntmps14, List.size_toArray, List.length_cons, List.length_nil, Nat.reduceAdd, Nat.reduceSub, Array.replicate_succ, Array.replicate_zero, List.push_toArray, List.append_toArray, List.nil_append, List.cons_append]
  repeat (first | (refine i_rd M hst rfl (by rfl) (by first | exact rd_move rfl rfl | exact rd_assign rfl rfl | exact rd_loadP rfl rfl (by first | exact .head _ | exact .tail _ (.head _) | exact .tail _ (.tail _ (.head _)) | exact .tail _ (.tail _ (.tail _ (.head _)))) | exact rd_extract rfl rfl rfl | exact rd_notT rfl rfl | exact rd_notF rfl rfl) ?_; walk_nrm) | (refine i_new M hst rfl (by rfl) (mk_boxP rfl rfl) ?_; intro gp O w hst; walk_nrm) | (refine codeI_seq M.T ?_) | (refine codeI_region M.T ?_; simp only [List.size_toArray, List.length_cons, List.length_nil, Nat.reduceAdd, Nat.zero_add, List.range, List.range.loop]) | (refine opsI_nil M.T ?_; try simp only [ThenI, BlockI, if_true]) | (refine codeI_cond M.T (v := true) rfl ?_; simp only [if_true]) | (refine codeI_cond M.T (v := false) rfl ?_; simp only [Bool.false_eq_true, if_false]) | (refine codeI_block M.T ?_) | (refine codeI_skip M.T ?_; try simp only [ThenI, BlockI, if_true]) | (refine codeI_label M.T ?_; try simp only [ThenI, BlockI, if_true]) | (refine codeI_exit M.T ?_; try simp only [ThenI, BlockI, if_true]) | (refine codeI_ret M.T ?_; try simp only [ThenI, BlockI]))
  (refine i_call (Rv := fun v => v = .bool false) M hst rfl (by rfl) rfl (fun O w hb => by walk_nrm; exact (cvp_any M n a k m false hp O w hb)) ?_; rintro _ O w rfl hst; walk_nrm)
  repeat (first | (refine i_rd M hst rfl (by rfl) (by first | exact rd_move rfl rfl | exact rd_assign rfl rfl | exact rd_loadP rfl rfl (by first | exact .head _ | exact .tail _ (.head _) | exact .tail _ (.tail _ (.head _)) | exact .tail _ (.tail _ (.tail _ (.head _)))) | exact rd_extract rfl rfl rfl | exact rd_notT rfl rfl | exact rd_notF rfl rfl) ?_; walk_nrm) | (refine i_new M hst rfl (by rfl) (mk_boxP rfl rfl) ?_; intro gp O w hst; walk_nrm) | (refine codeI_seq M.T ?_) | (refine codeI_region M.T ?_; simp only [List.size_toArray, List.length_cons, List.length_nil, Nat.reduceAdd, Nat.zero_add, List.range, List.range.loop]) | (refine opsI_nil M.T ?_; try simp only [ThenI, BlockI, if_true]) | (refine codeI_cond M.T (v := true) rfl ?_; simp only [if_true]) | (refine codeI_cond M.T (v := false) rfl ?_; simp only [Bool.false_eq_true, if_false]) | (refine codeI_block M.T ?_) | (refine codeI_skip M.T ?_; try simp only [ThenI, BlockI, if_true]) | (refine codeI_label M.T ?_; try simp only [ThenI, BlockI, if_true]) | (refine codeI_exit M.T ?_; try simp only [ThenI, BlockI, if_true]) | (refine codeI_ret M.T ?_; try simp only [ThenI, BlockI]))
  exact ⟨rfl, _, ResI.of M.T (resultsC_tmp (by rfl) _), rfl, hst.keep⟩
end Go.Proofs.Ytnbgfffcialfkaa
