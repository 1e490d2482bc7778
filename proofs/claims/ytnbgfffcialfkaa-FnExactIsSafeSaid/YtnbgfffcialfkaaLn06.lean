/-
  The walks in company of the program's small functions on links: within, mostSent, sameRest. Conditions: the bounds that are typed.
  The plain mathematics of links: no program is named here. No condition.
-/
import Derived.Test.YtnbgfffcialfkaaLn05
import Init
set_option linter.unusedSimpArgs false
set_option linter.unusedVariables false
namespace Go.Proofs.Ytnbgfffcialfkaa
open Go Go.Conc Go.RowKit
set_option linter.unusedVariables false

set_option maxRecDepth 100000 in
theorem cms_any {main : Bool} {Low : Nat} {c : Option Nat} {R : RelyI} {D : GuarI} (M : MemI R D Low c) (n a k m x : Int) (ha : 0 ≤ a ∧ a ≤ 1000) (hx : 0 ≤ x ∧ x ≤ 1000) (O0 : OwnP) (w0 : World) (hb : BaseO Low c O0 w0) :
    CallsI Try.prog main R D 51 #[.agg #[.int .i64 n, .int .i64 a, .int .i64 k, .int .i64 m], .int .i64 x] O0 w0 fun v O' w' => v = .int .i64 (min m (x + a)) ∧ KeepO Low c O0 w0 O' w' := by
  have hst := hb.st
  refine callsI_of M.T Try.func51 (by rfl) rfl ?_
  simp only [Try.ntmps51, List.size_toArray, List.length_cons, List.length_nil, Nat.reduceAdd, Nat.reduceSub, Array.replicate_succ, Array.replicate_zero, List.push_toArray, List.append_toArray, List.nil_append, List.cons_append]
  repeat (first | (refine i_rd M hst rfl (by rfl) (by first | exact rd_move rfl rfl | exact rd_assign rfl rfl | exact rd_fieldP (by decide) rfl rfl | exact rd_loadI rfl rfl (by first | exact .head _ | exact .tail _ (.head _) | exact .tail _ (.tail _ (.head _)) | exact .tail _ (.tail _ (.tail _ (.head _)))) (by rfl) | exact rd_add rfl rfl rfl (by omega) | exact rd_min rfl rfl rfl) ?_; walk_nrm) | (refine i_new M hst rfl (by rfl) (mk_boxP rfl rfl) ?_; intro gp O w hst; walk_nrm) | (refine codeI_seq M.T ?_) | (refine codeI_region M.T ?_; simp only [List.size_toArray, List.length_cons, List.length_nil, Nat.reduceAdd, Nat.zero_add, List.range, List.range.loop]) | (refine opsI_nil M.T ?_; try simp only [ThenI, BlockI, if_true]) | (refine codeI_cond M.T (v := true) rfl ?_; simp only [if_true]) | (refine codeI_cond M.T (v := false) rfl ?_; simp only [Bool.false_eq_true, if_false]) | (refine codeI_block M.T ?_) | (refine codeI_skip M.T ?_; try simp only [ThenI, BlockI, if_true]) | (refine codeI_label M.T ?_; try simp only [ThenI, BlockI, if_true]) | (refine codeI_exit M.T ?_; try simp only [ThenI, BlockI, if_true]) | (refine codeI_ret M.T ?_; try simp only [ThenI, BlockI]))
  exact ⟨rfl, _, ResI.of M.T (resultsC_tmp (by rfl) _), rfl, hst.keep⟩
theorem tmod_pos (x n : Int) (hx : 0 ≤ x) : x.tmod n = x % n := Int.tmod_eq_emod_of_nonneg hx
set_option maxRecDepth 100000 in
theorem csr_any {main : Bool} {Low : Nat} {c : Option Nat} {R : RelyI} {D : GuarI} (M : MemI R D Low c) (n a k m x y : Int) (b : Bool) (hb1 : decide (x % n = y % n) = b) (hn : 2 ≤ n) (hx : 0 ≤ x) (hy : 0 ≤ y) (O0 : OwnP) (w0 : World) (hb : BaseO Low c O0 w0) :
    CallsI Try.prog main R D 53 #[.agg #[.int .i64 n, .int .i64 a, .int .i64 k, .int .i64 m], .int .i64 x, .int .i64 y] O0 w0 fun v O' w' => v = .bool b ∧ KeepO Low c O0 w0 O' w' := by
  have hst := hb.st
  have hx' := tmod_pos x n hx
  have hy' := tmod_pos y n hy
  refine callsI_of M.T Try.func53 (by rfl) rfl ?_
  simp only [Try.ntmps53, List.size_toArray, List.length_cons, List.length_nil, Nat.reduceAdd, Nat.reduceSub, Array.replicate_succ, Array.replicate_zero, List.push_toArray, List.append_toArray, List.nil_append, List.cons_append]
  repeat (first | (refine i_rd M hst rfl (by rfl) (by first | exact rd_move rfl rfl | exact rd_assign rfl rfl | exact rd_fieldP (by decide) rfl rfl | exact rd_loadI rfl rfl (by first | exact .head _ | exact .tail _ (.head _) | exact .tail _ (.tail _ (.head _)) | exact .tail _ (.tail _ (.tail _ (.head _)))) (by rfl) | exact rd_eqT rfl rfl rfl (by omega) | exact rd_eqF rfl rfl rfl (by omega) | exact rd_rem rfl rfl rfl (by omega)) ?_; walk_nrm) | (refine i_new M hst rfl (by rfl) (mk_boxP rfl rfl) ?_; intro gp O w hst; walk_nrm) | (refine codeI_seq M.T ?_) | (refine codeI_region M.T ?_; simp only [List.size_toArray, List.length_cons, List.length_nil, Nat.reduceAdd, Nat.zero_add, List.range, List.range.loop]) | (refine opsI_nil M.T ?_; try simp only [ThenI, BlockI, if_true]) | (refine codeI_cond M.T (v := true) rfl ?_; simp only [if_true]) | (refine codeI_cond M.T (v := false) rfl ?_; simp only [Bool.false_eq_true, if_false]) | (refine codeI_block M.T ?_) | (refine codeI_skip M.T ?_; try simp only [ThenI, BlockI, if_true]) | (refine codeI_label M.T ?_; try simp only [ThenI, BlockI, if_true]) | (refine codeI_exit M.T ?_; try simp only [ThenI, BlockI, if_true]) | (refine codeI_ret M.T ?_; try simp only [ThenI, BlockI]))
  refine i_held M hst fun w hst => ?_
  (refine anyIH_take M.T (fun O x y h r => h.rely (M.rely r)) (fun O a x y h r => ItemI.rely M.T h r) (i := 0) rfl (by kernel_rfl) (by kernel_rfl) (by kernel_rfl) (y_rd M (by rfl) (by first | exact rd_move rfl rfl | exact rd_assign rfl rfl | exact rd_fieldP (by decide) rfl rfl | exact rd_loadI rfl rfl (by first | exact .head _ | exact .tail _ (.head _) | exact .tail _ (.tail _ (.head _)) | exact .tail _ (.tail _ (.tail _ (.head _)))) (by rfl) | exact rd_eqT rfl rfl rfl (by omega) | exact rd_eqF rfl rfl rfl (by omega) | exact rd_rem rfl rfl rfl (by omega))) (hst.weak (by repeat (first | exact .slnil | apply List.Sublist.cons_cons | apply List.Sublist.cons))) ?_; walk_nrm)
  (refine anyIH_take M.T (fun O x y h r => h.rely (M.rely r)) (fun O a x y h r => ItemI.rely M.T h r) (i := 1) rfl (by kernel_rfl) (by kernel_rfl) (by kernel_rfl) (y_rd M (by rfl) (by first | exact rd_move rfl rfl | exact rd_assign rfl rfl | exact rd_fieldP (by decide) rfl rfl | exact rd_loadI rfl rfl (by first | exact .head _ | exact .tail _ (.head _) | exact .tail _ (.tail _ (.head _)) | exact .tail _ (.tail _ (.tail _ (.head _)))) (by rfl) | exact rd_eqT rfl rfl rfl (by omega) | exact rd_eqF rfl rfl rfl (by omega) | exact rd_rem rfl rfl rfl (by omega))) (hst.weak (by repeat (first | exact .slnil | apply List.Sublist.cons_cons | apply List.Sublist.cons))) ?_; walk_nrm)
  (refine anyIH_take M.T (fun O x y h r => h.rely (M.rely r)) (fun O a x y h r => ItemI.rely M.T h r) (i := 2) rfl (by kernel_rfl) (by kernel_rfl) (by kernel_rfl) (y_rd M (by rfl) (by first | exact rd_move rfl rfl | exact rd_assign rfl rfl | exact rd_fieldP (by decide) rfl rfl | exact rd_loadI rfl rfl (by first | exact .head _ | exact .tail _ (.head _) | exact .tail _ (.tail _ (.head _)) | exact .tail _ (.tail _ (.tail _ (.head _)))) (by rfl) | exact rd_eqT rfl rfl rfl (by omega) | exact rd_eqF rfl rfl rfl (by omega) | exact rd_rem rfl rfl rfl (by omega))) (hst.weak (by repeat (first | exact .slnil | apply List.Sublist.cons_cons | apply List.Sublist.cons))) ?_; walk_nrm)
  (refine anyIH_take M.T (fun O x y h r => h.rely (M.rely r)) (fun O a x y h r => ItemI.rely M.T h r) (i := 3) rfl (by kernel_rfl) (by kernel_rfl) (by kernel_rfl) (y_rd M (by rfl) (by first | exact rd_move rfl rfl | exact rd_assign rfl rfl | exact rd_fieldP (by decide) rfl rfl | exact rd_loadI rfl rfl (by first | exact .head _ | exact .tail _ (.head _) | exact .tail _ (.tail _ (.head _)) | exact .tail _ (.tail _ (.tail _ (.head _)))) (by rfl) | exact rd_eqT rfl rfl rfl (by omega) | exact rd_eqF rfl rfl rfl (by omega) | exact rd_rem rfl rfl rfl (by omega))) (hst.weak (by repeat (first | exact .slnil | apply List.Sublist.cons_cons | apply List.Sublist.cons))) ?_; walk_nrm)
  (refine anyIH_take M.T (fun O x y h r => h.rely (M.rely r)) (fun O a x y h r => ItemI.rely M.T h r) (i := 4) rfl (by kernel_rfl) (by kernel_rfl) (by kernel_rfl) (y_rd M (by rfl) (by first | exact rd_move rfl rfl | exact rd_assign rfl rfl | exact rd_fieldP (by decide) rfl rfl | exact rd_loadI rfl rfl (by first | exact .head _ | exact .tail _ (.head _) | exact .tail _ (.tail _ (.head _)) | exact .tail _ (.tail _ (.tail _ (.head _)))) (by rfl) | exact rd_eqT rfl rfl rfl (by omega) | exact rd_eqF rfl rfl rfl (by omega) | exact rd_rem rfl rfl rfl (by omega))) (hst.weak (by repeat (first | exact .slnil | apply List.Sublist.cons_cons | apply List.Sublist.cons))) ?_; walk_nrm)
  (refine anyIH_take M.T (fun O x y h r => h.rely (M.rely r)) (fun O a x y h r => ItemI.rely M.T h r) (i := 5) rfl (by kernel_rfl) (by kernel_rfl) (by kernel_rfl) (y_rd M (by rfl) (by first | exact rd_move rfl rfl | exact rd_assign rfl rfl | exact rd_fieldP (by decide) rfl rfl | exact rd_loadI rfl rfl (by first | exact .head _ | exact .tail _ (.head _) | exact .tail _ (.tail _ (.head _)) | exact .tail _ (.tail _ (.tail _ (.head _)))) (by rfl) | exact rd_eqT rfl rfl rfl (by omega) | exact rd_eqF rfl rfl rfl (by omega) | exact rd_rem rfl rfl rfl (by omega))) (hst.weak (by repeat (first | exact .slnil | apply List.Sublist.cons_cons | apply List.Sublist.cons))) ?_; walk_nrm)
  (refine anyIH_take M.T (fun O x y h r => h.rely (M.rely r)) (fun O a x y h r => ItemI.rely M.T h r) (i := 6) rfl (by kernel_rfl) (by kernel_rfl) (by kernel_rfl) (y_rd M (by rfl) (by first | exact rd_move rfl rfl | exact rd_assign rfl rfl | exact rd_fieldP (by decide) rfl rfl | exact rd_loadI rfl rfl (by first | exact .head _ | exact .tail _ (.head _) | exact .tail _ (.tail _ (.head _)) | exact .tail _ (.tail _ (.tail _ (.head _)))) (by rfl) | exact rd_eqT rfl rfl rfl (by omega) | exact rd_eqF rfl rfl rfl (by omega) | exact rd_rem rfl rfl rfl (by omega))) (hst.weak (by repeat (first | exact .slnil | apply List.Sublist.cons_cons | apply List.Sublist.cons))) ?_; walk_nrm)
  (refine anyIH_take M.T (fun O x y h r => h.rely (M.rely r)) (fun O a x y h r => ItemI.rely M.T h r) (i := 7) rfl (by kernel_rfl) (by kernel_rfl) (by kernel_rfl) (y_rd M (by rfl) (by first | exact rd_move rfl rfl | exact rd_assign rfl rfl | exact rd_fieldP (by decide) rfl rfl | exact rd_loadI rfl rfl (by first | exact .head _ | exact .tail _ (.head _) | exact .tail _ (.tail _ (.head _)) | exact .tail _ (.tail _ (.tail _ (.head _)))) (by rfl) | exact rd_eqT rfl rfl rfl (by omega) | exact rd_eqF rfl rfl rfl (by omega) | exact rd_rem rfl rfl rfl (by omega))) (hst.weak (by repeat (first | exact .slnil | apply List.Sublist.cons_cons | apply List.Sublist.cons))) ?_; walk_nrm)
  by_cases he : x.tmod n = y.tmod n
  · (refine anyIH_take M.T (fun O x y h r => h.rely (M.rely r)) (fun O a x y h r => ItemI.rely M.T h r) (i := 8) rfl (by kernel_rfl) (by kernel_rfl) (by kernel_rfl) (y_rd M (by rfl) (by first | exact rd_move rfl rfl | exact rd_assign rfl rfl | exact rd_fieldP (by decide) rfl rfl | exact rd_loadI rfl rfl (by first | exact .head _ | exact .tail _ (.head _) | exact .tail _ (.tail _ (.head _)) | exact .tail _ (.tail _ (.tail _ (.head _)))) (by rfl) | exact rd_eqT rfl rfl rfl (by omega) | exact rd_eqF rfl rfl rfl (by omega) | exact rd_rem rfl rfl rfl (by omega))) (hst.weak (by repeat (first | exact .slnil | apply List.Sublist.cons_cons | apply List.Sublist.cons))) ?_; walk_nrm)
    (refine anyIH_take M.T (fun O x y h r => h.rely (M.rely r)) (fun O a x y h r => ItemI.rely M.T h r) (i := 9) rfl (by kernel_rfl) (by kernel_rfl) (by kernel_rfl) (y_rd M (by rfl) (by first | exact rd_move rfl rfl | exact rd_assign rfl rfl | exact rd_fieldP (by decide) rfl rfl | exact rd_loadI rfl rfl (by first | exact .head _ | exact .tail _ (.head _) | exact .tail _ (.tail _ (.head _)) | exact .tail _ (.tail _ (.tail _ (.head _)))) (by rfl) | exact rd_eqT rfl rfl rfl (by omega) | exact rd_eqF rfl rfl rfl (by omega) | exact rd_rem rfl rfl rfl (by omega))) (hst.weak (by repeat (first | exact .slnil | apply List.Sublist.cons_cons | apply List.Sublist.cons))) ?_; walk_nrm)
    refine anyIH_done (by kernel_rfl) ?_ _
    simp only [ThenI]
    repeat (first | (refine i_rd M hst rfl (by rfl) (by first | exact rd_move rfl rfl | exact rd_assign rfl rfl | exact rd_fieldP (by decide) rfl rfl | exact rd_loadI rfl rfl (by first | exact .head _ | exact .tail _ (.head _) | exact .tail _ (.tail _ (.head _)) | exact .tail _ (.tail _ (.tail _ (.head _)))) (by rfl) | exact rd_eqT rfl rfl rfl (by omega) | exact rd_eqF rfl rfl rfl (by omega) | exact rd_rem rfl rfl rfl (by omega)) ?_; walk_nrm) | (refine i_new M hst rfl (by rfl) (mk_boxP rfl rfl) ?_; intro gp O w hst; walk_nrm) | (refine codeI_seq M.T ?_) | (refine codeI_region M.T ?_; simp only [List.size_toArray, List.length_cons, List.length_nil, Nat.reduceAdd, Nat.zero_add, List.range, List.range.loop]) | (refine opsI_nil M.T ?_; try simp only [ThenI, BlockI, if_true]) | (refine codeI_cond M.T (v := true) rfl ?_; simp only [if_true]) | (refine codeI_cond M.T (v := false) rfl ?_; simp only [Bool.false_eq_true, if_false]) | (refine codeI_block M.T ?_) | (refine codeI_skip M.T ?_; try simp only [ThenI, BlockI, if_true]) | (refine codeI_label M.T ?_; try simp only [ThenI, BlockI, if_true]) | (refine codeI_exit M.T ?_; try simp only [ThenI, BlockI, if_true]) | (refine codeI_ret M.T ?_; try simp only [ThenI, BlockI]))
    refine ⟨rfl, _, ResI.of M.T (resultsC_tmp (by rfl) _), ?_, hst.keep⟩
    rw [← hb1]; simp; omega
  · (refine anyIH_take M.T (fun O x y h r => h.rely (M.rely r)) (fun O a x y h r => ItemI.rely M.T h r) (i := 8) rfl (by kernel_rfl) (by kernel_rfl) (by kernel_rfl) (y_rd M (by rfl) (by first | exact rd_move rfl rfl | exact rd_assign rfl rfl | exact rd_fieldP (by decide) rfl rfl | exact rd_loadI rfl rfl (by first | exact .head _ | exact .tail _ (.head _) | exact .tail _ (.tail _ (.head _)) | exact .tail _ (.tail _ (.tail _ (.head _)))) (by rfl) | exact rd_eqT rfl rfl rfl (by omega) | exact rd_eqF rfl rfl rfl (by omega) | exact rd_rem rfl rfl rfl (by omega))) (hst.weak (by repeat (first | exact .slnil | apply List.Sublist.cons_cons | apply List.Sublist.cons))) ?_; walk_nrm)
    (refine anyIH_take M.T (fun O x y h r => h.rely (M.rely r)) (fun O a x y h r => ItemI.rely M.T h r) (i := 9) rfl (by kernel_rfl) (by kernel_rfl) (by kernel_rfl) (y_rd M (by rfl) (by first | exact rd_move rfl rfl | exact rd_assign rfl rfl | exact rd_fieldP (by decide) rfl rfl | exact rd_loadI rfl rfl (by first | exact .head _ | exact .tail _ (.head _) | exact .tail _ (.tail _ (.head _)) | exact .tail _ (.tail _ (.tail _ (.head _)))) (by rfl) | exact rd_eqT rfl rfl rfl (by omega) | exact rd_eqF rfl rfl rfl (by omega) | exact rd_rem rfl rfl rfl (by omega))) (hst.weak (by repeat (first | exact .slnil | apply List.Sublist.cons_cons | apply List.Sublist.cons))) ?_; walk_nrm)
    refine anyIH_done (by kernel_rfl) ?_ _
    simp only [ThenI]
    repeat (first | (refine i_rd M hst rfl (by rfl) (by first | exact rd_move rfl rfl | exact rd_assign rfl rfl | exact rd_fieldP (by decide) rfl rfl | exact rd_loadI rfl rfl (by first | exact .head _ | exact .tail _ (.head _) | exact .tail _ (.tail _ (.head _)) | exact .tail _ (.tail _ (.tail _ (.head _)))) (by rfl) | exact rd_eqT rfl rfl rfl (by omega) | exact rd_eqF rfl rfl rfl (by omega) | exact rd_rem rfl rfl rfl (by omega)) ?_; walk_nrm) | (refine i_new M hst rfl (by rfl) (mk_boxP rfl rfl) ?_; intro gp O w hst; walk_nrm) | (refine codeI_seq M.T ?_) | (refine codeI_region M.T ?_; simp only [List.size_toArray, List.length_cons, List.length_nil, Nat.reduceAdd, Nat.zero_add, List.range, List.range.loop]) | (refine opsI_nil M.T ?_; try simp only [ThenI, BlockI, if_true]) | (refine codeI_cond M.T (v := true) rfl ?_; simp only [if_true]) | (refine codeI_cond M.T (v := false) rfl ?_; simp only [Bool.false_eq_true, if_false]) | (refine codeI_block M.T ?_) | (refine codeI_skip M.T ?_; try simp only [ThenI, BlockI, if_true]) | (refine codeI_label M.T ?_; try simp only [ThenI, BlockI, if_true]) | (refine codeI_exit M.T ?_; try simp only [ThenI, BlockI, if_true]) | (refine codeI_ret M.T ?_; try simp only [ThenI, BlockI]))
    refine ⟨rfl, _, ResI.of M.T (resultsC_tmp (by rfl) _), ?_, hst.keep⟩
    rw [← hb1]; simp; omega
end Go.Proofs.Ytnbgfffcialfkaa

namespace Go.Proofs.Ytnbgfffcialfkaa
set_option linter.unusedVariables false

/-- A plan: numbers, ahead, kept, words. -/
structure Pl where
  n : Int
  a : Int
  k : Int
  w : Int
/-- A link: known, sent, due, held, data, word. -/
structure Lk where
  kn : Int
  s : Int
  d : Int
  h : Int
  da : Int
  wo : Int
deriving DecidableEq

def vpB (p : Pl) : Bool := decide (2 ≤ p.n ∧ p.n ≤ 4 ∧ 1 ≤ p.a ∧ p.a ≤ 4 ∧ 1 ≤ p.k ∧ p.k ≤ 4 ∧ 1 ≤ p.w ∧ p.w ≤ 5)
/-- How many words may be sent. -/
def mostS (p : Pl) (kn : Int) : Int := min p.w (kn + p.a)
/-- How many places may be held. -/
def room (p : Pl) (l : Lk) : Nat := (min p.k (l.s - l.d)).toNat
/-- What holds of a link behind acts without a wrong word. -/
def Inv (p : Pl) (l : Lk) : Prop :=
  0 ≤ l.kn ∧ l.kn ≤ p.w ∧ l.kn ≤ l.s ∧ l.s ≤ p.w ∧ l.s ≤ l.kn + p.a ∧ 0 ≤ l.d ∧ l.d ≤ l.s ∧ 0 ≤ l.h ∧ l.h % 2 = 0 ∧ l.h < 2 ^ room p l ∧ -1 ≤ l.da ∧ l.da < l.s ∧ -1 ≤ l.wo ∧ l.wo ≤ l.d
instance (p : Pl) (l : Lk) : Decidable (Inv p l) := by unfold Inv; infer_instance
/-- Whether a link is one of a plan. -/
def vlB (p : Pl) (l : Lk) : Bool := decide (Inv p l ∧ l.kn ≤ l.d)

/-- The first place from k on, of f, with the word's rest. -/
def findK (n d x : Int) : Nat → Nat → Option Nat
  | 0, _ => none
  | f + 1, k => if (d + k) % n = x % n then some k else findK n d x f (k + 1)
/-- The due goes on over what is held. -/
def strip : Nat → Int → Int → Int × Int
  | 0, h, d => (h, d)
  | f + 1, h, d => if h % 2 = 1 then strip f (h / 2) (d + 1) else (h, d)
def orb (h : Int) (k : Nat) : Int := if h / 2 ^ k % 2 = 1 then h else h + 2 ^ k
/-- The link behind a word that is held so. -/
def took (l : Lk) (h : Int) : Lk := { l with da := -1, h := (strip 5 h l.d).1, d := (strip 5 h l.d).2, wo := (strip 5 h l.d).2 }
def takeF (p : Pl) (l : Lk) : Lk × Bool :=
  match findK p.n l.d l.da p.k.toNat 0 with
  | none => (took l l.h, true)
  | some k => if l.d + k = l.da then (took l (orb l.h k), true) else ({ l with da := -1 }, false)
/-- The first number from j on, of f, with the answer's rest. -/
def findJ (n kn x : Int) : Nat → Nat → Option Nat
  | 0, _ => none
  | f + 1, j => if (kn + j) % n = x % n then some j else findJ n kn x f (j + 1)
def hearF (p : Pl) (l : Lk) : Lk :=
  match findJ p.n l.kn l.wo (l.s - l.kn).toNat 1 with
  | none => { l with wo := -1 }
  | some j => { l with wo := -1, kn := l.kn + j }
def sendF (p : Pl) (l : Lk) : Lk := { l with da := l.s, s := l.s + 1 }
/-- Whether the act may be done. -/
def mayF (p : Pl) (l : Lk) (act : Nat) : Bool :=
  if act = 115 then decide (l.da < 0 ∧ l.s < p.w ∧ l.s < l.kn + p.a)
  else if 48 ≤ act ∧ act ≤ 57 then decide (l.da < 0 ∧ l.kn + (act - 48 : Nat) < l.s)
  else if act = 100 ∨ act = 120 then decide (0 ≤ l.da)
  else if act = 97 ∨ act = 121 then decide (0 ≤ l.wo)
  else false
/-- What the act does where it may be done. -/
def doneF (p : Pl) (l : Lk) (act : Nat) : Lk × Bool :=
  if act = 115 then (sendF p l, true)
  else if 48 ≤ act ∧ act ≤ 57 then ({ l with da := l.kn + (act - 48 : Nat) }, true)
  else if act = 100 then takeF p l
  else if act = 120 then ({ l with da := -1 }, true)
  else if act = 97 then (hearF p l, true)
  else ({ l with wo := -1 }, true)
def stepL (p : Pl) (l : Lk) (act : Nat) : Lk := if mayF p l act then (doneF p l act).1 else l
def stepR (p : Pl) (l : Lk) (act : Nat) : Bool := if mayF p l act then (doneF p l act).2 else true

/-! ### searches -/
theorem findK_some {n d x : Int} : ∀ {f k j : Nat}, findK n d x f k = some j → k ≤ j ∧ j < k + f ∧ (d + j) % n = x % n
  | 0, k, j, h => by simp [findK] at h
  | f + 1, k, j, h => by
    unfold findK at h
    split at h
    · cases h; exact ⟨Nat.le_refl _, by omega, by assumption⟩
    · have := findK_some h; omega
theorem findJ_some {n d x : Int} : ∀ {f k j : Nat}, findJ n d x f k = some j → k ≤ j ∧ j < k + f ∧ (d + j) % n = x % n
  | 0, k, j, h => by simp [findJ] at h
  | f + 1, k, j, h => by
    unfold findJ at h
    split at h
    · cases h; exact ⟨Nat.le_refl _, by omega, by assumption⟩
    · have := findJ_some h; omega
theorem findK_hit {n d x : Int} {f k : Nat} (h : (d + k) % n = x % n) : findK n d x (f + 1) k = some k := by simp [findK, h]
theorem findK_miss {n d x : Int} {f k : Nat} (h : ¬ (d + k) % n = x % n) : findK n d x (f + 1) k = findK n d x f (k + 1) := by simp [findK, h]
theorem findJ_hit {n d x : Int} {f k : Nat} (h : (d + k) % n = x % n) : findJ n d x (f + 1) k = some k := by simp [findJ, h]
theorem findJ_miss {n d x : Int} {f k : Nat} (h : ¬ (d + k) % n = x % n) : findJ n d x (f + 1) k = findJ n d x f (k + 1) := by simp [findJ, h]

/-! ### what is held -/
theorem strip_odd {f : Nat} {h d : Int} (e : h % 2 = 1) : strip (f + 1) h d = strip f (h / 2) (d + 1) := by simp [strip, e]
theorem strip_even : ∀ {f : Nat} {h d : Int}, h % 2 = 0 → strip f h d = (h, d)
  | 0, _, _, _ => rfl
  | f + 1, h, d, e => by unfold strip; rw [if_neg (by omega)]
/-- With room for m places from d on, the due stays in it, and what is held is even and in what is left. -/
theorem strip_ok : ∀ (f m : Nat) (h d : Int), m ≤ f → 0 ≤ h → h < 2 ^ m → d ≤ (strip (f + 1) h d).2 ∧ (strip (f + 1) h d).2 ≤ d + m ∧ 0 ≤ (strip (f + 1) h d).1 ∧ (strip (f + 1) h d).1 % 2 = 0 ∧ (strip (f + 1) h d).1 < 2 ^ (m - ((strip (f + 1) h d).2 - d).toNat)
  | f, 0, h, d, _, h0, h1 => by
    have : h = 0 := by simp at h1; omega
    subst this
    rw [strip_even (by decide)]
    simp
  | 0, m + 1, h, d, hm, _, _ => by omega
  | f + 1, m + 1, h, d, hm, h0, h1 => by
    rcases (show h % 2 = 0 ∨ h % 2 = 1 from by omega) with e | e
    · rw [strip_even e]
      refine ⟨Int.le_refl _, by simp; omega, h0, e, ?_⟩
      simpa using h1
    · rw [strip_odd e]
      have h1' : h < 2 ^ m * 2 := by rw [Int.pow_succ] at h1; exact h1
      obtain ⟨a, b, c, dd, ee⟩ := strip_ok f m (h / 2) (d + 1) (by omega) (by omega) (by omega)
      refine ⟨by omega, by omega, c, dd, ?_⟩
      have : m + 1 - ((strip (f + 1) (h / 2) (d + 1)).2 - d).toNat = m - ((strip (f + 1) (h / 2) (d + 1)).2 - (d + 1)).toNat := by omega
      rw [this]; exact ee
theorem orb_ok (h : Int) (k m : Nat) (h0 : 0 ≤ h) (h1 : h < 2 ^ m) (hk : k < m) (hm : m ≤ 4) : 0 ≤ orb h k ∧ orb h k < 2 ^ m := by
  unfold orb
  rcases (show m = 1 ∨ m = 2 ∨ m = 3 ∨ m = 4 from by omega) with rfl | rfl | rfl | rfl <;>
  rcases (show k = 0 ∨ k = 1 ∨ k = 2 ∨ k = 3 from by omega) with rfl | rfl | rfl | rfl <;> simp at h1 hk ⊢ <;> split <;> omega
theorem pow_mono {a b : Nat} (h : a ≤ b) : (2 : Int) ^ a ≤ 2 ^ b := by
  obtain ⟨c, rfl⟩ := Nat.le.dest h
  rw [Int.pow_add]
  have h1 : (0 : Int) < 2 ^ a := Int.pow_pos (by decide)
  have h2 : (0 : Int) < 2 ^ c := Int.pow_pos (by decide)
  have := Int.mul_le_mul_of_nonneg_left (show (1 : Int) ≤ 2 ^ c by omega) (Int.le_of_lt h1)
  omega
theorem room_le (p : Pl) (l : Lk) (hp : vpB p = true) : room p l ≤ 4 := by
  have : p.k ≤ 4 := by simp [vpB] at hp; omega
  unfold room; omega
theorem held16 (p : Pl) (l : Lk) (hp : vpB p = true) (hi : Inv p l) : 0 ≤ l.h ∧ l.h < 16 := by
  obtain ⟨_, _, _, _, _, _, _, h0, _, h1, _⟩ := hi
  have := pow_mono (room_le p l hp)
  exact ⟨h0, by have : (2 : Int) ^ 4 = 16 := rfl; omega⟩

theorem took_inv (p : Pl) (l : Lk) (hp : vpB p = true) (hi : Inv p l) (h : Int) (h0 : 0 ≤ h) (h1 : h < 2 ^ room p l) : Inv p (took l h) := by
  have hr := room_le p l hp
  have hso := strip_ok 4 (room p l) h l.d (by omega) h0 h1
  rw [show 4 + 1 = 5 from rfl] at hso
  obtain ⟨a, b, c, d, e⟩ := hso
  obtain ⟨i1, i2, i3, i4, i5, i6, i7, i8, i9, i10, i11, i12, i13, i14⟩ := hi
  have hk : 1 ≤ p.k := by simp [vpB] at hp; omega
  have hrm : ((room p l : Nat) : Int) ≤ l.s - l.d ∧ ((room p l : Nat) : Int) ≤ p.k := by unfold room; omega
  refine ⟨i1, i2, i3, i4, i5, ?_, ?_, c, d, ?_, ?_, ?_, ?_, ?_⟩
  · show 0 ≤ (strip 5 h l.d).2; omega
  · show (strip 5 h l.d).2 ≤ l.s; omega
  · show (strip 5 h l.d).1 < _
    refine Int.lt_of_lt_of_le e (pow_mono ?_)
    show _ ≤ (min p.k (l.s - (strip 5 h l.d).2)).toNat
    omega
  · exact Int.le_refl _
  · show (-1 : Int) < l.s; omega
  · show -1 ≤ (strip 5 h l.d).2; omega
  · exact Int.le_refl _
theorem takeF_inv (p : Pl) (l : Lk) (hp : vpB p = true) (hi : Inv p l) (h : (takeF p l).2 = true) : Inv p (takeF p l).1 := by
  have hi' := hi
  obtain ⟨i1, i2, i3, i4, i5, i6, i7, i8, i9, i10, i11, i12, i13, i14⟩ := hi'
  unfold takeF at h ⊢
  cases e : findK p.n l.d l.da p.k.toNat 0 with
  | none => exact took_inv p l hp hi l.h i8 i10
  | some k =>
    rw [e] at h
    by_cases hk : l.d + k = l.da
    · simp only [if_pos hk]
      have hf := findK_some e
      have hr : k < room p l := by unfold room; omega
      obtain ⟨a, b⟩ := orb_ok l.h k (room p l) i8 i10 hr (room_le p l hp)
      exact took_inv p l hp hi _ a b
    · simp [if_neg hk] at h
theorem hearF_inv (p : Pl) (l : Lk) (hi : Inv p l) : Inv p (hearF p l) := by
  obtain ⟨i1, i2, i3, i4, i5, i6, i7, i8, i9, i10, i11, i12, i13, i14⟩ := hi
  unfold hearF
  cases e : findJ p.n l.kn l.wo (l.s - l.kn).toNat 1 with
  | none => exact ⟨i1, i2, i3, i4, i5, i6, i7, i8, i9, i10, i11, i12, Int.le_refl _, by show (-1 : Int) ≤ l.d; omega⟩
  | some j =>
    have hf := findJ_some e
    exact ⟨by show 0 ≤ l.kn + j; omega, by show l.kn + j ≤ p.w; omega, by show l.kn + j ≤ l.s; omega, i4, by show l.s ≤ l.kn + j + p.a; omega, i6, i7, i8, i9, i10, i11, i12, Int.le_refl _, by show (-1 : Int) ≤ l.d; omega⟩
theorem step_inv (p : Pl) (l : Lk) (act : Nat) (hp : vpB p = true) (hi : Inv p l) (hr : stepR p l act = true) : Inv p (stepL p l act) := by
  have hi' := hi
  have hv : 1 ≤ p.a := by simp [vpB] at hp; omega
  obtain ⟨i1, i2, i3, i4, i5, i6, i7, i8, i9, i10, i11, i12, i13, i14⟩ := hi'
  unfold stepL
  unfold stepR at hr
  cases hm : mayF p l act
  · simpa using hi
  · rw [hm] at hr
    simp only [if_true] at hr ⊢
    unfold mayF at hm
    unfold doneF at hr ⊢
    by_cases c1 : act = 115
    · subst c1
      have hm' : l.da < 0 ∧ l.s < p.w ∧ l.s < l.kn + p.a := by simpa using hm
      simp only [if_true]
      refine ⟨i1, i2, by show l.kn ≤ l.s + 1; omega, by show l.s + 1 ≤ p.w; omega, by show l.s + 1 ≤ l.kn + p.a; omega, i6, by show l.d ≤ l.s + 1; omega, i8, i9, Int.lt_of_lt_of_le i10 (pow_mono ?_), by show -1 ≤ l.s; omega, by show l.s < l.s + 1; omega, i13, i14⟩
      show (min p.k (l.s - l.d)).toNat ≤ (min p.k (l.s + 1 - l.d)).toNat
      omega
    · rw [if_neg c1] at hm hr ⊢
      by_cases c2 : 48 ≤ act ∧ act ≤ 57
      · rw [if_pos c2] at hm ⊢
        have hm' : l.da < 0 ∧ l.kn + (act - 48 : Nat) < l.s := by simpa using hm
        exact ⟨i1, i2, i3, i4, i5, i6, i7, i8, i9, i10, by show -1 ≤ l.kn + ((act - 48 : Nat) : Int); omega, hm'.2, i13, i14⟩
      · rw [if_neg c2] at hm hr ⊢
        by_cases c3 : act = 100
        · rw [if_pos c3] at hr ⊢
          exact takeF_inv p l hp hi hr
        · rw [if_neg c3] at hr ⊢
          by_cases c4 : act = 120
          · rw [if_pos c4]
            exact ⟨i1, i2, i3, i4, i5, i6, i7, i8, i9, i10, Int.le_refl _, by show (-1 : Int) < l.s; omega, i13, i14⟩
          · rw [if_neg c4] at hr ⊢
            by_cases c5 : act = 97
            · rw [if_pos c5]
              exact hearF_inv p l hi
            · rw [if_neg c5]
              exact ⟨i1, i2, i3, i4, i5, i6, i7, i8, i9, i10, i11, i12, Int.le_refl _, by show (-1 : Int) ≤ l.d; omega⟩

theorem takeF_da (p : Pl) (l : Lk) : (takeF p l).1.da = -1 := by
  unfold takeF
  split
  · rfl
  · split <;> rfl
theorem hearF_wo (p : Pl) (l : Lk) : (hearF p l).wo = -1 := by
  unfold hearF
  split <;> rfl
/-- An act that may be done, and no other one, leaves another link. -/
theorem may_ne (p : Pl) (l : Lk) (act : Nat) (hi : Inv p l) : decide (stepL p l act ≠ l) = mayF p l act := by
  obtain ⟨i1, i2, i3, i4, i5, i6, i7, i8, i9, i10, i11, i12, i13, i14⟩ := hi
  unfold stepL
  cases hm : mayF p l act
  · simp
  · simp only [if_true, decide_eq_true_eq]
    intro he
    unfold mayF at hm
    unfold doneF at he
    by_cases c1 : act = 115
    · subst c1
      simp only [if_true] at he
      have := congrArg Lk.s he
      simp [sendF] at this
      omega
    · rw [if_neg c1] at hm he
      by_cases c2 : 48 ≤ act ∧ act ≤ 57
      · rw [if_pos c2] at hm he
        have hm' : l.da < 0 ∧ l.kn + (act - 48 : Nat) < l.s := by simpa using hm
        have := congrArg Lk.da he
        simp at this
        omega
      · rw [if_neg c2] at hm he
        by_cases c3 : act = 100
        · rw [if_pos c3] at he
          rw [if_pos (.inl c3)] at hm
          have hm' : 0 ≤ l.da := by simpa using hm
          have := congrArg Lk.da he
          rw [takeF_da] at this
          omega
        · rw [if_neg c3] at he
          by_cases c4 : act = 120
          · rw [if_pos c4] at he
            rw [if_pos (.inr c4)] at hm
            have hm' : 0 ≤ l.da := by simpa using hm
            have := congrArg Lk.da he
            simp at this
            omega
          · rw [if_neg c4] at he
            rw [if_neg (by omega)] at hm
            by_cases c5 : act = 97
            · rw [if_pos c5] at he
              rw [if_pos (.inl c5)] at hm
              have hm' : 0 ≤ l.wo := by simpa using hm
              have := congrArg Lk.wo he
              simp only [hearF_wo] at this
              omega
            · rw [if_neg c5] at he
              by_cases c6 : act = 121
              · rw [if_pos (.inr c6)] at hm
                have hm' : 0 ≤ l.wo := by simpa using hm
                have := congrArg Lk.wo he
                simp at this
                omega
              · rw [if_neg (by omega)] at hm
                simp at hm

/-! ### runs -/
def newL : Lk := ⟨0, 0, 0, 0, -1, -1⟩
theorem newL_inv (p : Pl) (hp : vpB p = true) : Inv p newL := by
  have : 1 ≤ p.w ∧ 1 ≤ p.a ∧ 1 ≤ p.k := by simp [vpB] at hp; omega
  refine ⟨by decide, by show (0 : Int) ≤ p.w; omega, by decide, by show (0 : Int) ≤ p.w; omega, by show (0 : Int) ≤ 0 + p.a; omega, by decide, by decide, by decide, by decide, ?_, by decide, by decide, by decide, by decide⟩
  exact Int.pow_pos (by decide)
/-- The link behind acts, how many were done, and whether none took a wrong word. -/
def runF (p : Pl) : List UInt8 → Lk → Nat → Lk × Nat × Bool
  | [], l, n => (l, n, true)
  | c :: r, l, n => if stepR p l c.toNat then runF p r (stepL p l c.toNat) (if mayF p l c.toNat then n + 1 else n) else (stepL p l c.toNat, n + 1, false)
theorem may_of_wrong {p : Pl} {l : Lk} {act : Nat} (h : stepR p l act = false) : mayF p l act = true := by
  unfold stepR at h
  cases hm : mayF p l act
  · rw [hm] at h; simp at h
  · rfl
theorem runF_snoc_ok (p : Pl) (c : UInt8) : ∀ (s : List UInt8) (l : Lk) (n : Nat) (l' : Lk) (n' : Nat), runF p s l n = (l', n', true) → runF p (s ++ [c]) l n = runF p [c] l' n'
  | [], l, n, l', n', h => by simp [runF] at h ⊢; obtain ⟨rfl, rfl⟩ := h; rfl
  | b :: s, l, n, l', n', h => by
    simp only [List.cons_append]
    unfold runF at h ⊢
    cases hr : stepR p l b.toNat
    · rw [hr] at h; simp at h
    · rw [hr] at h
      simp only [if_true] at h ⊢
      exact runF_snoc_ok p c s _ _ _ _ h
theorem runF_bad (p : Pl) (r : List UInt8) : ∀ (s : List UInt8) (l : Lk) (n : Nat) (l' : Lk) (n' : Nat), runF p s l n = (l', n', false) → runF p (s ++ r) l n = (l', n', false)
  | [], l, n, l', n', h => by simp [runF] at h
  | b :: s, l, n, l', n', h => by
    simp only [List.cons_append]
    unfold runF at h ⊢
    cases hr : stepR p l b.toNat
    · rw [hr] at h; simpa using h
    · rw [hr] at h
      simp only [if_true] at h ⊢
      exact runF_bad p r s _ _ _ _ h
end Go.Proofs.Ytnbgfffcialfkaa
