/-
  Goroutine 0: alone, then in company from a go statement to the receive from the closed channel, then alone again: one family of goals, the calls of functions that fork. No condition.
  The survey: goroutine 0 from its call to its return. Conditions: a set of links closed under the acts, all of them small.
-/
import Derived.Test.YtnbgfffcialfkaaLn15
import Derived.Test.YtnbgfffcialfkaaLn19
import Derived.Test.YtnbgfffcialfkaaLn17
set_option linter.unusedSimpArgs false
set_option linter.unusedVariables false
namespace Go.Proofs.Ytnbgfffcialfkaa
open Go Go.Conc
set_option linter.unusedVariables false

/-- Where goroutine 0 stands: ahead of the go statement; with the links that are still to come; behind the close. -/
inductive Ph
  | front
  | open_ (Low c : Nat) (vs : List Value)
  | back
def PhR : Ph → RelyI
  | .open_ Low c _ => RelO Low (some c)
  | _ => RelF
def PhD : Ph → GuarI
  | .open_ Low c _ => DelO Low (some c)
  | _ => DelF
def PhF (P : Program) (z : Value) (Post : Value → World → Prop) : Ph → OwnP → Goroutine → World → Prop
  | .front => fun O a w => AtGoI P Post O a w ∨ AtEndI P Post O a w
  | .open_ Low c vs => StopAI P Low c z (FinI P Post) vs
  | .back => AtEndI P Post
theorem termsPh : ∀ s, TermsI (PhR s) (PhD s)
  | .front => termsF
  | .open_ Low c _ => termsO Low (some c)
  | .back => termsF
/-! ### calls -/
section
variable {γ : Type} (P : Program) (main : Bool) (R : γ → RelyI) (D : γ → GuarI) (F : γ → OwnP → Goroutine → World → Prop)
def BodyX (fn : Func) (Post : γ → Value → OwnP → World → Prop) : γ → PostI := fun s => BodyI P fn (R s) (D s) (Post s)
/-- A contract of a function that may stop on its way. -/
def CallsX (f : FuncId) (args : Array Value) (s : γ) (O : OwnP) (w : World) (Post : γ → Value → OwnP → World → Prop) : Prop :=
  EntI P f ∧ ∀ (c : Frame) (cs : List Frame), (∀ s' v O' w', Post s' v O' w' → GoesI P main (R s') (D s') (F s') O' (G (c.finish v) cs) w') → GoesI P main (R s) (D s) (F s) O (G (Frame.enter P f args .normal) (c :: cs)) w
end
section
variable {γ : Type} {P : Program} {main : Bool} {R : γ → RelyI} {D : γ → GuarI} {F : γ → OwnP → Goroutine → World → Prop} {fn : FuncId} {Q : γ → PostI} {s : γ} {O : OwnP} {a : Act} {w : World}
theorem CallsX.mono {f : FuncId} {args : Array Value} {Post Post' : γ → Value → OwnP → World → Prop} (h : CallsX P main R D F f args s O w Post) (hp : ∀ s v O w, Post s v O w → Post' s v O w) : CallsX P main R D F f args s O w Post' :=
  ⟨h.1, fun c cs hk => h.2 c cs fun s' v O' w' p => hk s' v O' w' (hp s' v O' w' p)⟩
theorem callsX_of (T : ∀ s, TermsI (R s) (D s)) {f : FuncId} {fnc : Func} {x : Code} {args : Array Value} {Post : γ → Value → OwnP → World → Prop}
    (hf : P.funcs[f]? = some fnc) (hname : (fnc.name == "runtime.NumGoroutine") = false) (hb : fnc.body = some x)
    (h : CodeX P main R D F f x (BodyX P R D fnc Post) s O { tmps := args ++ Array.replicate (fnc.ntmps - args.size) undef, defers := [] } w) : CallsX P main R D F f args s O w Post := by
  refine ⟨⟨fnc, x, hf, hname, hb⟩, fun c cs hk => ?_⟩
  rw [enter_at _ hf hb]
  have hleave : ∀ (s' : γ) (O' : OwnP) (a' : Act) (w' : World) (todo : List Item), (a'.defers = [] ∧ ∃ v, ResI P fnc (R s') (D s') O' a'.tmps v w' ∧ Post s' v O' w') →
      GoesI P main (R s') (D s') (F s') O' (G { (base f).at a' todo with mode := .returning } (c :: cs)) w' := by
    rintro s' O' a' w' todo ⟨hd, v, hr, hp⟩
    refine GoesI.mk rfl fun w₁ h₁ => ?_
    rw [leaveI (b := base f) rfl hd hf (hr w₁ h₁).1]
    exact ⟨_, _, _, O', rfl, (hr w₁ h₁).2 _, (hk s' v O' w' hp).rely (T s') h₁⟩
  refine h (base f) [] (c :: cs) rfl (by simp [base]) fun s' e O' a' w' q => ?_
  cases e with
  | normal => exact .quiet (T s') rfl (fun _ => stepG_end) (hleave s' O' a' w' [] q)
  | ret => exact fun todo => (hleave s' O' a' w' todo q)
  | exit id => exact q.elim
  | goto l => exact q.elim
  | panic ch => exact q.elim
  | outgrown => exact q.elim
theorem opsX_call (T : ∀ s, TermsI (R s) (D s)) {ops : Array Oper} {i : Nat} {rest : List Nat} {o : Oper} {f : FuncId} {args : Array Operand} {ats : Array TypeId} {Post : γ → Value → OwnP → World → Prop}
    (ho : ops[i]? = some o) (hw : Region.wanted o (yielded ops a.tmps) = true) (hop : o.op = .call { callee := .value (.func f), args := args, argTypes := ats })
    (hcall : CallsX P main R D F f (args.map a.eval) s O w Post) (hnext : ∀ s' v O' w', Post s' v O' w' → OpsX P main R D F fn ops rest Q s' O' (a.put o.dst v) w') : OpsX P main R D F fn ops (i :: rest) Q s O a w := by
  intro b k cs hb hk hc
  refine goesI_enter (T s) ho hw hk hop hcall.1 (hcall.2 _ cs fun s' v O' w' p => ?_)
  rw [Frame.finish_at, ho]
  exact hnext s' v O' w' p b k cs hb hk hc
/-- A contract of a function that does not stop. -/
theorem callsX_of_callsI {f : FuncId} {args : Array Value} {Post : Value → OwnP → World → Prop} (h : CallsI P main (R s) (D s) f args O w Post) : CallsX P main R D F f args s O w fun s' v O' w' => s' = s ∧ Post v O' w' :=
  ⟨h.1, fun c cs hk => h.2 c cs (F s) fun v O' w' p => hk s v O' w' ⟨rfl, p⟩⟩
end
/-! ### the go statement, the receives -/
section
variable {P : Program} {z : Value} {Post : Value → World → Prop} {fn : FuncId} {Q : Ph → PostI} {O : OwnP} {a : Act} {w : World}
theorem opsX_go {ops : Array Oper} {i : Nat} {rest : List Nat} {o : Oper} {f : FuncId} {args : Array Value} (ho : ops[i]? = some o) (hw : Region.wanted o (yielded ops a.tmps) = true)
    (hr : ∀ w₁, (execOp a.eval o).run P w₁ = .ok (.spawn { target := .fn (.func f) #[], args := args }) w₁ ∧ (execOp a.eval o).events P w₁ #[] = #[])
    (h : ∀ w₁, RelF O w w₁ → ∃ (Low c : Nat) (A B : OwnP) (vs : List Value) (s r : Nat) (tm : Bool), Tw Low c A B w₁ ∧ w₁.heap[c]? = some (.chan 0 #[] false s r tm) ∧
      SendsI P Low c vs B (born P { target := .fn (.func f) #[], args := args }) w₁ ∧ OpsX P true PhR PhD (PhF P z Post) fn ops rest Q (.open_ Low c vs) A (a.put o.dst undef) w₁) :
    OpsX P true PhR PhD (PhF P z Post) fn ops (i :: rest) Q .front O a w := by
  intro b k cs hb hk hc
  refine .stop fun w₁ h₁ => .inl ?_
  obtain ⟨Low, c, A, B, vs, s, r, tm, hT, hch, hS, hX⟩ := h w₁ h₁
  refine ⟨rfl, _, _, _, _, Low, c, A, B, z, vs, s, r, tm, stepG_spawn ho hw hk (hr w₁).1 rfl, fun e he => ?_, hT, hch, ?_, hS⟩
  · have := mem_listed he
    rw [(hr w₁).2] at this
    simp at this
  · exact (recvsI_iff P Low c z (FinI P Post) vs A _ _).2 (hX b k cs hb hk hc)
/-- Behind the close it is no matter what is one's own. -/
theorem goesF_own {O' : OwnP} {g : Goroutine} (h : GoesI P true RelF DelF (AtEndI P Post) O g w) : GoesI P true RelF DelF (AtEndI P Post) O' g w := by
  induction h with
  | stop h => exact .stop fun w₁ h₁ => h w₁ h₁
  | step hs g' w' es _ h1 h2 _ ih => exact .step hs g' w' es (fun _ _ => O') h1 h2 ih
theorem opsX_rx {Low c : Nat} {vs : List Value} {ops : Array Oper} {i : Nat} {rest : List Nat} {o : Oper} (ho : ops[i]? = some o) (hw : Region.wanted o (yielded ops a.tmps) = true)
    (hr : ∀ w₁, (execOp a.eval o).run P w₁ = .ok (.comm #[rcase c z] true (.recv true)) w₁ ∧ (execOp a.eval o).events P w₁ #[] = #[])
    (h : ∀ w₂, RelO Low (some c) O w w₂ → match vs with
      | v :: vs => OpsX P true PhR PhD (PhF P z Post) fn ops rest Q (.open_ Low c vs) O (a.put o.dst (recvd true v true)) w₂
      | [] => ∃ X, OpsX P true PhR PhD (PhF P z Post) fn ops rest Q .back X (a.put o.dst (recvd true z false)) w₂) :
    OpsX P true PhR PhD (PhF P z Post) fn ops (i :: rest) Q (.open_ Low c vs) O a w := by
  intro b k cs hb hk hc
  refine .stop fun w₁ h₁ => ?_
  cases vs with
  | nil =>
    refine ⟨rfl, _, stepG_comm ho hw hk (hr w₁).1, fun e he => ?_, fun w₂ h₂ => ?_⟩
    · have := mem_listed he
      rw [(hr w₁).2] at this
      simp at this
    · rw [core_G]
      dsimp only
      rw [served_G, ho]
      obtain ⟨X, hX⟩ := h w₂ ((termsO Low (some c)).trans h₁ h₂)
      exact goesF_own (hX b k cs hb hk hc)
  | cons v vs =>
    refine ⟨rfl, _, stepG_comm ho hw hk (hr w₁).1, fun e he => ?_, fun w₂ h₂ => ?_⟩
    · have := mem_listed he
      rw [(hr w₁).2] at this
      simp at this
    · rw [core_G]
      dsimp only
      rw [served_G, ho]
      exact (recvsI_iff P Low c z (FinI P Post) vs O _ _).2 (h w₂ ((termsO Low (some c)).trans h₁ h₂) b k cs hb hk hc)
end
end Go.Proofs.Ytnbgfffcialfkaa

namespace Go.Proofs.Ytnbgfffcialfkaa
open Go Go.Conc Go.RowKit
set_option linter.unusedVariables false

/-- Whether what arrives is taken rightly. -/
def takR (p : Pl) (l : Lk) : Bool := if l.da = -1 then true else (takeF p l).2
/-- Boxes that are read alone, from before. -/
theorem rd_loadPLow {Low : Nat} {c : Option Nat} {O0 : OwnP} {w0 : World} {L : List (Nat × Obj)} {a : Act} {o : Oper} {x : Operand} {g : Nat} {v0 v1 v2 v3 : Value} (hop : o.op = .load 25 x) (hx : a.eval x = .pointer (some ⟨g, 0, none⟩)) (hg : g < Low) (hlt : g < w0.heap.size) (hne : some g ≠ c) (h0 : w0.heap[g]? = some (.cells #[v0, v1, v2, v3] 25)) : Rd Low c O0 w0 L a o (.agg #[v0, v1, v2, v3]) := fun O w hst => by
  have h3 := (hst.keep.kept g hlt hne (.inr hg)).trans h0
  have := op_value (run_loadP h3)
  unfold execOp
  rw [hop]
  simp only [hx]
  refine ⟨this.1, fun e he => ?_⟩
  rw [this.2] at he
  simp at he
  rcases he with rfl | rfl | rfl | rfl <;> exact ⟨fun _ h => (by cases h), .inr ⟨g, rfl, .inl ⟨rfl, hg⟩⟩⟩
section
variable {z : Value} {Post : Value → World → Prop} {Low : Nat} {c : Option Nat} {s : Ph} {fn : FuncId} {Q : Ph → PostI} {O0 O : OwnP} {a : Act} {w0 w : World} {ops : Array Oper} {i : Nat} {rest : List Nat} {o : Oper} {L : List (Nat × Obj)} {v : Value}
theorem p_rd (M : MemI (PhR s) (PhD s) Low c) (hst : StO Low c O0 w0 L O w) (ho : ops[i]? = some o) (hw : Region.wanted o (yielded ops a.tmps) = true) (hr : Rd Low c O0 w0 L a o v)
    (h : OpsX Try.prog true PhR PhD (PhF Try.prog z Post) fn ops rest Q s O (a.put o.dst v) w) : OpsX Try.prog true PhR PhD (PhF Try.prog z Post) fn ops (i :: rest) Q s O a w :=
  opsX_read termsPh ho hw (fun w₁ r => (hr O w₁ (hst.rely (M.rely r))).1) (fun w₁ r => M.guar (del_same fun e he => (hr O w₁ (hst.rely (M.rely r))).2 e (mem_listed he))) h
end
theorem run_go {a : Act} {o : Oper} {f : FuncId} {bs : Array Operand} {ats : Array TypeId} (hop : o.op = .go { callee := .value (.func f), args := bs, argTypes := ats }) (w : World) :
    (execOp a.eval o).run Try.prog w = .ok (.spawn { target := .fn (.func f) #[], args := bs.map a.eval }) w ∧ (execOp a.eval o).events Try.prog w #[] = #[] := by
  have ef : a.eval (.func f) = .func (.func f) #[] #[] := rfl
  unfold execOp
  constructor <;> simp [hop, resolve, Deferred.ofValue, ef]
def phN : Ph → Nat
  | .open_ _ _ vs => vs.length
  | _ => 0
set_option maxRecDepth 100000 in
set_option maxHeartbeats 12800000 in
theorem survey_x (Post : Value → World → Prop) (n a m : Int) (K : Nat) (Z : Lk → Prop) (hZ : OkayL ⟨n, a, K, m⟩ Z) (hn : 2 ≤ n ∧ n ≤ 4) (ha : 0 ≤ a ∧ a ≤ 4) (hK : K ≤ 4) (l0 : List Lk) (hs : Fnd ⟨n, a, K, m⟩ [newL] 0 l0) (h0 : Z newL) (hz : ∀ l ∈ l0, Z l) (hl0 : l0.length ≤ 900000) (O0 : OwnP) (w0 : World) (hb : BaseO 0 none O0 w0) :
    CallsX Try.prog true PhR PhD (PhF Try.prog (.agg noughts) Post) 27 #[.agg #[.int .i64 n, .int .i64 a, .int .i64 (K : Int), .int .i64 m]] .front O0 w0
      fun s' v O' w' => s' = .back ∧ v = .tuple #[.int .i64 l0.length, .bool (l0.all (takR ⟨n, a, K, m⟩))] ∧ KeepO 0 none O0 w0 O' w' := by
  have M : MemI (PhR .front) (PhD .front) 0 none := memF 0
  have T := termsPh
  have hst := hb.st
  refine callsX_of T Try.func27 (by rfl) rfl ?_
  simp only [Try.ntmps27, List.size_toArray, List.length_cons, List.length_nil, Nat.reduceAdd, Nat.reduceSub, Array.replicate_succ, Array.replicate_zero, List.push_toArray, List.append_toArray, List.nil_append, List.cons_append]
  refine codeX_seq T (itemX_of ?_)
  simp only [ThenX]
  repeat (first | (refine i_rd M hst rfl (by rfl) (by first | exact rd_move rfl rfl | exact rd_assign rfl rfl | exact rd_loadP rfl rfl (by first | exact .head _ | exact .tail _ (.head _) | exact .tail _ (.tail _ (.head _)) | exact .tail _ (.tail _ (.tail _ (.head _)))) | exact rd_loadL rfl rfl (by first | exact .head _ | exact .tail _ (.head _) | exact .tail _ (.tail _ (.head _)) | exact .tail _ (.tail _ (.tail _ (.head _)))) | exact rd_extract rfl rfl rfl | exact rd_add rfl rfl rfl (by omega) | exact rd_pickT rfl rfl rfl | exact rd_pickF rfl rfl rfl) ?_; walk_nrm) | (refine i_new M hst rfl (by rfl) (mk_boxP rfl rfl) ?_; intro gp O w hst; walk_nrm) | (refine i_new M hst rfl (by rfl) (mk_allocL rfl) ?_; intro gr O w hst; walk_nrm) | (refine i_stL (n := 0) M hst rfl (by rfl) rfl rfl rfl (by rfl) ?_; intro w hst; simp only [List.setIfInBounds_toArray, List.set_cons_succ, List.set_cons_zero] at hst; walk_nrm) | (refine i_stL (n := 1) M hst rfl (by rfl) rfl rfl rfl (by rfl) ?_; intro w hst; simp only [List.setIfInBounds_toArray, List.set_cons_succ, List.set_cons_zero] at hst; walk_nrm) | (refine i_stL (n := 2) M hst rfl (by rfl) rfl rfl rfl (by rfl) ?_; intro w hst; simp only [List.setIfInBounds_toArray, List.set_cons_succ, List.set_cons_zero] at hst; walk_nrm) | (refine i_stL (n := 3) M hst rfl (by rfl) rfl rfl rfl (by rfl) ?_; intro w hst; simp only [List.setIfInBounds_toArray, List.set_cons_succ, List.set_cons_zero] at hst; walk_nrm) | (refine opsI_unwanted M.T rfl (by rfl) ?_; walk_nrm) | (refine codeI_region M.T ?_; simp only [List.size_toArray, List.length_cons, List.length_nil, Nat.reduceAdd, Nat.zero_add, List.range, List.range.loop]) | (refine opsI_nil M.T ?_; try simp only [ThenI, BlockI, if_true]) | (refine codeI_cond M.T (v := true) rfl ?_; simp only [if_true]) | (refine codeI_cond M.T (v := false) rfl ?_; simp only [Bool.false_eq_true, if_false]) | (refine codeI_block M.T ?_) | (refine codeI_skip M.T ?_; try simp only [ThenI, BlockI, if_true]) | (refine codeI_label M.T ?_; try simp only [ThenI, BlockI, if_true]) | (refine codeI_exit M.T ?_; try simp only [ThenI, BlockI, if_true]) | (refine codeI_ret M.T ?_; try simp only [ThenI, BlockI]))
  refine codeX_seq T (itemX_of ?_)
  simp only [ThenX]
  refine codeI_region M.T ?_
  simp only [List.size_toArray, List.length_cons, List.length_nil, Nat.reduceAdd, Nat.zero_add, List.range, List.range.loop]
  refine i_newV (val := fun g => .chan (some g)) (ob := .chan 0 #[] false 0 0 false) M hst rfl (by rfl) (fun w => ?_) ?_
  · unfold execOp
    exact op_value ⟨by kernel_rfl, by kernel_rfl⟩
  intro gc Of w hst
  walk_nrm
  repeat (first | (refine i_rd M hst rfl (by rfl) (by first | exact rd_move rfl rfl | exact rd_assign rfl rfl | exact rd_loadP rfl rfl (by first | exact .head _ | exact .tail _ (.head _) | exact .tail _ (.tail _ (.head _)) | exact .tail _ (.tail _ (.tail _ (.head _)))) | exact rd_loadL rfl rfl (by first | exact .head _ | exact .tail _ (.head _) | exact .tail _ (.tail _ (.head _)) | exact .tail _ (.tail _ (.tail _ (.head _)))) | exact rd_extract rfl rfl rfl | exact rd_add rfl rfl rfl (by omega) | exact rd_pickT rfl rfl rfl | exact rd_pickF rfl rfl rfl) ?_; walk_nrm) | (refine i_new M hst rfl (by rfl) (mk_boxP rfl rfl) ?_; intro gp O w hst; walk_nrm) | (refine i_new M hst rfl (by rfl) (mk_allocL rfl) ?_; intro gr O w hst; walk_nrm) | (refine i_stL (n := 0) M hst rfl (by rfl) rfl rfl rfl (by rfl) ?_; intro w hst; simp only [List.setIfInBounds_toArray, List.set_cons_succ, List.set_cons_zero] at hst; walk_nrm) | (refine i_stL (n := 1) M hst rfl (by rfl) rfl rfl rfl (by rfl) ?_; intro w hst; simp only [List.setIfInBounds_toArray, List.set_cons_succ, List.set_cons_zero] at hst; walk_nrm) | (refine i_stL (n := 2) M hst rfl (by rfl) rfl rfl rfl (by rfl) ?_; intro w hst; simp only [List.setIfInBounds_toArray, List.set_cons_succ, List.set_cons_zero] at hst; walk_nrm) | (refine i_stL (n := 3) M hst rfl (by rfl) rfl rfl rfl (by rfl) ?_; intro w hst; simp only [List.setIfInBounds_toArray, List.set_cons_succ, List.set_cons_zero] at hst; walk_nrm) | (refine opsI_unwanted M.T rfl (by rfl) ?_; walk_nrm) | (refine codeI_region M.T ?_; simp only [List.size_toArray, List.length_cons, List.length_nil, Nat.reduceAdd, Nat.zero_add, List.range, List.range.loop]) | (refine opsI_nil M.T ?_; try simp only [ThenI, BlockI, if_true]) | (refine codeI_cond M.T (v := true) rfl ?_; simp only [if_true]) | (refine codeI_cond M.T (v := false) rfl ?_; simp only [Bool.false_eq_true, if_false]) | (refine codeI_block M.T ?_) | (refine codeI_skip M.T ?_; try simp only [ThenI, BlockI, if_true]) | (refine codeI_label M.T ?_; try simp only [ThenI, BlockI, if_true]) | (refine codeI_exit M.T ?_; try simp only [ThenI, BlockI, if_true]) | (refine codeI_ret M.T ?_; try simp only [ThenI, BlockI]))
  refine codeX_seq T ?_
  refine codeX_region T ?_
  simp only [List.size_toArray, List.length_cons, List.length_nil, Nat.reduceAdd, Nat.zero_add, List.range, List.range.loop]
  (refine p_rd M hst rfl (by rfl) (rd_loadP rfl rfl (.tail _ (.head _))) ?_; walk_nrm)
  (refine p_rd M hst rfl (by rfl) (rd_move rfl rfl) ?_; walk_nrm)
  refine opsX_go (f := 42) (args := #[.agg #[.int .i64 n, .int .i64 a, .int .i64 (K : Int), .int .i64 m], .chan (some gc)]) rfl (by rfl) (fun w₁ => ?_) fun w₁ r => ?_
  · refine ⟨Eq.trans (run_go (f := 42) (bs := #[.tmp 11, .tmp 12]) (ats := #[25, 72]) ?h1 w₁).1 ?h2, (run_go (f := 42) (bs := #[.tmp 11, .tmp 12]) (ats := #[25, 72]) ?h3 w₁).2⟩ <;> first | rfl | (simp [Act.eval]; done)
  have hstF := hst.rely (M.rely r)
  clear hst
  obtain ⟨c1, c2, c3⟩ := hstF.mine _ (.head _)
  obtain ⟨p1, p2, p3⟩ := hstF.mine _ (.tail _ (.head _))
  simp only at c1 c2 c3 p1 p2 p3
  have c4 := hstF.keep.lt _ c1
  have p4 := hstF.keep.lt _ p1
  have hb2 : BaseO w₁.heap.size (some gc) (fun _ => False) w₁ := ⟨fun x hx => by cases hx; exact c4, Nat.le_refl _, fun k h => h.elim⟩
  refine ⟨w₁.heap.size, gc, fun _ => False, fun _ => False, l0.map lv, 0, 0, false, ⟨fun k h => by simp at h, fun k h => by simp at h, fun k h => h.elim, Nat.le_refl _, c4⟩, c3, sending w₁.heap.size gc n a m K Z hZ hn ha hK c4 l0 hs h0 _ w₁ hb2, ?_⟩
  have hpc : gp ≠ gc := by
    have := hstF.nodup
    simp at this
    exact fun e => this e.symm
  have hpc2 : some gp ≠ some gc := fun e => hpc (Option.some.inj e)
  have hst := hb2.st
  clear M
  have M : MemI (PhR (.open_ w₁.heap.size gc (l0.map lv))) (PhD (.open_ w₁.heap.size gc (l0.map lv))) w₁.heap.size (some gc) := memO _ _
  walk_nrm
  refine opsX_nil T ?_
  simp only [ThenX, ThenI]
  refine codeX_seq T (itemX_of ?_)
  simp only [ThenX]
  repeat (first | (refine i_rd M hst rfl (by rfl) (by first | exact rd_move rfl rfl | exact rd_assign rfl rfl | exact rd_loadP rfl rfl (by first | exact .head _ | exact .tail _ (.head _) | exact .tail _ (.tail _ (.head _)) | exact .tail _ (.tail _ (.tail _ (.head _)))) | exact rd_loadL rfl rfl (by first | exact .head _ | exact .tail _ (.head _) | exact .tail _ (.tail _ (.head _)) | exact .tail _ (.tail _ (.tail _ (.head _)))) | exact rd_extract rfl rfl rfl | exact rd_add rfl rfl rfl (by omega) | exact rd_pickT rfl rfl rfl | exact rd_pickF rfl rfl rfl) ?_; walk_nrm) | (refine i_new M hst rfl (by rfl) (mk_boxP rfl rfl) ?_; intro gp O w hst; walk_nrm) | (refine i_new M hst rfl (by rfl) (mk_allocL rfl) ?_; intro gr O w hst; walk_nrm) | (refine i_stL (n := 0) M hst rfl (by rfl) rfl rfl rfl (by rfl) ?_; intro w hst; simp only [List.setIfInBounds_toArray, List.set_cons_succ, List.set_cons_zero] at hst; walk_nrm) | (refine i_stL (n := 1) M hst rfl (by rfl) rfl rfl rfl (by rfl) ?_; intro w hst; simp only [List.setIfInBounds_toArray, List.set_cons_succ, List.set_cons_zero] at hst; walk_nrm) | (refine i_stL (n := 2) M hst rfl (by rfl) rfl rfl rfl (by rfl) ?_; intro w hst; simp only [List.setIfInBounds_toArray, List.set_cons_succ, List.set_cons_zero] at hst; walk_nrm) | (refine i_stL (n := 3) M hst rfl (by rfl) rfl rfl rfl (by rfl) ?_; intro w hst; simp only [List.setIfInBounds_toArray, List.set_cons_succ, List.set_cons_zero] at hst; walk_nrm) | (refine opsI_unwanted M.T rfl (by rfl) ?_; walk_nrm) | (refine codeI_region M.T ?_; simp only [List.size_toArray, List.length_cons, List.length_nil, Nat.reduceAdd, Nat.zero_add, List.range, List.range.loop]) | (refine opsI_nil M.T ?_; try simp only [ThenI, BlockI, if_true]) | (refine codeI_cond M.T (v := true) rfl ?_; simp only [if_true]) | (refine codeI_cond M.T (v := false) rfl ?_; simp only [Bool.false_eq_true, if_false]) | (refine codeI_block M.T ?_) | (refine codeI_skip M.T ?_; try simp only [ThenI, BlockI, if_true]) | (refine codeI_label M.T ?_; try simp only [ThenI, BlockI, if_true]) | (refine codeI_exit M.T ?_; try simp only [ThenI, BlockI, if_true]) | (refine codeI_ret M.T ?_; try simp only [ThenI, BlockI]))
  refine codeX_seq T ?_
  refine codeX_seq T (itemX_of ?_)
  simp only [ThenX]
  repeat (first | (refine i_rd M hst rfl (by rfl) (by first | exact rd_move rfl rfl | exact rd_assign rfl rfl | exact rd_loadP rfl rfl (by first | exact .head _ | exact .tail _ (.head _) | exact .tail _ (.tail _ (.head _)) | exact .tail _ (.tail _ (.tail _ (.head _)))) | exact rd_loadL rfl rfl (by first | exact .head _ | exact .tail _ (.head _) | exact .tail _ (.tail _ (.head _)) | exact .tail _ (.tail _ (.tail _ (.head _)))) | exact rd_extract rfl rfl rfl | exact rd_add rfl rfl rfl (by omega) | exact rd_pickT rfl rfl rfl | exact rd_pickF rfl rfl rfl) ?_; walk_nrm) | (refine i_new M hst rfl (by rfl) (mk_boxP rfl rfl) ?_; intro gp O w hst; walk_nrm) | (refine i_new M hst rfl (by rfl) (mk_allocL rfl) ?_; intro gr O w hst; walk_nrm) | (refine i_stL (n := 0) M hst rfl (by rfl) rfl rfl rfl (by rfl) ?_; intro w hst; simp only [List.setIfInBounds_toArray, List.set_cons_succ, List.set_cons_zero] at hst; walk_nrm) | (refine i_stL (n := 1) M hst rfl (by rfl) rfl rfl rfl (by rfl) ?_; intro w hst; simp only [List.setIfInBounds_toArray, List.set_cons_succ, List.set_cons_zero] at hst; walk_nrm) | (refine i_stL (n := 2) M hst rfl (by rfl) rfl rfl rfl (by rfl) ?_; intro w hst; simp only [List.setIfInBounds_toArray, List.set_cons_succ, List.set_cons_zero] at hst; walk_nrm) | (refine i_stL (n := 3) M hst rfl (by rfl) rfl rfl rfl (by rfl) ?_; intro w hst; simp only [List.setIfInBounds_toArray, List.set_cons_succ, List.set_cons_zero] at hst; walk_nrm) | (refine opsI_unwanted M.T rfl (by rfl) ?_; walk_nrm) | (refine codeI_region M.T ?_; simp only [List.size_toArray, List.length_cons, List.length_nil, Nat.reduceAdd, Nat.zero_add, List.range, List.range.loop]) | (refine opsI_nil M.T ?_; try simp only [ThenI, BlockI, if_true]) | (refine codeI_cond M.T (v := true) rfl ?_; simp only [if_true]) | (refine codeI_cond M.T (v := false) rfl ?_; simp only [Bool.false_eq_true, if_false]) | (refine codeI_block M.T ?_) | (refine codeI_skip M.T ?_; try simp only [ThenI, BlockI, if_true]) | (refine codeI_label M.T ?_; try simp only [ThenI, BlockI, if_true]) | (refine codeI_exit M.T ?_; try simp only [ThenI, BlockI, if_true]) | (refine codeI_ret M.T ?_; try simp only [ThenI, BlockI]))
  clear M
  refine codeX_block T ?_
  refine codeX_loop T (fun s O b w => ∃ (ds ws : List Lk) (cnt : Int) (sf : Bool) (u7 u8 u9 u10 u11 u12 u14 u15 u16 u17 u18 u19 u20 u21 u22 u23 u24 u25 u26 u27 u28 u29 u30 : Value), l0 = ds ++ ws ∧ cnt = ds.length ∧ sf = ds.all (takR ⟨n, a, K, m⟩) ∧ s = .open_ w₁.heap.size gc (ws.map lv) ∧
    b = { tmps := #[.agg #[.int .i64 n, .int .i64 a, .int .i64 (K : Int), .int .i64 m], .pointer (some ⟨gp, 0, none⟩), .int .i64 0, .bool false, .chan (some gc), .int .i64 cnt, .bool sf, u7, u8, u9, u10, u11, u12, .chan (some gc), u14, u15, u16, u17, u18, u19, u20, u21, u22, u23, u24, u25, u26, u27, u28, u29, u30], defers := [] } ∧ StO w₁.heap.size (some gc) (fun _ => False) w₁ [] O w) phN ?_ ?_
  · exact ⟨[], l0, 0, true, _, _, _, _, _, _, _, _, _, _, _, _, _, _, _, _, _, _, _, _, _, _, _, rfl, rfl, rfl, rfl, rfl, hst⟩
  · clear hst
    rintro s O b w ⟨ds, ws, cnt, sf, u7, u8, u9, u10, u11, u12, u14, u15, u16, u17, u18, u19, u20, u21, u22, u23, u24, u25, u26, u27, u28, u29, u30, hl, hcnt, hsf, rfl, rfl, hst⟩
    refine codeX_seq T ?_
    refine codeX_region T ?_
    simp only [List.size_toArray, List.length_cons, List.length_nil, Nat.reduceAdd, Nat.zero_add, List.range, List.range.loop]
    refine opsX_rx rfl (by rfl) (fun w₁ => ?_) fun w₂ r => ?_
    · unfold execOp
      exact ⟨by kernel_rfl, by kernel_rfl⟩
    have hst := hst.rely r
    cases ws with
    | nil =>
      have hkb : KeepO 0 none O0 w0 (fun k => Of k ∨ (w₁.heap.size ≤ k ∧ k < w₂.heap.size)) w₂ := by
        have k1 := hstF.keep
        have k2 := hst.keep
        refine ⟨k2.tape.trans k1.tape, k2.os.trans k1.os, k2.output.trans k1.output, Nat.le_trans k1.size k2.size, fun k h => .inl (k1.sub k h), fun k e1 e2 e3 => ?_, fun k h => ?_, fun k h => ?_⟩
        · have h1 := k1.size
          exact (k2.kept k (by omega) (fun e => by cases e; omega) (.inr (by omega))).trans (k1.kept k e1 e2 e3)
        · rcases h with h | h
          · exact k1.new k h
          · have := k1.size
            exact .inr (by omega)
        · rcases h with h | h
          · exact Nat.lt_of_lt_of_le (k1.lt k h) k2.size
          · exact h.2
      refine ⟨fun k => Of k ∨ (w₁.heap.size ≤ k ∧ k < w₂.heap.size), ?_⟩
      have hst : StO 0 none O0 w0 [] (fun k => Of k ∨ (w₁.heap.size ≤ k ∧ k < w₂.heap.size)) w₂ := ⟨hb, hkb, fun x hx => (by cases hx), List.nodup_nil⟩
      have M : MemI (PhR .back) (PhD .back) 0 none := memF 0
      simp only [recvd, if_true]
      walk_nrm
      refine itemX_of ?_
      (refine i_rd M hst rfl (by rfl) (rd_extract rfl rfl rfl) ?_; walk_nrm)
      refine opsI_nil M.T ?_
      simp only [ThenX, ThenI]
      refine itemX_of ?_
      repeat (first | (refine i_rd M hst rfl (by rfl) (by first | exact rd_move rfl rfl | exact rd_assign rfl rfl | exact rd_loadP rfl rfl (by first | exact .head _ | exact .tail _ (.head _) | exact .tail _ (.tail _ (.head _)) | exact .tail _ (.tail _ (.tail _ (.head _)))) | exact rd_loadL rfl rfl (by first | exact .head _ | exact .tail _ (.head _) | exact .tail _ (.tail _ (.head _)) | exact .tail _ (.tail _ (.tail _ (.head _)))) | exact rd_extract rfl rfl rfl | exact rd_add rfl rfl rfl (by omega) | exact rd_pickT rfl rfl rfl | exact rd_pickF rfl rfl rfl) ?_; walk_nrm) | (refine i_new M hst rfl (by rfl) (mk_boxP rfl rfl) ?_; intro gp O w hst; walk_nrm) | (refine i_new M hst rfl (by rfl) (mk_allocL rfl) ?_; intro gr O w hst; walk_nrm) | (refine i_stL (n := 0) M hst rfl (by rfl) rfl rfl rfl (by rfl) ?_; intro w hst; simp only [List.setIfInBounds_toArray, List.set_cons_succ, List.set_cons_zero] at hst; walk_nrm) | (refine i_stL (n := 1) M hst rfl (by rfl) rfl rfl rfl (by rfl) ?_; intro w hst; simp only [List.setIfInBounds_toArray, List.set_cons_succ, List.set_cons_zero] at hst; walk_nrm) | (refine i_stL (n := 2) M hst rfl (by rfl) rfl rfl rfl (by rfl) ?_; intro w hst; simp only [List.setIfInBounds_toArray, List.set_cons_succ, List.set_cons_zero] at hst; walk_nrm) | (refine i_stL (n := 3) M hst rfl (by rfl) rfl rfl rfl (by rfl) ?_; intro w hst; simp only [List.setIfInBounds_toArray, List.set_cons_succ, List.set_cons_zero] at hst; walk_nrm) | (refine opsI_unwanted M.T rfl (by rfl) ?_; walk_nrm) | (refine codeI_seq M.T ?_) | (refine codeI_region M.T ?_; simp only [List.size_toArray, List.length_cons, List.length_nil, Nat.reduceAdd, Nat.zero_add, List.range, List.range.loop]) | (refine opsI_nil M.T ?_; try simp only [ThenI, BlockI, if_true]) | (refine codeI_cond M.T (v := true) rfl ?_; simp only [if_true]) | (refine codeI_cond M.T (v := false) rfl ?_; simp only [Bool.false_eq_true, if_false]) | (refine codeI_block M.T ?_) | (refine codeI_skip M.T ?_; try simp only [ThenI, BlockI, if_true]) | (refine codeI_label M.T ?_; try simp only [ThenI, BlockI, if_true]) | (refine codeI_exit M.T ?_; try simp only [ThenI, BlockI, if_true]) | (refine codeI_ret M.T ?_; try simp only [ThenI, BlockI]))
      simp only [BlockX, BlockI, ThenX, ThenI, if_true]
      refine itemX_of ?_
      repeat (first | (refine i_rd M hst rfl (by rfl) (by first | exact rd_move rfl rfl | exact rd_assign rfl rfl | exact rd_loadP rfl rfl (by first | exact .head _ | exact .tail _ (.head _) | exact .tail _ (.tail _ (.head _)) | exact .tail _ (.tail _ (.tail _ (.head _)))) | exact rd_loadL rfl rfl (by first | exact .head _ | exact .tail _ (.head _) | exact .tail _ (.tail _ (.head _)) | exact .tail _ (.tail _ (.tail _ (.head _)))) | exact rd_extract rfl rfl rfl | exact rd_add rfl rfl rfl (by omega) | exact rd_pickT rfl rfl rfl | exact rd_pickF rfl rfl rfl) ?_; walk_nrm) | (refine i_new M hst rfl (by rfl) (mk_boxP rfl rfl) ?_; intro gp O w hst; walk_nrm) | (refine i_new M hst rfl (by rfl) (mk_allocL rfl) ?_; intro gr O w hst; walk_nrm) | (refine i_stL (n := 0) M hst rfl (by rfl) rfl rfl rfl (by rfl) ?_; intro w hst; simp only [List.setIfInBounds_toArray, List.set_cons_succ, List.set_cons_zero] at hst; walk_nrm) | (refine i_stL (n := 1) M hst rfl (by rfl) rfl rfl rfl (by rfl) ?_; intro w hst; simp only [List.setIfInBounds_toArray, List.set_cons_succ, List.set_cons_zero] at hst; walk_nrm) | (refine i_stL (n := 2) M hst rfl (by rfl) rfl rfl rfl (by rfl) ?_; intro w hst; simp only [List.setIfInBounds_toArray, List.set_cons_succ, List.set_cons_zero] at hst; walk_nrm) | (refine i_stL (n := 3) M hst rfl (by rfl) rfl rfl rfl (by rfl) ?_; intro w hst; simp only [List.setIfInBounds_toArray, List.set_cons_succ, List.set_cons_zero] at hst; walk_nrm) | (refine opsI_unwanted M.T rfl (by rfl) ?_; walk_nrm) | (refine codeI_seq M.T ?_) | (refine codeI_region M.T ?_; simp only [List.size_toArray, List.length_cons, List.length_nil, Nat.reduceAdd, Nat.zero_add, List.range, List.range.loop]) | (refine opsI_nil M.T ?_; try simp only [ThenI, BlockI, if_true]) | (refine codeI_cond M.T (v := true) rfl ?_; simp only [if_true]) | (refine codeI_cond M.T (v := false) rfl ?_; simp only [Bool.false_eq_true, if_false]) | (refine codeI_block M.T ?_) | (refine codeI_skip M.T ?_; try simp only [ThenI, BlockI, if_true]) | (refine codeI_label M.T ?_; try simp only [ThenI, BlockI, if_true]) | (refine codeI_exit M.T ?_; try simp only [ThenI, BlockI, if_true]) | (refine codeI_ret M.T ?_; try simp only [ThenI, BlockI]))
      simp only [List.append_nil] at hl
      subst hl
      have hrs : Try.f27.results = #[.tmp 2, .tmp 3] := by rfl
      refine ⟨rfl, .tuple #[.int .i64 cnt, .bool sf], ResI.of M.T (fun w => ?_), rfl, by rw [hcnt, hsf], hst.keep⟩
      constructor <;> simp [results, hrs]
    | cons l ws =>
      have M : MemI (PhR (.open_ w₁.heap.size gc (ws.map lv))) (PhD (.open_ w₁.heap.size gc (ws.map lv))) w₁.heap.size (some gc) := memO _ _
      have hzl : Z l := hz l (by rw [hl]; simp)
      have hlen : l0.length = ds.length + (ws.length + 1) := by rw [hl]; simp
      obtain ⟨rr, hrr⟩ : ∃ rr : Lk × Bool, rr = if l.da = -1 then (l, true) else takeF ⟨n, a, K, m⟩ l := ⟨_, rfl⟩
      have hrt : rr.2 = takR ⟨n, a, K, m⟩ l := by rw [hrr]; unfold takR; split <;> rfl
      simp only [List.map_cons, recvd, if_true]
      walk_nrm
      refine itemX_of ?_
      (refine i_rd M hst rfl (by rfl) (rd_extract rfl rfl rfl) ?_; walk_nrm)
      refine opsI_nil M.T ?_
      simp only [ThenX, ThenI]
      refine itemX_of ?_
      repeat (first | (refine i_rd M hst rfl (by rfl) (by first | exact rd_move rfl rfl | exact rd_assign rfl rfl | exact rd_loadP rfl rfl (by first | exact .head _ | exact .tail _ (.head _) | exact .tail _ (.tail _ (.head _)) | exact .tail _ (.tail _ (.tail _ (.head _)))) | exact rd_loadL rfl rfl (by first | exact .head _ | exact .tail _ (.head _) | exact .tail _ (.tail _ (.head _)) | exact .tail _ (.tail _ (.tail _ (.head _)))) | exact rd_extract rfl rfl rfl | exact rd_add rfl rfl rfl (by omega) | exact rd_pickT rfl rfl rfl | exact rd_pickF rfl rfl rfl) ?_; walk_nrm) | (refine i_new M hst rfl (by rfl) (mk_boxP rfl rfl) ?_; intro gp O w hst; walk_nrm) | (refine i_new M hst rfl (by rfl) (mk_allocL rfl) ?_; intro gr O w hst; walk_nrm) | (refine i_stL (n := 0) M hst rfl (by rfl) rfl rfl rfl (by rfl) ?_; intro w hst; simp only [List.setIfInBounds_toArray, List.set_cons_succ, List.set_cons_zero] at hst; walk_nrm) | (refine i_stL (n := 1) M hst rfl (by rfl) rfl rfl rfl (by rfl) ?_; intro w hst; simp only [List.setIfInBounds_toArray, List.set_cons_succ, List.set_cons_zero] at hst; walk_nrm) | (refine i_stL (n := 2) M hst rfl (by rfl) rfl rfl rfl (by rfl) ?_; intro w hst; simp only [List.setIfInBounds_toArray, List.set_cons_succ, List.set_cons_zero] at hst; walk_nrm) | (refine i_stL (n := 3) M hst rfl (by rfl) rfl rfl rfl (by rfl) ?_; intro w hst; simp only [List.setIfInBounds_toArray, List.set_cons_succ, List.set_cons_zero] at hst; walk_nrm) | (refine opsI_unwanted M.T rfl (by rfl) ?_; walk_nrm) | (refine codeI_seq M.T ?_) | (refine codeI_region M.T ?_; simp only [List.size_toArray, List.length_cons, List.length_nil, Nat.reduceAdd, Nat.zero_add, List.range, List.range.loop]) | (refine opsI_nil M.T ?_; try simp only [ThenI, BlockI, if_true]) | (refine codeI_cond M.T (v := true) rfl ?_; simp only [if_true]) | (refine codeI_cond M.T (v := false) rfl ?_; simp only [Bool.false_eq_true, if_false]) | (refine codeI_block M.T ?_) | (refine codeI_skip M.T ?_; try simp only [ThenI, BlockI, if_true]) | (refine codeI_label M.T ?_; try simp only [ThenI, BlockI, if_true]) | (refine codeI_exit M.T ?_; try simp only [ThenI, BlockI, if_true]) | (refine codeI_ret M.T ?_; try simp only [ThenI, BlockI]))
      (refine i_rd M hst rfl (by rfl) (rd_loadPLow rfl rfl p4 p4 hpc2 p3) ?_; walk_nrm)
      repeat (first | (refine i_rd M hst rfl (by rfl) (by first | exact rd_move rfl rfl | exact rd_assign rfl rfl | exact rd_loadP rfl rfl (by first | exact .head _ | exact .tail _ (.head _) | exact .tail _ (.tail _ (.head _)) | exact .tail _ (.tail _ (.tail _ (.head _)))) | exact rd_loadL rfl rfl (by first | exact .head _ | exact .tail _ (.head _) | exact .tail _ (.tail _ (.head _)) | exact .tail _ (.tail _ (.tail _ (.head _)))) | exact rd_extract rfl rfl rfl | exact rd_add rfl rfl rfl (by omega) | exact rd_pickT rfl rfl rfl | exact rd_pickF rfl rfl rfl) ?_; walk_nrm) | (refine i_new M hst rfl (by rfl) (mk_boxP rfl rfl) ?_; intro gp O w hst; walk_nrm) | (refine i_new M hst rfl (by rfl) (mk_allocL rfl) ?_; intro gr O w hst; walk_nrm) | (refine i_stL (n := 0) M hst rfl (by rfl) rfl rfl rfl (by rfl) ?_; intro w hst; simp only [List.setIfInBounds_toArray, List.set_cons_succ, List.set_cons_zero] at hst; walk_nrm) | (refine i_stL (n := 1) M hst rfl (by rfl) rfl rfl rfl (by rfl) ?_; intro w hst; simp only [List.setIfInBounds_toArray, List.set_cons_succ, List.set_cons_zero] at hst; walk_nrm) | (refine i_stL (n := 2) M hst rfl (by rfl) rfl rfl rfl (by rfl) ?_; intro w hst; simp only [List.setIfInBounds_toArray, List.set_cons_succ, List.set_cons_zero] at hst; walk_nrm) | (refine i_stL (n := 3) M hst rfl (by rfl) rfl rfl rfl (by rfl) ?_; intro w hst; simp only [List.setIfInBounds_toArray, List.set_cons_succ, List.set_cons_zero] at hst; walk_nrm) | (refine opsI_unwanted M.T rfl (by rfl) ?_; walk_nrm) | (refine codeI_seq M.T ?_) | (refine codeI_region M.T ?_; simp only [List.size_toArray, List.length_cons, List.length_nil, Nat.reduceAdd, Nat.zero_add, List.range, List.range.loop]) | (refine opsI_nil M.T ?_; try simp only [ThenI, BlockI, if_true]) | (refine codeI_cond M.T (v := true) rfl ?_; simp only [if_true]) | (refine codeI_cond M.T (v := false) rfl ?_; simp only [Bool.false_eq_true, if_false]) | (refine codeI_block M.T ?_) | (refine codeI_skip M.T ?_; try simp only [ThenI, BlockI, if_true]) | (refine codeI_label M.T ?_; try simp only [ThenI, BlockI, if_true]) | (refine codeI_exit M.T ?_; try simp only [ThenI, BlockI, if_true]) | (refine codeI_ret M.T ?_; try simp only [ThenI, BlockI]))
      (refine i_call (Rv := fun v => v = .tuple #[lv rr.1, .bool rr.2]) M hst rfl (by rfl) rfl (fun O w hb => by walk_nrm; exact (ctk_any M n a m l.kn l.s l.d l.h l.da l.wo K rr hrr hn hK (hZ.d l hzl) (hZ.h l hzl) (hZ.da l hzl) O w hb)) ?_; rintro _ O w rfl hst; walk_nrm)
      cases sf with
      | true =>
        repeat (first | (refine i_rd M hst rfl (by rfl) (by first | exact rd_move rfl rfl | exact rd_assign rfl rfl | exact rd_loadP rfl rfl (by first | exact .head _ | exact .tail _ (.head _) | exact .tail _ (.tail _ (.head _)) | exact .tail _ (.tail _ (.tail _ (.head _)))) | exact rd_loadL rfl rfl (by first | exact .head _ | exact .tail _ (.head _) | exact .tail _ (.tail _ (.head _)) | exact .tail _ (.tail _ (.tail _ (.head _)))) | exact rd_extract rfl rfl rfl | exact rd_add rfl rfl rfl (by omega) | exact rd_pickT rfl rfl rfl | exact rd_pickF rfl rfl rfl) ?_; walk_nrm) | (refine i_new M hst rfl (by rfl) (mk_boxP rfl rfl) ?_; intro gp O w hst; walk_nrm) | (refine i_new M hst rfl (by rfl) (mk_allocL rfl) ?_; intro gr O w hst; walk_nrm) | (refine i_stL (n := 0) M hst rfl (by rfl) rfl rfl rfl (by rfl) ?_; intro w hst; simp only [List.setIfInBounds_toArray, List.set_cons_succ, List.set_cons_zero] at hst; walk_nrm) | (refine i_stL (n := 1) M hst rfl (by rfl) rfl rfl rfl (by rfl) ?_; intro w hst; simp only [List.setIfInBounds_toArray, List.set_cons_succ, List.set_cons_zero] at hst; walk_nrm) | (refine i_stL (n := 2) M hst rfl (by rfl) rfl rfl rfl (by rfl) ?_; intro w hst; simp only [List.setIfInBounds_toArray, List.set_cons_succ, List.set_cons_zero] at hst; walk_nrm) | (refine i_stL (n := 3) M hst rfl (by rfl) rfl rfl rfl (by rfl) ?_; intro w hst; simp only [List.setIfInBounds_toArray, List.set_cons_succ, List.set_cons_zero] at hst; walk_nrm) | (refine opsI_unwanted M.T rfl (by rfl) ?_; walk_nrm) | (refine codeI_seq M.T ?_) | (refine codeI_region M.T ?_; simp only [List.size_toArray, List.length_cons, List.length_nil, Nat.reduceAdd, Nat.zero_add, List.range, List.range.loop]) | (refine opsI_nil M.T ?_; try simp only [ThenI, BlockI, if_true]) | (refine codeI_cond M.T (v := true) rfl ?_; simp only [if_true]) | (refine codeI_cond M.T (v := false) rfl ?_; simp only [Bool.false_eq_true, if_false]) | (refine codeI_block M.T ?_) | (refine codeI_skip M.T ?_; try simp only [ThenI, BlockI, if_true]) | (refine codeI_label M.T ?_; try simp only [ThenI, BlockI, if_true]) | (refine codeI_exit M.T ?_; try simp only [ThenI, BlockI, if_true]) | (refine codeI_ret M.T ?_; try simp only [ThenI, BlockI]))
        refine ⟨⟨ds ++ [l], ws, cnt + 1, rr.2, _, _, _, _, _, _, _, _, _, _, _, _, _, _, _, _, _, _, _, _, _, _, _, by rw [hl]; simp, by rw [hcnt]; simp, by rw [List.all_append, ← hsf, hrt]; simp, rfl, rfl, hst.weak (by repeat (first | exact .slnil | apply List.Sublist.cons))⟩, by simp [phN]⟩
      | false =>
        repeat (first | (refine i_rd M hst rfl (by rfl) (by first | exact rd_move rfl rfl | exact rd_assign rfl rfl | exact rd_loadP rfl rfl (by first | exact .head _ | exact .tail _ (.head _) | exact .tail _ (.tail _ (.head _)) | exact .tail _ (.tail _ (.tail _ (.head _)))) | exact rd_loadL rfl rfl (by first | exact .head _ | exact .tail _ (.head _) | exact .tail _ (.tail _ (.head _)) | exact .tail _ (.tail _ (.tail _ (.head _)))) | exact rd_extract rfl rfl rfl | exact rd_add rfl rfl rfl (by omega) | exact rd_pickT rfl rfl rfl | exact rd_pickF rfl rfl rfl) ?_; walk_nrm) | (refine i_new M hst rfl (by rfl) (mk_boxP rfl rfl) ?_; intro gp O w hst; walk_nrm) | (refine i_new M hst rfl (by rfl) (mk_allocL rfl) ?_; intro gr O w hst; walk_nrm) | (refine i_stL (n := 0) M hst rfl (by rfl) rfl rfl rfl (by rfl) ?_; intro w hst; simp only [List.setIfInBounds_toArray, List.set_cons_succ, List.set_cons_zero] at hst; walk_nrm) | (refine i_stL (n := 1) M hst rfl (by rfl) rfl rfl rfl (by rfl) ?_; intro w hst; simp only [List.setIfInBounds_toArray, List.set_cons_succ, List.set_cons_zero] at hst; walk_nrm) | (refine i_stL (n := 2) M hst rfl (by rfl) rfl rfl rfl (by rfl) ?_; intro w hst; simp only [List.setIfInBounds_toArray, List.set_cons_succ, List.set_cons_zero] at hst; walk_nrm) | (refine i_stL (n := 3) M hst rfl (by rfl) rfl rfl rfl (by rfl) ?_; intro w hst; simp only [List.setIfInBounds_toArray, List.set_cons_succ, List.set_cons_zero] at hst; walk_nrm) | (refine opsI_unwanted M.T rfl (by rfl) ?_; walk_nrm) | (refine codeI_seq M.T ?_) | (refine codeI_region M.T ?_; simp only [List.size_toArray, List.length_cons, List.length_nil, Nat.reduceAdd, Nat.zero_add, List.range, List.range.loop]) | (refine opsI_nil M.T ?_; try simp only [ThenI, BlockI, if_true]) | (refine codeI_cond M.T (v := true) rfl ?_; simp only [if_true]) | (refine codeI_cond M.T (v := false) rfl ?_; simp only [Bool.false_eq_true, if_false]) | (refine codeI_block M.T ?_) | (refine codeI_skip M.T ?_; try simp only [ThenI, BlockI, if_true]) | (refine codeI_label M.T ?_; try simp only [ThenI, BlockI, if_true]) | (refine codeI_exit M.T ?_; try simp only [ThenI, BlockI, if_true]) | (refine codeI_ret M.T ?_; try simp only [ThenI, BlockI]))
        refine ⟨⟨ds ++ [l], ws, cnt + 1, false, _, _, _, _, _, _, _, _, _, _, _, _, _, _, _, _, _, _, _, _, _, _, _, by rw [hl]; simp, by rw [hcnt]; simp, by rw [List.all_append, ← hsf]; simp, rfl, rfl, hst.weak (by repeat (first | exact .slnil | apply List.Sublist.cons))⟩, by simp [phN]⟩
end Go.Proofs.Ytnbgfffcialfkaa
