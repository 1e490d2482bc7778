/-
  The walk in company: a region that draws its order; operations that read may be taken first. No condition.
  Plain facts on memory: a text's iterator, and a row of the call's own that grows beside it. No condition.
  What a walk in company holds of memory: boxes of one's own, what stays; the rules of loads, stores and boxes of plans and links. No condition.
-/
import Derived.Test.YtnbgfffcialfkaaLn01
import Derived.OrdersHeld
import Derived.WalkKit
import Derived.WalkSmall
import Derived.Lib.Hide
import Derived.Laws.IdiomStrings
import Derived.Maps.AppendAt
import Derived.Test.YtnbgfffcialfkaaLn03
import Derived.Test.YtnbgfffcialfkaaRows
import Derived.Conc.CompanyMem
import Derived.RowKit
import Derived.IntWalk
set_option linter.unusedSimpArgs false
set_option linter.unusedVariables false
namespace Go.Proofs.Ytnbgfffcialfkaa
open Go Go.Conc
set_option linter.unusedVariables false

section
variable {P : Program} {main : Bool} {R : RelyI} {D : GuarI} {fn : FuncId} {ops : Array Oper} {Q : PostI} {md : Region.Mode} {S : OwnP → World → Prop}
/-- Operation number i comes up; K is asked of the state in which it ends. -/
def OpI (P : Program) (main : Bool) (R : RelyI) (D : GuarI) (fn : FuncId) (ops : Array Oper) (i : Nat) (K : OwnP → Act → World → Prop) (O : OwnP) (a : Act) (w : World) : Prop :=
  ∃ o, ops[i]? = some o ∧ ((Region.wanted o (yielded ops a.tmps) = true ∧ ((∀ w₁, R O w w₁ → uponK o a (fun a' w' => ∃ O', D O O' w₁ w' (listed P fn a o w₁) ∧ K O' a' w') ((execOp a.eval o).run P w₁)) ∨
      ∃ f args ats Post, o.op = .call { callee := .value (.func f), args := args, argTypes := ats } ∧ CallsI P main R D f (args.map a.eval) O w Post ∧ ∀ v O' w', Post v O' w' → K O' (a.put o.dst v) w')) ∨
    (Region.wanted o (yielded ops a.tmps) = false ∧ K O (a.put o.dst undef) w))
theorem OpI.mono {i : Nat} {O : OwnP} {a : Act} {w : World} {K K' : OwnP → Act → World → Prop} (h : ∀ O a w, K O a w → K' O a w) (hh : OpI P main R D fn ops i K O a w) : OpI P main R D fn ops i K' O a w := by
  obtain ⟨o, ho, hh⟩ := hh
  refine ⟨o, ho, ?_⟩
  rcases hh with ⟨hw, hh⟩ | ⟨hw, hh⟩
  · refine .inl ⟨hw, ?_⟩
    rcases hh with hh | ⟨f, args, ats, Post, h1, h2, h3⟩
    · exact .inl fun w₁ h₁ => uponK_mono (fun a' w' ⟨O', d, x⟩ => ⟨O', d, h _ _ _ x⟩) (hh w₁ h₁)
    · exact .inr ⟨f, args, ats, Post, h1, h2, fun v O' w' p => h _ _ _ (h3 v O' w' p)⟩
  · exact .inr ⟨hw, h _ _ _ hh⟩
theorem opsI_of_opI (T : TermsI R D) {i : Nat} {rest : List Nat} {O : OwnP} {a : Act} {w : World} (h : OpI P main R D fn ops i (fun O' a' w' => OpsI P main R D fn ops rest Q O' a' w') O a w) : OpsI P main R D fn ops (i :: rest) Q O a w := by
  obtain ⟨o, ho, ⟨hw, h | ⟨f, args, ats, Post, h1, h2, h3⟩⟩ | ⟨hw, h⟩⟩ := h
  · exact opsI_cons ho hw h
  · exact opsI_call T ho hw h1 h2 h3
  · exact opsI_unwanted T ho hw h
/-- In state a, in every world that meets S, operation o leaves v in its temporary, does nothing else, and what it lists there is allowed. -/
def YieldsI (P : Program) (D : GuarI) (fn : FuncId) (ops : Array Oper) (S : OwnP → World → Prop) (o : Oper) (v : Value) (a : Act) : Prop :=
  (Region.wanted o (yielded ops a.tmps) = true ∧ ∀ O w, S O w → (execOp a.eval o).run P w = .ok (.value v) w ∧ D O O w w (listed P fn a o w)) ∨
  (Region.wanted o (yielded ops a.tmps) = false ∧ v = undef)
theorem YieldsI.of_same {o : Oper} {v : Value} {a a' : Act} (hy : YieldsI P D fn ops S o v a) (he : execOp a'.eval o = execOp a.eval o)
    (hw : Region.wanted o (yielded ops a'.tmps) = Region.wanted o (yielded ops a.tmps)) : YieldsI P D fn ops S o v a' := by
  unfold YieldsI listed at *
  rw [he, hw]
  exact hy
/-- Whatever order is picked from here on, and S holds behind every operation that is carried out. -/
def AnyIH (P : Program) (main : Bool) (R : RelyI) (D : GuarI) (fn : FuncId) (md : Region.Mode) (ops : Array Oper) (Q : PostI) (S : OwnP → World → Prop) : Nat → Array Bool → OwnP → Act → World → Prop
  | 0, listed, O, a, w => Region.ready md ops listed = [] ∧ Q .normal O a w
  | fuel + 1, listed, O, a, w => (Region.ready md ops listed = [] → Q .normal O a w) ∧
      ∀ i ∈ Region.ready md ops listed, OpI P main R D fn ops i (fun O' a' w' => S O' w' ∧ AnyIH P main R D fn md ops Q S fuel (listed.setIfInBounds i true) O' a' w') O a w
theorem CallsI.rely (T : TermsI R D) {f : FuncId} {args : Array Value} {O : OwnP} {w w₁ : World} {Post : Value → OwnP → World → Prop} (h : CallsI P main R D f args O w Post) (r : R O w w₁) : CallsI P main R D f args O w₁ Post :=
  ⟨h.1, fun c cs Stop hk => (h.2 c cs Stop hk).rely T r⟩
theorem OpI.rely (T : TermsI R D) {i : Nat} {O : OwnP} {a : Act} {w w₁ : World} {K : OwnP → Act → World → Prop} (hK : ∀ O a x y, K O a x → R O x y → K O a y) (h : OpI P main R D fn ops i K O a w) (r : R O w w₁) : OpI P main R D fn ops i K O a w₁ := by
  obtain ⟨o, ho, ⟨hw, h | ⟨f, args, ats, Post, h1, h2, h3⟩⟩ | ⟨hw, h⟩⟩ := h
  · exact ⟨o, ho, .inl ⟨hw, .inl fun w₂ h₂ => h w₂ (T.trans r h₂)⟩⟩
  · exact ⟨o, ho, .inl ⟨hw, .inr ⟨f, args, ats, Post, h1, h2.rely T r, h3⟩⟩⟩
  · exact ⟨o, ho, .inr ⟨hw, hK _ _ _ _ h r⟩⟩
theorem AnyIH.rely (T : TermsI R D) (hSR : ∀ O x y, S O x → R O x y → S O y) (hQR : ∀ O a x y, Q .normal O a x → R O x y → Q .normal O a y) :
    ∀ (fuel : Nat) (listed : Array Bool) (O : OwnP) (a : Act) (w w₁ : World), AnyIH P main R D fn md ops Q S fuel listed O a w → R O w w₁ → AnyIH P main R D fn md ops Q S fuel listed O a w₁
  | 0, _, _, _, _, _, h, r => ⟨h.1, hQR _ _ _ _ h.2 r⟩
  | fuel + 1, listed, O, a, w, w₁, h, r => ⟨fun e => hQR _ _ _ _ (h.1 e) r, fun i hi =>
      OpI.rely T (fun O a x y h r => ⟨hSR _ _ _ h.1 r, AnyIH.rely T hSR hQR fuel _ O a x y h.2 r⟩) (h.2 i hi) r⟩
theorem anyIH_sound (T : TermsI R D) : ∀ (fuel t : Nat) (listed : Array Bool) (O : OwnP) (a : Act) (w : World), AnyIH P main R D fn md ops Q S fuel listed O a w →
    OpsI P main R D fn ops (Region.linearise.go md ops fuel t listed []) Q O a w := by
  intro fuel
  induction fuel with
  | zero => intro t listed O a w h; simpa [Region.linearise.go] using opsI_nil T h.2
  | succ fuel ih =>
    intro t listed O a w h
    obtain ⟨h₀, h₁⟩ := h
    simp only [Region.linearise.go]
    change OpsI P main R D fn ops (match (Region.ready md ops listed)[t % (Region.ready md ops listed).length]? with
      | some i => Region.linearise.go md ops fuel (t / (Region.ready md ops listed).length) (listed.setIfInBounds i true) [i]
      | none => [].reverse) Q O a w
    cases hi : (Region.ready md ops listed)[t % (Region.ready md ops listed).length]? with
    | none =>
      have hnil : Region.ready md ops listed = [] := by
        cases hr : Region.ready md ops listed with
        | nil => rfl
        | cons x xs =>
          rw [hr] at hi
          have hlt : t % (x :: xs).length < (x :: xs).length := Nat.mod_lt _ (by simp)
          simp at hi
          simp at hlt
          omega
      simpa using opsI_nil T (h₀ hnil)
    | some i =>
      simp only []
      rw [linearise_go_acc, List.reverse_singleton, List.singleton_append]
      exact opsI_of_opI T (OpI.mono (fun O' a' w' x => ih _ _ O' a' w' x.2) (h₁ i (List.mem_of_getElem? hi)))
theorem YieldsI.opI (hSR : ∀ O x y, S O x → R O x y → S O y) {i : Nat} {o : Oper} {v : Value} {O : OwnP} {a : Act} (hi : ops[i]? = some o) (hy : YieldsI P D fn ops S o v a)
    {K : OwnP → Act → World → Prop} (hK : ∀ O a x y, K O a x → R O x y → K O a y) {w : World} (hS : S O w) (h : K O (a.put o.dst v) w) : OpI P main R D fn ops i K O a w := by
  refine ⟨o, hi, ?_⟩
  rcases hy with ⟨hw, hv⟩ | ⟨hw, rfl⟩
  · refine .inl ⟨hw, .inl fun w₁ h₁ => ?_⟩
    rw [(hv O w₁ (hSR _ _ _ hS h₁)).1]
    exact ⟨O, (hv O w₁ (hSR _ _ _ hS h₁)).2, hK _ _ _ _ h h₁⟩
  · exact .inr ⟨hw, h⟩
theorem OpI_putIf {j : Nat} {oi oj : Oper} {v : Value} (hj : ops[j]? = some oj) (hap : oi.apart ops oj = true)
    (hsi : ∀ cs b, oi.op ≠ .select cs b) (hsj : ∀ cs b, oj.op ≠ .select cs b) {K : OwnP → Act → World → Prop} {O : OwnP} {a : Act} {w : World}
    (hy : YieldsI P D fn ops S oi v a) (h : OpI P main R D fn ops j K O (a.put oi.dst v) w) :
    OpI P main R D fn ops j (fun O' a' w' => YieldsI P D fn ops S oi v a' ∧ K O' (a'.put oi.dst v) w') O a w := by
  obtain ⟨h1, h2, h3⟩ := Oper.apart_spec hap
  have keep : ∀ (a : Act), YieldsI P D fn ops S oi v a → ∀ u, YieldsI P D fn ops S oi v (a.put oj.dst u) := fun a hy u =>
    hy.of_same (execOp_put oi hsi a oj.dst u h3) (wanted_put oi a oj.dst u h3)
  obtain ⟨o, ho, h⟩ := h
  rw [hj] at ho
  cases ho
  rw [wanted_put oj a oi.dst v h1] at h
  refine ⟨oj, hj, ?_⟩
  rcases h with ⟨hw, h⟩ | ⟨hw, h⟩
  · refine .inl ⟨hw, ?_⟩
    rcases h with h | ⟨f, args, ats, Post, e1, e2, e3⟩
    · refine .inl fun w₁ h₁ => ?_
      have h := h w₁ h₁
      unfold listed at *
      rw [execOp_put oj hsj a oi.dst v h1] at h
      generalize (execOp a.eval oj).run P w₁ = r at *
      cases r with
      | ok n w' =>
        cases n <;> simp only [uponK] at h ⊢
        case value u => obtain ⟨O', d, x⟩ := h; exact ⟨O', d, keep a hy u, by rw [← Act.put_comm a v u h2]; exact x⟩
        case skip => obtain ⟨O', d, x⟩ := h; exact ⟨O', d, keep a hy _, by rw [← Act.put_comm a v undef h2]; exact x⟩
      | halt x w' => simp only [uponK] at h
    · have ea : args.map (a.put oi.dst v).eval = args.map a.eval := Array.map_congr_left fun x hx => Act.eval_put fun d hd hxd => h1 d hd (by
        subst hxd
        exact List.mem_append_left _ (List.mem_filterMap.2 ⟨.tmp d, by simp [e1, Op.operands, Call.operands, hx], rfl⟩))
      rw [ea] at e2
      exact .inr ⟨f, args, ats, Post, e1, e2, fun u O' w' p => ⟨keep a hy u, by rw [← Act.put_comm a v u h2]; exact e3 u O' w' p⟩⟩
  · exact .inr ⟨hw, keep a hy _, by rw [← Act.put_comm a v undef h2]; exact h⟩
theorem anyIH_first (T : TermsI R D) (hSR : ∀ O x y, S O x → R O x y → S O y) (hQR : ∀ O a x y, Q .normal O a x → R O x y → Q .normal O a y) {i : Nat} {oi : Oper} {v : Value} (hi : ops[i]? = some oi)
    (hsel : ∀ (j : Nat) (o : Oper) cs b, ops[j]? = some o → o.op ≠ .select cs b) :
    ∀ (fuel : Nat) (listed : Array Bool) (O : OwnP) (a : Act) (w : World),
      (∀ j oj, ops[j]? = some oj → j ≠ i → listed.getD j true = false → (∀ e ∈ oj.after, Region.binds md e = true → e.on ≠ i) → oi.apart ops oj = true) →
      i ∈ Region.ready md ops listed → YieldsI P D fn ops S oi v a → S O w →
      AnyIH P main R D fn md ops Q S fuel (listed.setIfInBounds i true) O (a.put oi.dst v) w → AnyIH P main R D fn md ops Q S (fuel + 1) listed O a w := by
  have hK : ∀ fuel listed, ∀ O a x y, (S O x ∧ AnyIH P main R D fn md ops Q S fuel listed O a x) → R O x y → (S O y ∧ AnyIH P main R D fn md ops Q S fuel listed O a y) :=
    fun fuel listed O a x y h r => ⟨hSR _ _ _ h.1 r, AnyIH.rely T hSR hQR fuel listed O a x y h.2 r⟩
  intro fuel
  induction fuel with
  | zero =>
    intro listed O a w _ hr hy hS H
    refine ⟨fun h => (by rw [h] at hr; cases hr), fun j hj => ?_⟩
    by_cases hji : j = i
    · subst hji; exact hy.opI hSR hi (hK _ _) hS ⟨hS, H⟩
    · have := ready_mono hj hji
      rw [H.1] at this
      cases this
  | succ fuel ih =>
    intro listed O a w hfree hr hy hS H
    refine ⟨fun h => (by rw [h] at hr; cases hr), fun j hj => ?_⟩
    by_cases hji : j = i
    · subst hji; exact hy.opI hSR hi (hK _ _) hS ⟨hS, H⟩
    · have h1 := H.2 j (ready_mono hj hji)
      obtain ⟨hjun, oj, hoj, hall⟩ := mem_ready.1 hj
      have hnot : ∀ e ∈ oj.after, Region.binds md e = true → e.on ≠ i := fun e he hb heq => by
        have h1 := hall e he hb
        have h0 := (mem_ready.1 hr).1
        rw [heq] at h1
        rcases Nat.lt_or_ge i listed.size with h' | h'
        · simp [h'] at h0 h1; rw [h0] at h1; cases h1
        · simp [Array.getElem?_eq_none h'] at h1
      have h2 := OpI_putIf hoj (hfree j oj hoj hji hjun hnot) (fun cs b => hsel i oi cs b hi) (fun cs b => hsel j oj cs b hoj) hy h1
      have hfree' : ∀ k ok, ops[k]? = some ok → k ≠ i → (listed.setIfInBounds j true).getD k true = false →
          (∀ e ∈ ok.after, Region.binds md e = true → e.on ≠ i) → oi.apart ops ok = true := fun k ok hk hki hun hno => by
        refine hfree k ok hk hki ?_ hno
        by_cases hjk : j = k
        · subst hjk; exact hjun
        · rw [getD_set_ne true hjk] at hun; exact hun
      refine OpI.mono (fun O' a' w' h3 => ⟨h3.2.1, ih (listed.setIfInBounds j true) O' a' w' hfree' (ready_mono hr (Ne.symm hji)) h3.1 h3.2.1 ?_⟩) h2
      rw [Array.setIfInBounds_comm _ _ hji]
      exact h3.2.2
/-- Take number i first. -/
theorem anyIH_take (T : TermsI R D) (hSR : ∀ O x y, S O x → R O x y → S O y) (hQR : ∀ O a x y, Q .normal O a x → R O x y → Q .normal O a y) {i : Nat} {oi : Oper} {v : Value} {fuel : Nat} {listed : Array Bool} {O : OwnP} {a : Act} {w : World} (hi : ops[i]? = some oi)
    (hs : Region.noSelect ops = true) (hf : Region.free md ops listed i = true) (hr : (Region.ready md ops listed).contains i = true)
    (hy : YieldsI P D fn ops S oi v a) (hS : S O w) (h : AnyIH P main R D fn md ops Q S fuel (listed.setIfInBounds i true) O (a.put oi.dst v) w) : AnyIH P main R D fn md ops Q S (fuel + 1) listed O a w :=
  anyIH_first T hSR hQR hi (Region.noSelect_spec hs) fuel listed O a w (Region.free_spec hi hf) (by simpa using hr) hy hS h
/-- Whichever of those that may come up comes up. -/
theorem anyIH_all {rs : List Nat} {fuel : Nat} {listed : Array Bool} {O : OwnP} {a : Act} {w : World} (hr : Region.ready md ops listed = rs) (hne : rs ≠ [])
    (h : ∀ i ∈ rs, OpI P main R D fn ops i (fun O' a' w' => S O' w' ∧ AnyIH P main R D fn md ops Q S fuel (listed.setIfInBounds i true) O' a' w') O a w) : AnyIH P main R D fn md ops Q S (fuel + 1) listed O a w :=
  ⟨fun h0 => absurd (hr ▸ h0) hne, hr ▸ h⟩
/-- All have come up. -/
theorem anyIH_done {listed : Array Bool} {O : OwnP} {a : Act} {w : World} (hr : Region.ready md ops listed = []) (h : Q .normal O a w) : ∀ fuel, AnyIH P main R D fn md ops Q S fuel listed O a w
  | 0 => ⟨hr, h⟩
  | _ + 1 => ⟨fun _ => h, fun i hi => by rw [hr] at hi; cases hi⟩
/-- The beginning. -/
theorem codeI_held (T : TermsI R D) {id : Nat} {O : OwnP} {a : Act} {w : World} (hm : P.follows .mixedOrders = true) (hD : ∀ O w, D O O w { w with drawn := w.drawn + 1 } #[])
    (h : ∀ w₁, R O w w₁ → AnyIH P main R D fn .any ops Q S ops.size (Array.replicate ops.size false) O a { w₁ with drawn := w₁.drawn + 1 }) : CodeI P main R D fn (.region id ops true) Q O a w :=
  fun b k cs Stop hb hk hc => GoesI.mk rfl fun w₁ h₁ => by
    rw [stepG_region_draw]
    refine ⟨_, _, _, O, rfl, hD _ _, ?_⟩
    simp only [Region.schedule, hm, Bool.true_or, if_true]
    exact anyIH_sound T ops.size _ _ _ _ _ (h w₁ h₁) b k cs Stop hb hk hc
end
end Go.Proofs.Ytnbgfffcialfkaa

namespace Go.Proofs.Ytnbgfffcialfkaa
open Go.RowKit
set_option linter.unusedVariables false

theorem own_iterAt {w : World} {base : Nat} {e : TypeId} {size : Nat} {v : Value} {n : Nat} {xs : List Value} (h : w.ownsRow base e size v n xs) {k p : Nat} {s : ByteArray} (hk : w.heap[k]? = some (.stringIter s p)) (q : Nat) :
    (w.iterAt k s q).ownsRow base e size v n xs := by
  obtain ⟨h1, h2⟩ := h
  refine ⟨h1, ?_⟩
  rcases h2 with h2 | ⟨g, cap, cur, a, b, c, d⟩
  · exact .inl h2
  · refine .inr ⟨g, cap, cur, a, b, ?_, d⟩
    have hne : g ≠ k := by rintro rfl; rw [c] at hk; cases hk
    rw [Lib.iterAt_other _ _ _ _ _ hne]; exact c

/-- Behind an append onto an own row an iterator stands as it stood, and what was there before the call is as it was. -/
theorem push_keep {B IT p : Nat} {s : ByteArray} {w W w1 : World} {e : TypeId} {v : Value} {n : Nat} {xs : List Value} {o : Obj} (hit : W.heap[IT]? = some (.stringIter s p)) (hown : W.ownsRow B e 1 v n xs)
    (hg : (W.alloc o).grownBy w1 v.ownBlock) (hb : Below B w W) (hB : B ≤ W.heap.size) : w1.heap[IT]? = some (.stringIter s p) ∧ Below B w w1 ∧ B ≤ w1.heap.size := by
  have hlt : IT < W.heap.size := (Array.getElem?_eq_some_iff.1 hit).1
  refine ⟨?_, (hb.alloc hB o).grown hg (by simp; omega) (fun j hj => (hown.lt j hj).1), ?_⟩
  · rw [hg.block IT (by simp; omega) ?_, Below.heap_alloc _ _ _ hlt]
    · exact hit
    · intro he
      rcases hown.2 with ⟨rfl, _⟩ | ⟨g, cap, cur, rfl, _, hh, _⟩
      · simp [Value.ownBlock] at he
      · simp [Value.ownBlock] at he
        subst he
        rw [hh] at hit; cases hit
  · have := hg.size
    simp at this; omega

/-- An own row is a slice of its length. -/
theorem own_form {w : World} {B e n : Nat} {v : Value} {xs : List Value} (h : w.ownsRow B e 1 v n xs) : ∃ a c, v = .slice a n c := by
  rcases h.2 with ⟨rfl, rfl⟩ | ⟨g, cap, cur, rfl, _⟩
  · exact ⟨none, 0, rfl⟩
  · exact ⟨_, _, rfl⟩

/-- The text of an own row of bytes. -/
def cellsOf (l : List UInt8) : List Value := l.map fun c => Value.int .u8 (c.toNat : Int)
theorem cellsOf_snoc (l : List UInt8) (c : UInt8) : cellsOf (l ++ [c]) = cellsOf l ++ [.int .u8 (c.toNat : Int)] := by simp [cellsOf]
theorem cellsOf_len (l : List UInt8) : (cellsOf l).length = l.length := by simp [cellsOf]
theorem own_text {P : Program} {w : World} {B : Nat} {e src dst : TypeId} {l : List UInt8} {v : Value} (hs : P.underlying src = some (.slice e)) (he : P.underlying e = some (.int .u8)) (hd : P.underlying dst = some .string)
    (h : w.ownsRow B e 1 v l.length (cellsOf l)) : (convert src dst v).run P w = .ok (.string ⟨l.toArray⟩) w := by
  rcases h.2 with ⟨rfl, h0⟩ | ⟨g, cap, cur, rfl, _, _⟩
  · have : l = [] := List.eq_nil_of_length_eq_zero h0
    subst this
    rw [run_convert_bytes_nil w src e hs he 0 0 dst hd]; rfl
  · refine run_convert_bytes_back w src dst e _ cap l hs he hd fun j hj => ?_
    refine h.cells (g := g) rfl j _ ?_
    simp [cellsOf, List.getElem?_eq_getElem hj]

theorem own_push_u8 {w1 : World} {B e : Nat} {v : Value} {l : List UInt8} {x : Int} (c : UInt8) (hx : x = (c.toNat : Int)) (h : w1.ownsRow B e 1 v (l.length + 1) (cellsOf l ++ [.int .u8 x])) : w1.ownsRow B e 1 v (l ++ [c]).length (cellsOf (l ++ [c])) := by
  rw [cellsOf_snoc, ← hx]; simpa using h
theorem one_cell (x : Value) (h : x.oneCell' = true) : ∀ u ∈ [x], u.oneCell' = true := by
  intro u hu; simp at hu; rw [hu]; exact h
theorem ret_bool {a b : Bool} (h : a = b) : Ending.returned (.bool a) = .returned (.bool b) := by rw [h]
theorem ret_int {k : IntKind} {a b : Int} (h : a = b) : Ending.returned (.int k a) = .returned (.int k b) := by rw [h]
/-- What the walk is told of a list of numbers that came in. -/
def IsRow (k : IntKind) (w : World) (a : Option Addr) (len cap : Nat) (zs : List Int) : Prop :=
  (a = none ∧ len = 0 ∧ cap = 0 ∧ zs = []) ∨
  ∃ x, a = some x ∧ len ≤ cap ∧ cap ≤ maxLen ∧ zs.length = cap ∧ (∀ i, i < zs.length → w.cell? (x.add i) = some (.int k (zs.getD i 0))) ∧ ∀ n ∈ zs, (Lit.int k n).wf = true
end Go.Proofs.Ytnbgfffcialfkaa

namespace Go.Proofs.Ytnbgfffcialfkaa
open Go Go.Conc Go.RowKit
set_option linter.unusedVariables false

/-- What stays, and what is one's own, from one world of the walk to a later one. -/
structure KeepO (Low : Nat) (c : Option Nat) (O0 : OwnP) (w0 : World) (O : OwnP) (w : World) : Prop where
  tape : w.tape = w0.tape
  os : w.os = w0.os
  output : w.output = w0.output
  size : w0.heap.size ≤ w.heap.size
  sub : ∀ k, O0 k → O k
  kept : ∀ k, k < w0.heap.size → some k ≠ c → (O0 k ∨ k < Low) → w.heap[k]? = w0.heap[k]?
  new : ∀ k, O k → O0 k ∨ w0.heap.size ≤ k
  lt : ∀ k, O k → k < w.heap.size
/-- What is held at the start. -/
structure BaseO (Low : Nat) (c : Option Nat) (O : OwnP) (w : World) : Prop where
  cl : ∀ x, c = some x → x < Low
  lows : Low ≤ w.heap.size
  lt : ∀ k, O k → k < w.heap.size
theorem BaseO.ne {Low : Nat} {c : Option Nat} {O : OwnP} {w : World} (h : BaseO Low c O w) {k : Nat} (hk : w.heap.size ≤ k) : some k ≠ c := fun e => by
  have := h.cl k e.symm
  have := h.lows
  omega
theorem BaseO.keep {Low : Nat} {c : Option Nat} {O : OwnP} {w : World} (h : BaseO Low c O w) : KeepO Low c O w O w := ⟨rfl, rfl, rfl, Nat.le_refl _, fun _ h => h, fun _ _ _ _ => rfl, fun _ h => .inl h, h.lt⟩
theorem KeepO.trans {Low : Nat} {c : Option Nat} {O0 O1 O2 : OwnP} {w0 w1 w2 : World} (h : KeepO Low c O0 w0 O1 w1) (h' : KeepO Low c O1 w1 O2 w2) : KeepO Low c O0 w0 O2 w2 :=
  ⟨h'.tape.trans h.tape, h'.os.trans h.os, h'.output.trans h.output, Nat.le_trans h.size h'.size, fun k hk => h'.sub k (h.sub k hk),
    fun k h1 h2 h3 => (h'.kept k (Nat.lt_of_lt_of_le h1 h.size) h2 (h3.imp_left (h.sub k))).trans (h.kept k h1 h2 h3),
    fun k hk => (h'.new k hk).elim (h.new k) fun h1 => .inr (Nat.le_trans h.size h1), h'.lt⟩
theorem KeepO.base {Low : Nat} {c : Option Nat} {O0 O : OwnP} {w0 w : World} (h : KeepO Low c O0 w0 O w) (b : BaseO Low c O0 w0) : BaseO Low c O w := ⟨b.cl, Nat.le_trans b.lows h.size, h.lt⟩
theorem KeepO.rely {Low : Nat} {c : Option Nat} {O0 O : OwnP} {w0 w w₁ : World} (h : KeepO Low c O0 w0 O w) (r : RelO Low c O w w₁) : KeepO Low c O0 w0 O w₁ :=
  ⟨r.tape.trans h.tape, r.os.trans h.os, r.output.trans h.output, Nat.le_trans h.size r.size, h.sub, fun k h1 h2 h3 => (r.block k (Nat.lt_of_lt_of_le h1 h.size) h2 (h3.imp_left (h.sub k))).trans (h.kept k h1 h2 h3), h.new, fun k hk => Nat.lt_of_lt_of_le (h.lt k hk) r.size⟩
theorem KeepO.draw {Low : Nat} {c : Option Nat} {O0 O : OwnP} {w0 w : World} (h : KeepO Low c O0 w0 O w) (d : Nat) : KeepO Low c O0 w0 O { w with drawn := d } := ⟨h.tape, h.os, h.output, h.size, h.sub, h.kept, h.new, h.lt⟩
/-- A rely and a guarantee that leave one's own memory to oneself. -/
structure MemI (R : RelyI) (D : GuarI) (Low : Nat) (c : Option Nat) : Prop where
  T : TermsI R D
  rely : ∀ {O w w₁}, R O w w₁ → RelO Low c O w w₁
  guar : ∀ {O O' w w' es}, DelO Low c O O' w w' es → D O O' w w' es
theorem memO (Low : Nat) (c : Option Nat) : MemI (RelO Low c) (DelO Low c) Low c := ⟨termsO Low c, id, id⟩
theorem memF (Low : Nat) : MemI RelF DelF Low none := ⟨termsF, fun {O w w₁} h => by obtain ⟨d, rfl⟩ := h; exact RelO.at _ _ _ _ _, fun {O O' w w' es} h e he m hm => (h.evs e he).1 m hm⟩
/-- .. with boxes of the walk's own. -/
structure StO (Low : Nat) (c : Option Nat) (O0 : OwnP) (w0 : World) (L : List (Nat × Obj)) (O : OwnP) (w : World) : Prop where
  base : BaseO Low c O0 w0
  keep : KeepO Low c O0 w0 O w
  mine : ∀ x ∈ L, O x.1 ∧ w0.heap.size ≤ x.1 ∧ w.heap[x.1]? = some x.2
  nodup : (L.map (·.1)).Nodup
section
variable {Low : Nat} {c : Option Nat} {O0 O O' : OwnP} {w0 w w₁ w' : World} {L : List (Nat × Obj)}
theorem BaseO.st (h : BaseO Low c O w) : StO Low c O w [] O w := ⟨h, h.keep, fun _ h => (by cases h), List.nodup_nil⟩
theorem StO.now (h : StO Low c O0 w0 L O w) : BaseO Low c O w := h.keep.base h.base
theorem StO.rely (h : StO Low c O0 w0 L O w) (r : RelO Low c O w w₁) : StO Low c O0 w0 L O w₁ :=
  ⟨h.base, h.keep.rely r, fun x hx => by
    obtain ⟨h1, h2, h3⟩ := h.mine x hx
    exact ⟨h1, h2, (r.block _ (h.keep.lt _ h1) (h.base.ne h2) (.inl h1)).trans h3⟩, h.nodup⟩
theorem StO.draw (h : StO Low c O0 w0 L O w) (d : Nat) : StO Low c O0 w0 L O { w with drawn := d } := ⟨h.base, h.keep.draw d, h.mine, h.nodup⟩
theorem StO.calls (h : StO Low c O0 w0 L O w) (k : KeepO Low c O w O' w') : StO Low c O0 w0 L O' w' :=
  ⟨h.base, h.keep.trans k, fun x hx => by
    obtain ⟨h1, h2, h3⟩ := h.mine x hx
    exact ⟨k.sub _ h1, h2, (k.kept _ (h.keep.lt _ h1) (h.base.ne h2) (.inl h1)).trans h3⟩, h.nodup⟩
theorem StO.alloc (h : StO Low c O0 w0 L O w) (ob : Obj) : StO Low c O0 w0 ((w.heap.size, ob) :: L) (fun k => O k ∨ k = w.heap.size) (w.alloc ob) := by
  have hs : w0.heap.size ≤ w.heap.size := h.keep.size
  have hz : (w.alloc ob).heap.size = w.heap.size + 1 := by simp
  have old : ∀ k, k < w.heap.size → (w.alloc ob).heap[k]? = w.heap[k]? := fun k hk => Below.heap_alloc w _ k hk
  refine ⟨h.base, ⟨h.keep.tape, h.keep.os, h.keep.output, by omega, fun k hk => .inl (h.keep.sub k hk), fun k h1 h2 h3 => (old k (by omega)).trans (h.keep.kept k h1 h2 h3), fun k hk => hk.elim (h.keep.new k) fun e => .inr (by omega), fun k hk => by
    rcases hk with hk | hk
    · have := h.keep.lt k hk; omega
    · omega⟩, fun x hx => ?_, ?_⟩
  · rcases List.mem_cons.1 hx with rfl | hx
    · exact ⟨.inr rfl, hs, heap_alloc_new w _⟩
    · obtain ⟨h1, h2, h3⟩ := h.mine x hx
      exact ⟨.inl h1, h2, (old _ (h.keep.lt _ h1)).trans h3⟩
  · simp only [List.map_cons, List.nodup_cons]
    refine ⟨fun hm => ?_, h.nodup⟩
    obtain ⟨x, hx, e⟩ := List.mem_map.1 hm
    have := h.keep.lt _ (h.mine x hx).1
    omega
theorem StO.drop {x : Nat × Obj} (h : StO Low c O0 w0 (x :: L) O w) : StO Low c O0 w0 L O w :=
  ⟨h.base, h.keep, fun y hy => h.mine y (List.mem_cons_of_mem _ hy), (List.nodup_cons.1 h.nodup).2⟩
/-- The first box is turned. -/
theorem StO.set0 {g : Nat} {t : TypeId} {cs cs' : Array Value} (h : StO Low c O0 w0 ((g, .cells cs t) :: L) O w) (h1 : w'.tape = w.tape) (h2 : w'.os = w.os) (h3 : w'.output = w.output) (h4 : w'.heap.size = w.heap.size)
    (h5 : ∀ k, k ≠ g → w'.heap[k]? = w.heap[k]?) (h6 : w'.heap[g]? = some (.cells cs' t)) : StO Low c O0 w0 ((g, .cells cs' t) :: L) O w' := by
  obtain ⟨m1, m2, m3⟩ := h.mine _ (List.mem_cons_self ..)
  simp only at m1 m2 m3
  refine ⟨h.base, ⟨h1.trans h.keep.tape, h2.trans h.keep.os, h3.trans h.keep.output, by rw [h4]; exact h.keep.size, h.keep.sub, fun k e1 e2 e3 => (h5 k (by omega)).trans (h.keep.kept k e1 e2 e3), h.keep.new, fun k hk => by rw [h4]; exact h.keep.lt k hk⟩, fun x hx => ?_, h.nodup⟩
  rcases List.mem_cons.1 hx with rfl | hx
  · exact ⟨m1, m2, h6⟩
  · obtain ⟨e1, e2, e3⟩ := h.mine x (List.mem_cons_of_mem _ hx)
    refine ⟨e1, e2, (h5 _ fun e => ?_).trans e3⟩
    have := (List.nodup_cons.1 h.nodup).1
    exact this (e ▸ List.mem_map.2 ⟨x, hx, rfl⟩)
theorem StO.perm {L' : List (Nat × Obj)} (h : StO Low c O0 w0 L O w) (hp : L.Perm L') : StO Low c O0 w0 L' O w :=
  ⟨h.base, h.keep, fun x hx => h.mine x (hp.mem_iff.2 hx), (hp.map _).nodup_iff.1 h.nodup⟩
theorem StO.weak {Lw : List (Nat × Obj)} (h : StO Low c O0 w0 L O w) (hs : Lw.Sublist L) : StO Low c O0 w0 Lw O w := ⟨h.base, h.keep, fun x hx => h.mine x (hs.subset hx), h.nodup.sublist (hs.map _)⟩
end
end Go.Proofs.Ytnbgfffcialfkaa
