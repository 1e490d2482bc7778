/-
  What another goroutine may do to the world and what a step of mine does, block by block; traces of two whose each place has an owner. No condition.
-/
import Derived.Test.YtnbgfffcialfkaaLn01
set_option linter.unusedSimpArgs false
set_option linter.unusedVariables false
namespace Go.Proofs.Ytnbgfffcialfkaa
open Go Go.Conc
set_option linter.unusedVariables false

/-- What the other may have done to the world: it made blocks, and turned what is not mine. Mine: 'Own'; nobody's, and only read: what lies below 'Low' but for the channel c. -/
structure RelO (Low : Nat) (c : Option Nat) (Own : Nat → Prop) (w w₁ : World) : Prop where
  tape : w₁.tape = w.tape
  os : w₁.os = w.os
  output : w₁.output = w.output
  size : w.heap.size ≤ w₁.heap.size
  block : ∀ k, k < w.heap.size → some k ≠ c → (Own k ∨ k < Low) → w₁.heap[k]? = w.heap[k]?
theorem RelO.refl (Low : Nat) (c : Option Nat) (Own : Nat → Prop) (w : World) : RelO Low c Own w w := ⟨rfl, rfl, rfl, Nat.le_refl _, fun _ _ _ _ => rfl⟩
theorem RelO.trans {Low : Nat} {c : Option Nat} {Own : Nat → Prop} {a b d : World} (h : RelO Low c Own a b) (h' : RelO Low c Own b d) : RelO Low c Own a d :=
  ⟨h'.tape.trans h.tape, h'.os.trans h.os, h'.output.trans h.output, Nat.le_trans h.size h'.size, fun k hk hc ho => (h'.block k (Nat.lt_of_lt_of_le hk h.size) hc ho).trans (h.block k hk hc ho)⟩
theorem RelO.at (Low : Nat) (c : Option Nat) (Own : Nat → Prop) (w : World) (d : Nat) : RelO Low c Own w (w.at d) := ⟨rfl, rfl, rfl, Nat.le_refl _, fun _ _ _ _ => rfl⟩
theorem RelO.put (Low c : Nat) (Own : Nat → Prop) (w : World) (o : Obj) : RelO Low (some c) Own w { w with heap := w.heap.setIfInBounds c o } :=
  ⟨rfl, rfl, rfl, by simp, fun k _ hk _ => by have : c ≠ k := fun e => hk (by rw [e]); simp [this]⟩
/-- The block that a place lies in, where it lies in one. -/
def blkOf : Loc → Option Nat
  | .cell a => some a.block
  | .obj r => some r
  | _ => none
/-- An access that is listed: no word of the library's; a read below Low, or an access to what is mine. -/
def EvO (Low : Nat) (Own : Nat → Prop) (e : Event) : Prop := (∀ m, e.loc = .mark m → Neutral m) ∧ ((∃ m, e.loc = .mark m) ∨ ∃ k, blkOf e.loc = some k ∧ ((e.write = false ∧ k < Low) ∨ Own k))
theorem touch_of_mark {g : Nat} {fn : FuncId} {pos : String} {e : Event} {x : Touch} {m : Mark} (hm : e.loc = .mark m) (hn : Neutral m) (h : (MemOp.mk g fn pos (.ofEvent e)).act.touch? = some x) : False := by
  obtain ⟨l, wr, sy⟩ := e
  simp only at hm
  subst hm
  have e2 : MemAct.ofEvent ⟨.mark m, wr, sy⟩ = .mark m := by cases wr <;> cases sy <;> rfl
  simp only [e2, hn.touch] at h
  cases h
theorem EvO.blk {Low : Nat} {Own : Nat → Prop} {g : Nat} {fn : FuncId} {pos : String} {e : Event} {x : Touch} (h : EvO Low Own e) (hx : (MemOp.mk g fn pos (.ofEvent e)).act.touch? = some x) : ∃ k, blkOf e.loc = some k ∧ ((e.write = false ∧ k < Low) ∨ Own k) := by
  rcases h.2 with ⟨m, hm⟩ | h2
  · exact (touch_of_mark hm (h.1 m hm) hx).elim
  · exact h2
/-- What a step of mine does: it turns what is mine, makes what is mine from then on, and lists such accesses alone. -/
structure DelO (Low : Nat) (c : Option Nat) (Own Own' : Nat → Prop) (w w' : World) (es : Array Event) : Prop where
  tape : w'.tape = w.tape
  os : w'.os = w.os
  output : w'.output = w.output
  size : w.heap.size ≤ w'.heap.size
  block : ∀ k, k < w.heap.size → ¬ Own k → w'.heap[k]? = w.heap[k]?
  keep : ∀ k, Own k → Own' k
  new : ∀ k, Own' k → Own k ∨ (w.heap.size ≤ k ∧ k < w'.heap.size)
  evs : ∀ e ∈ es, EvO Low Own' e
/-- A step of the other's, as I see it. -/
theorem DelO.rel {Low : Nat} {c : Option Nat} {Own Own' Mine : Nat → Prop} {w w' : World} {es : Array Event} (h : DelO Low c Own Own' w w' es) (hd : ∀ k, Mine k → ¬ Own k) (hl : ∀ k, Own k → Low ≤ k) : RelO Low c Mine w w' :=
  ⟨h.tape, h.os, h.output, h.size, fun k hk _ ho => h.block k hk (fun hk2 => by
    rcases ho with ho | ho
    · exact hd k ho hk2
    · exact absurd (hl k hk2) (by omega))⟩
theorem DelO.refl (Low : Nat) (c : Option Nat) (Own : Nat → Prop) (w : World) : DelO Low c Own Own w w #[] :=
  ⟨rfl, rfl, rfl, Nat.le_refl _, fun _ _ _ => rfl, fun _ h => h, fun _ h => .inl h, by simp⟩
theorem termsO (Low : Nat) (c : Option Nat) : TermsI (RelO Low c) (DelO Low c) := ⟨RelO.refl Low c, fun h h' => RelO.trans h h', DelO.refl Low c⟩
/-- Whom a place belongs to. -/
noncomputable def ownOf (A B : Nat → Prop) (l : Loc) : Option Nat := by
  classical
  exact match blkOf l with
    | some k => if A k then some 0 else if B k then some 1 else none
    | none => none
theorem late_a {Low : Nat} {A B : Nat → Prop} {fn : FuncId} {pos : String} {es : Array Event} (hl : ∀ k, A k ∨ B k → Low ≤ k) (h : ∀ e ∈ es, EvO Low A e) :
    Wordless (MemOp.ofEvents 0 fn pos es) ∧ ∀ op ∈ MemOp.ofEvents 0 fn pos es, Late2 (ownOf A B) op ∧ op.g = 0 := by
  rw [ofEvents_eq]
  refine ⟨fun op hop => ?_, fun op hop => ?_⟩ <;> obtain ⟨e, he, rfl⟩ := Array.mem_map.1 hop
  · exact ofEvent_noMark (h e he).1
  · refine ⟨⟨.inl rfl, fun x hx => ?_⟩, rfl⟩
    obtain ⟨h1, h2⟩ := ofEvent_touch (h e he).1 hx
    obtain ⟨k, hk, hko⟩ := (h e he).blk hx
    rw [h1, h2]
    unfold ownOf
    rw [hk]
    rcases hko with ⟨hw, hlow⟩ | ho
    · refine .inl ⟨hw, ?_⟩
      have na : ¬ A k := fun ha => absurd (hl k (.inl ha)) (by omega)
      have nb : ¬ B k := fun hb => absurd (hl k (.inr hb)) (by omega)
      simp [na, nb]
    · exact .inr (by simp [ho])
theorem late_b {Low : Nat} {A B : Nat → Prop} {fn : FuncId} {pos : String} {es : Array Event} (hl : ∀ k, A k ∨ B k → Low ≤ k) (hd : ∀ k, B k → ¬ A k) (h : ∀ e ∈ es, EvO Low B e) :
    Wordless (MemOp.ofEvents 1 fn pos es) ∧ ∀ op ∈ MemOp.ofEvents 1 fn pos es, Late2 (ownOf A B) op ∧ op.g = 1 := by
  rw [ofEvents_eq]
  refine ⟨fun op hop => ?_, fun op hop => ?_⟩ <;> obtain ⟨e, he, rfl⟩ := Array.mem_map.1 hop
  · exact ofEvent_noMark (h e he).1
  · refine ⟨⟨.inr rfl, fun x hx => ?_⟩, rfl⟩
    obtain ⟨h1, h2⟩ := ofEvent_touch (h e he).1 hx
    obtain ⟨k, hk, hko⟩ := (h e he).blk hx
    rw [h1, h2]
    unfold ownOf
    rw [hk]
    rcases hko with ⟨hw, hlow⟩ | ho
    · refine .inl ⟨hw, ?_⟩
      have na : ¬ A k := fun ha => absurd (hl k (.inl ha)) (by omega)
      have nb : ¬ B k := fun hb => absurd (hl k (.inr hb)) (by omega)
      simp [na, nb]
    · exact .inr (by simp [ho, hd k ho])
theorem ownOf_same {A A' B B' : Nat → Prop} {l : Loc} (h : ∀ k, blkOf l = some k → (A' k ↔ A k) ∧ (B' k ↔ B k)) : ownOf A' B' l = ownOf A B l := by
  unfold ownOf
  cases hk : blkOf l with
  | none => rfl
  | some k =>
    obtain ⟨h1, h2⟩ := h k hk
    by_cases ha : A k <;> by_cases hb : B k <;> simp [ha, hb, h1, h2]
/-- What is held of the trace: whose each place is; what was touched behind the start lies below N. -/
structure Tr2 (A B : Nat → Prop) (N : Nat) (t : Trace) (p : Nat) : Prop where
  f : Forked2 (ownOf A B) t p
  tch : ∀ i op x k, t[i]? = some op → p + 1 < i → op.act.touch? = some x → blkOf x.loc = some k → k < N
theorem Tr2.grow {A A' B B' : Nat → Prop} {N N' : Nat} {t : Trace} {p : Nat} (h : Tr2 A B N t p) (hN : N ≤ N') (ha : ∀ k, k < N → (A' k ↔ A k)) (hb : ∀ k, k < N → (B' k ↔ B k)) : Tr2 A' B' N' t p :=
  ⟨h.f.anew fun i op x hi hlt hx => ownOf_same fun k hk => ⟨ha k (h.tch i op x k hi hlt hx hk), hb k (h.tch i op x k hi hlt hx hk)⟩, fun i op x k hi hlt hx hk => Nat.lt_of_lt_of_le (h.tch i op x k hi hlt hx hk) hN⟩
theorem touch_lt {Low N g : Nat} {Own : Nat → Prop} {fn : FuncId} {pos : String} {es : Array Event} (hL : Low ≤ N) (ho : ∀ k, Own k → k < N) (he : ∀ e ∈ es, EvO Low Own e) :
    ∀ op ∈ MemOp.ofEvents g fn pos es, ∀ x k, op.act.touch? = some x → blkOf x.loc = some k → k < N := by
  rw [ofEvents_eq]
  intro op hop x k hx hk
  obtain ⟨e, hm, rfl⟩ := Array.mem_map.1 hop
  obtain ⟨h1, _⟩ := ofEvent_touch (he e hm).1 hx
  obtain ⟨k', hk', h2⟩ := (he e hm).blk hx
  rw [h1, hk'] at hk
  injection hk with hk
  subst hk
  rcases h2 with ⟨_, h2⟩ | h2
  · omega
  · exact ho _ h2
theorem Tr2.append {A B : Nat → Prop} {N : Nat} {t u : Trace} {p : Nat} (h : Tr2 A B N t p) (hw : Wordless u) (hu : ∀ op ∈ u, Late2 (ownOf A B) op) (ht : ∀ op ∈ u, ∀ x k, op.act.touch? = some x → blkOf x.loc = some k → k < N) : Tr2 A B N (t ++ u) p :=
  ⟨h.f.append hw hu, fun i op x k hi hlt hx hk => by
    rcases getElem?_append_cases hi with ⟨_, hi'⟩ | ⟨_, hm⟩
    · exact h.tch i op x k hi' hlt hx hk
    · exact ht op hm x k hx hk⟩
theorem Tr2.add0 {Low N : Nat} {A B : Nat → Prop} {t : Trace} {p : Nat} {fn : FuncId} {pos : String} {es : Array Event} (h : Tr2 A B N t p) (hl : ∀ k, A k ∨ B k → Low ≤ k) (ho : ∀ k, A k → k < N) (hL : Low ≤ N) (he : ∀ e ∈ es, EvO Low A e) : Tr2 A B N (t ++ MemOp.ofEvents 0 fn pos es) p :=
  h.append (late_a hl he).1 (fun op hop => ((late_a hl he).2 op hop).1) (touch_lt hL ho he)
theorem Tr2.add1 {Low N : Nat} {A B : Nat → Prop} {t : Trace} {p : Nat} {fn : FuncId} {pos : String} {es : Array Event} (h : Tr2 A B N t p) (hl : ∀ k, A k ∨ B k → Low ≤ k) (hd : ∀ k, B k → ¬ A k) (ho : ∀ k, B k → k < N) (hL : Low ≤ N) (he : ∀ e ∈ es, EvO Low B e) : Tr2 A B N (t ++ MemOp.ofEvents 1 fn pos es) p :=
  h.append (late_b hl hd he).1 (fun op hop => ((late_b hl hd he).2 op hop).1) (touch_lt hL ho he)
theorem Tr2.addComm {A B : Nat → Prop} {N : Nat} {t : Trace} {p : Nat} (h : Tr2 A B N t p) (ops : Array MemOp) (ho : ∀ op ∈ ops, (op.g = 0 ∨ op.g = 1) ∧ op.act.touch? = none ∧ ∀ m, op.act = .mark m → Neutral m) : Tr2 A B N (t ++ ops) p :=
  h.append (fun op hop => (ho op hop).2.2) (fun op hop => ⟨(ho op hop).1, fun x hx => by rw [(ho op hop).2.1] at hx; cases hx⟩) (fun op hop x k hx _ => by rw [(ho op hop).2.1] at hx; cases hx)
theorem Closed.ofPush2 {own : Loc → Option Nat} {c p : Nat} {u : Trace} {y : MemOp} (hT : Forked2 own (u.push y) p) (h1 : y.g = 1) (h2 : y.act = .close c) : Closed c (u.push y) u.size := by
  refine ⟨⟨y, by simp, h1, h2⟩, fun i op hi hne => ?_⟩
  have hlt := lt_size_of_getElem? hi
  simp only [Array.size_push] at hlt
  exact ⟨(hT.two hi).resolve_left hne, by omega⟩
/-- Whose each block is, at a world. -/
structure Tw (Low c : Nat) (A B : Nat → Prop) (w : World) : Prop where
  low : ∀ k, A k ∨ B k → Low ≤ k
  lt : ∀ k, A k ∨ B k → k < w.heap.size
  dis : ∀ k, B k → ¬ A k
  lows : Low ≤ w.heap.size
  cl : c < Low
theorem Tw.a {Low c : Nat} {A A' B : Nat → Prop} {w w' : World} {es : Array Event} (h : Tw Low c A B w) (d : DelO Low (some c) A A' w w' es) : Tw Low c A' B w' :=
  ⟨fun k hk => by
    have := h.lows
    rcases hk with hk | hk
    · rcases d.new k hk with hk | ⟨hk, _⟩
      · exact h.low k (.inl hk)
      · omega
    · exact h.low k (.inr hk), fun k hk => by
    have := d.size
    rcases hk with hk | hk
    · rcases d.new k hk with hk | ⟨_, hk⟩
      · have := h.lt k (.inl hk); omega
      · exact hk
    · have := h.lt k (.inr hk); omega, fun k hb ha => by
    rcases d.new k ha with ha | ⟨ha, _⟩
    · exact h.dis k hb ha
    · have := h.lt k (.inr hb); omega, Nat.le_trans h.lows d.size, h.cl⟩
theorem Tw.b {Low c : Nat} {A B B' : Nat → Prop} {w w' : World} {es : Array Event} (h : Tw Low c A B w) (d : DelO Low (some c) B B' w w' es) : Tw Low c A B' w' :=
  ⟨fun k hk => by
    have := h.lows
    rcases hk with hk | hk
    · exact h.low k (.inl hk)
    · rcases d.new k hk with hk | ⟨hk, _⟩
      · exact h.low k (.inr hk)
      · omega, fun k hk => by
    have := d.size
    rcases hk with hk | hk
    · have := h.lt k (.inl hk); omega
    · rcases d.new k hk with hk | ⟨_, hk⟩
      · have := h.lt k (.inr hk); omega
      · exact hk, fun k hb ha => by
    rcases d.new k hb with hb | ⟨hb, _⟩
    · exact h.dis k hb ha
    · have := h.lt k (.inl ha); omega, Nat.le_trans h.lows d.size, h.cl⟩
theorem Tw.same {Low c : Nat} {A B : Nat → Prop} {w w' : World} (h : Tw Low c A B w) (hs : w'.heap.size = w.heap.size) : Tw Low c A B w' :=
  ⟨h.low, fun k hk => by rw [hs]; exact h.lt k hk, h.dis, by rw [hs]; exact h.lows, h.cl⟩
theorem Tw.relB {Low c : Nat} {A A' B : Nat → Prop} {w w' : World} {es : Array Event} (h : Tw Low c A B w) (d : DelO Low (some c) A A' w w' es) : RelO Low (some c) B w w' := d.rel (fun k hb => h.dis k hb) (fun k ha => h.low k (.inl ha))
theorem Tw.relA {Low c : Nat} {A B B' : Nat → Prop} {w w' : World} {es : Array Event} (h : Tw Low c A B w) (d : DelO Low (some c) B B' w w' es) : RelO Low (some c) A w w' := d.rel (fun k ha hb => h.dis k hb ha) (fun k hb => h.low k (.inr hb))
theorem Tw.chanA {Low c : Nat} {A A' B : Nat → Prop} {w w' : World} {es : Array Event} (h : Tw Low c A B w) (d : DelO Low (some c) A A' w w' es) : w'.heap[c]? = w.heap[c]? :=
  d.block c (Nat.lt_of_lt_of_le h.cl h.lows) (fun ha => absurd (h.low c (.inl ha)) (by have := h.cl; omega))
theorem Tw.chanB {Low c : Nat} {A B B' : Nat → Prop} {w w' : World} {es : Array Event} (h : Tw Low c A B w) (d : DelO Low (some c) B B' w w' es) : w'.heap[c]? = w.heap[c]? :=
  d.block c (Nat.lt_of_lt_of_le h.cl h.lows) (fun hb => absurd (h.low c (.inr hb)) (by have := h.cl; omega))
theorem Tr2.a {Low c : Nat} {A A' B : Nat → Prop} {w w' : World} {es : Array Event} {t : Trace} {p : Nat} {fn : FuncId} {pos : String} (h : Tr2 A B w.heap.size t p) (hw : Tw Low c A B w) (d : DelO Low (some c) A A' w w' es) : Tr2 A' B w'.heap.size (t ++ MemOp.ofEvents 0 fn pos es) p := by
  have hw' := hw.a d
  refine (h.grow (A' := A') (B' := B) d.size (fun k hk => ⟨fun ha => ?_, d.keep k⟩) (fun k _ => Iff.rfl)).add0 hw'.low (fun k ha => hw'.lt k (.inl ha)) hw'.lows d.evs
  rcases d.new k ha with ha | ⟨ha, _⟩
  · exact ha
  · omega
theorem Tr2.b {Low c : Nat} {A B B' : Nat → Prop} {w w' : World} {es : Array Event} {t : Trace} {p : Nat} {fn : FuncId} {pos : String} (h : Tr2 A B w.heap.size t p) (hw : Tw Low c A B w) (d : DelO Low (some c) B B' w w' es) : Tr2 A B' w'.heap.size (t ++ MemOp.ofEvents 1 fn pos es) p := by
  have hw' := hw.b d
  refine (h.grow (A' := A) (B' := B') d.size (fun k _ => Iff.rfl) (fun k hk => ⟨fun hb => ?_, d.keep k⟩)).add1 hw'.low hw'.dis (fun k hb => hw'.lt k (.inr hb)) hw'.lows d.evs
  rcases d.new k hb with hb | ⟨hb, _⟩
  · exact hb
  · omega

end Go.Proofs.Ytnbgfffcialfkaa
