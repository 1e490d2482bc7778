/-
  The rules themselves: a list of links that grows, its map, what is built. No condition.
  The rules for a list of links, continued: append, length, index, load; what is built. No condition.
-/
import Derived.Test.YtnbgfffcialfkaaLn13
import Derived.Maps.AppendAt
set_option linter.unusedSimpArgs false
set_option linter.unusedVariables false
namespace Go.Proofs.Ytnbgfffcialfkaa
open Go Go.Conc Go.RowKit
set_option linter.unusedVariables false

theorem nodup_set {α : Type} {x : α} : ∀ {l : List α} (n : Nat), l.Nodup → x ∉ l → (l.set n x).Nodup
  | [], _, _, _ => by simp
  | a :: l, 0, h, hx => by
    simp only [List.set_cons_zero, List.nodup_cons] at *
    exact ⟨fun h' => hx (List.mem_cons_of_mem _ h'), h.2⟩
  | a :: l, n + 1, h, hx => by
    simp only [List.set_cons_succ, List.nodup_cons, List.mem_cons, not_or] at *
    refine ⟨fun h' => ?_, nodup_set n h.2 hx.2⟩
    rcases List.mem_or_eq_of_mem_set h' with h' | h'
    · exact h.1 h'
    · exact hx.1 h'.symm
section
variable {main : Bool} {R : RelyI} {D : GuarI} {Low : Nat} {c : Option Nat} {fn : FuncId} {Q : PostI} {O0 O : OwnP} {a : Act} {w0 w w' : World} {ops : Array Oper} {i : Nat} {rest : List Nat} {o : Oper} {L : List (Nat × Obj)} {x y z : Operand} {v : Value}
theorem StO.move {n g g' : Nat} {ob ob' : Obj} (h : StO Low c O0 w0 L O w) (hn : L[n]? = some (g, ob)) (hg : w.grownBy w' (some g)) (hat : w'.heap[g']? = some ob') (hgg : g' = g ∨ g' = w.heap.size) :
    StO Low c O0 w0 (L.set n (g', ob')) (fun k => O k ∨ (w.heap.size ≤ k ∧ k < w'.heap.size)) w' := by
  obtain ⟨hlt, hge⟩ := List.getElem?_eq_some_iff.1 hn
  have hm : (g, ob) ∈ L := List.mem_of_getElem? hn
  obtain ⟨m1, m2, m3⟩ := h.mine _ hm
  simp only at m1 m2 m3
  have hs := hg.size
  have hz := h.keep.size
  have hin : g' < w'.heap.size := by
    have := (Array.getElem?_eq_some_iff.1 hat).1
    exact this
  have lts : ∀ x ∈ L, x.1 < w.heap.size := fun x hx => h.keep.lt _ (h.mine x hx).1
  refine ⟨h.base, ⟨hg.tape.trans h.keep.tape, hg.os.trans h.keep.os, hg.output.trans h.keep.output, by omega, fun k hk => .inl (h.keep.sub k hk), fun k e1 e2 e3 => ?_, fun k hk => ?_, fun k hk => ?_⟩, fun y hy => ?_, ?_⟩
  · exact (hg.block k (by omega) (fun e => by cases e; omega)).trans (h.keep.kept k e1 e2 e3)
  · rcases hk with hk | hk
    · exact h.keep.new k hk
    · exact .inr (by omega)
  · rcases hk with hk | hk
    · exact Nat.lt_of_lt_of_le (h.keep.lt k hk) hs
    · exact hk.2
  · obtain ⟨k, hk⟩ := List.mem_iff_getElem?.1 hy
    by_cases hkn : n = k
    · subst hkn
      simp [hlt] at hk
      subst hk
      rcases hgg with rfl | rfl
      · exact ⟨.inl m1, m2, hat⟩
      · exact ⟨.inr ⟨Nat.le_refl _, hin⟩, hz, hat⟩
    · rw [List.getElem?_set_ne hkn] at hk
      obtain ⟨e1, e2, e3⟩ := h.mine y (List.mem_of_getElem? hk)
      refine ⟨.inl e1, e2, (hg.block _ (h.keep.lt _ e1) fun e' => ?_).trans e3⟩
      cases e'
      have hnd : (L.map (·.1)).Nodup := h.nodup
      have h1 : (L.map (·.1))[n]? = some y.1 := by simp [hn]
      have h2 : (L.map (·.1))[k]? = some y.1 := by simp [hk]
      obtain ⟨l1, g1⟩ := List.getElem?_eq_some_iff.1 h1
      obtain ⟨l2, g2⟩ := List.getElem?_eq_some_iff.1 h2
      have hpw := List.pairwise_iff_getElem.1 hnd
      rcases Nat.lt_trichotomy n k with hl | hl | hl
      · exact hpw n k l1 l2 hl (g1.trans g2.symm)
      · exact hkn hl
      · exact hpw k n l2 l1 hl (g2.trans g1.symm)
  · rcases hgg with rfl | rfl
    · have e : (L.set n (g', ob')).map (·.1) = L.map (·.1) := by
        rw [List.map_set]
        refine List.ext_getElem? fun k => ?_
        by_cases hk : n = k
        · subst hk; simp [hlt, hge]
        · simp [hk]
      rw [e]
      exact h.nodup
    · rw [List.map_set]
      refine nodup_set n h.nodup fun hm' => ?_
      obtain ⟨x, hx, e⟩ := List.mem_map.1 hm'
      have := lts x hx
      simp only at e
      omega
theorem DelO.move {g : Nat} {es : Array Event} (hO : O g) (hg : w.grownBy w' (some g)) (he : ∀ e ∈ es, EvIn (fun k => O k ∨ (w.heap.size ≤ k ∧ k < w'.heap.size)) e) : DelO Low c O (fun k => O k ∨ (w.heap.size ≤ k ∧ k < w'.heap.size)) w w' es :=
  ⟨hg.tape, hg.os, hg.output, hg.size, fun k hk ho => hg.block k hk fun e => by cases e; exact ho hO, fun k hk => .inl hk, fun k hk => hk, fun e h => (he e h).evO⟩
/-- A box is turned, or lies anew, behind an operation with a value (`nx` is .value) or with none. -/
def Tn (Low : Nat) (c : Option Nat) (O0 : OwnP) (w0 : World) (L : List (Nat × Obj)) (a : Act) (o : Oper) (g : Nat) (nx : Value → Next) (Rr : Value → Nat → Obj → Prop) : Prop :=
  ∀ O w, StO Low c O0 w0 L O w → ∃ v w' g' ob', (execOp a.eval o).run Try.prog w = .ok (nx v) w' ∧ w.grownBy w' (some g) ∧ w'.heap[g']? = some ob' ∧ (g' = g ∨ g' = w.heap.size) ∧ (∀ e ∈ (execOp a.eval o).events Try.prog w #[], EvIn O e) ∧ Rr v g' ob'
theorem EvIn.mono {p q : Nat → Prop} {e : Event} (h : ∀ k, p k → q k) (he : EvIn p e) : EvIn q e := he.imp_left fun ⟨ad, h1, h2⟩ => ⟨ad, h1, h _ h2⟩
theorem i_turnV {n g : Nat} {ob : Obj} {Rr : Value → Nat → Obj → Prop} (M : MemI R D Low c) (hst : StO Low c O0 w0 L O w) (ho : ops[i]? = some o) (hw : Region.wanted o (yielded ops a.tmps) = true) (hr : Tn Low c O0 w0 L a o g .value Rr) (hn : L[n]? = some (g, ob))
    (h : ∀ v g' ob' O' w', Rr v g' ob' → StO Low c O0 w0 (L.set n (g', ob')) O' w' → OpsI Try.prog main R D fn ops rest Q O' (a.put o.dst v) w') : OpsI Try.prog main R D fn ops (i :: rest) Q O a w :=
  opsI_cons ho hw fun w₁ r => by
    have hs := hst.rely (M.rely r)
    obtain ⟨v, w', g', ob', e1, e2, e3, e4, e5, e6⟩ := hr O w₁ hs
    rw [e1]
    exact ⟨_, M.guar (DelO.move (hs.mine _ (List.mem_of_getElem? hn)).1 e2 fun e he => (e5 e (mem_listed he)).mono fun k hk => .inl hk), h v g' ob' _ _ e6 (hs.move hn e2 e3 e4)⟩
theorem i_turnS {n g : Nat} {ob : Obj} {Rr : Value → Nat → Obj → Prop} (M : MemI R D Low c) (hst : StO Low c O0 w0 L O w) (ho : ops[i]? = some o) (hw : Region.wanted o (yielded ops a.tmps) = true) (hr : Tn Low c O0 w0 L a o g (fun _ => .skip) Rr) (hn : L[n]? = some (g, ob))
    (h : ∀ g' ob' O' w', (∃ v, Rr v g' ob') → StO Low c O0 w0 (L.set n (g', ob')) O' w' → OpsI Try.prog main R D fn ops rest Q O' (a.put o.dst undef) w') : OpsI Try.prog main R D fn ops (i :: rest) Q O a w :=
  opsI_cons ho hw fun w₁ r => by
    have hs := hst.rely (M.rely r)
    obtain ⟨v, w', g', ob', e1, e2, e3, e4, e5, e6⟩ := hr O w₁ hs
    rw [e1]
    exact ⟨_, M.guar (DelO.move (hs.mine _ (List.mem_of_getElem? hn)).1 e2 fun e he => (e5 e (mem_listed he)).mono fun k hk => .inl hk), h g' ob' _ _ ⟨v, e6⟩ (hs.move hn e2 e3 e4)⟩
/-- .. makes any object. -/
theorem i_newV {val : Nat → Value} {ob : Obj} (M : MemI R D Low c) (hst : StO Low c O0 w0 L O w) (ho : ops[i]? = some o) (hw : Region.wanted o (yielded ops a.tmps) = true)
    (hr : ∀ w, (execOp a.eval o).run Try.prog w = .ok (.value (val w.heap.size)) (w.alloc ob) ∧ (execOp a.eval o).events Try.prog w #[] = #[])
    (h : ∀ g O' w', StO Low c O0 w0 ((g, ob) :: L) O' w' → OpsI Try.prog main R D fn ops rest Q O' (a.put o.dst (val g)) w') : OpsI Try.prog main R D fn ops (i :: rest) Q O a w :=
  opsI_cons ho hw fun w₁ r => by
    rw [(hr w₁).1]
    exact ⟨_, by rw [listed_nil (hr w₁).2]; exact M.guar (DelO.alloc w₁ _), h _ _ _ ((hst.rely (M.rely r)).alloc ob)⟩
/-! ### the map -/
theorem atObj_in {α : Type} {g : Nat} {ob : Obj} {La : α → Prop} {e : Sem α} {p : Nat → Prop} (h : AtObj Try.prog g ob La e) (hw : w.heap[g]? = some ob) (hp : p g) : ∀ ev ∈ (e.runT Try.prog w #[]).2, EvIn p ev := by
  intro ev hev
  rcases atObj_events h w #[] hw ev hev with h | h
  · simp at h
  · exact .inl ⟨g, by rw [h]; rfl, hp⟩
theorem events_value {s : Sem Value} {w : World} : (do pure (Next.value (← s)) : Sem Next).events Try.prog w #[] = s.events Try.prog w #[] := by
  simp only [Sem.events_bind]
  cases s.run Try.prog w <;> rfl
theorem events_skip {s : Sem Unit} {w : World} : (do s; pure Next.skip : Sem Next).events Try.prog w #[] = s.events Try.prog w #[] := by
  simp only [Sem.events_bind]
  cases s.run Try.prog w <;> rfl
theorem rd_look {g : Nat} {l : Lk} {ls : List Lk} (hop : o.op = .lookup 73 x y false) (hx : a.eval x = .map (some g)) (hy : a.eval y = lv l) (hm : (g, mapO ls) ∈ L) : Rd Low c O0 w0 L a o (.bool (decide (l ∈ ls))) := fun O w hst => by
  obtain ⟨h1, h2, h3⟩ := hst.mine _ hm
  have e : execOp a.eval o = (do pure (Next.value (← Instr.lookup 73 (.map (some g)) (lv l) false)) : Sem Next) := by unfold execOp; rw [hop]; simp only [hx, hy]
  rw [e]
  refine ⟨by simp [run_look l ls g w h3], fun ev hev => ?_⟩
  rw [events_value] at hev
  exact (atObj_in (p := O) (at_look l ls g) h3 h1 ev hev).evO
theorem grownBy_set (w : World) (g : Nat) (ob : Obj) : w.grownBy { w with heap := w.heap.setIfInBounds g ob } (some g) :=
  ⟨rfl, rfl, rfl, by simp, fun k hk hne => by
    have : g ≠ k := fun e => hne (by rw [e])
    simp [Array.getElem?_setIfInBounds, this]⟩
theorem tn_put {g : Nat} {l : Lk} {ls : List Lk} (hop : o.op = .mapUpdate 73 x y z ∨ o.op = .insert 73 x y z) (hx : a.eval x = .map (some g)) (hy : a.eval y = lv l) (hz : a.eval z = .bool true) (hl : l ∉ ls) (hm : (g, mapO ls) ∈ L) :
    Tn Low c O0 w0 L a o g (fun _ => .skip) (fun _ g' ob' => g' = g ∧ ob' = mapO (ls ++ [l])) := fun O w hst => by
  obtain ⟨h1, h2, h3⟩ := hst.mine _ hm
  have e : execOp a.eval o = (do Instr.mapUpdate 73 (.map (some g)) (lv l) (.bool true); pure Next.skip : Sem Next) := by unfold execOp; rcases hop with hop | hop <;> (rw [hop]; simp only [hx, hy, hz])
  have hlt : g < w.heap.size := (Array.getElem?_eq_some_iff.1 h3).1
  refine ⟨undef, _, g, mapO (ls ++ [l]), by rw [e]; simp [run_put l ls hl g w h3]; rfl, grownBy_set w g _, by simp [hlt], .inl rfl, fun ev hev => ?_, rfl, rfl⟩
  rw [e, events_skip] at hev
  exact atObj_in (p := O) (at_put l ls hl g) h3 h1 ev hev
end
end Go.Proofs.Ytnbgfffcialfkaa

namespace Go.Proofs.Ytnbgfffcialfkaa
open Go Go.Conc Go.RowKit
set_option linter.unusedVariables false

theorem lv_cells (l : Lk) : (lv l).cells.toList = [.int .i64 l.kn, .int .i64 l.s, .int .i64 l.d, .int .i64 l.h, .int .i64 l.da, .int .i64 l.wo] := rfl
theorem flat_len (ls : List Lk) : (flat ls).length = ls.length * 6 := by
  induction ls with
  | nil => rfl
  | cons l ls ih => simp only [flat, List.flatMap_cons, List.length_append, lv_cells, List.length_cons, List.length_nil] at *; omega
theorem flat_snoc (ls : List Lk) (l : Lk) : flat (ls ++ [l]) = flat ls ++ (lv l).cells.toList := by simp [flat]
theorem flat_at (ls : List Lk) (n k : Nat) (l : Lk) (hl : ls[n]? = some l) (hk : k < 6) : (flat ls)[n * 6 + k]? = (lv l).cells.toList[k]? := by
  induction ls generalizing n with
  | nil => simp at hl
  | cons a ls ih =>
    have e : flat (a :: ls) = (lv a).cells.toList ++ flat ls := by simp [flat]
    have h6 : (lv a).cells.toList.length = 6 := rfl
    cases n with
    | zero =>
      simp at hl
      subst hl
      rw [e, List.getElem?_append_left (by omega)]
      simp
    | succ n =>
      rw [e, List.getElem?_append_right (by omega), h6]
      have : (n + 1) * 6 + k - 6 = n * 6 + k := by omega
      rw [this]
      exact ih n (by simpa using hl)
/-- A list of links in a row of one's own. -/
def ListV (ls : List Lk) (v : Value) (g : Nat) (ob : Obj) : Prop :=
  ∃ cap cur, v = .slice (some ⟨g, 0, none⟩) ls.length cap ∧ ob = .cells cur 35 ∧ ls.length ≤ cap ∧ cap ≤ maxLen ∧ cur.size = cap * 6 ∧ cur.toList.take (ls.length * 6) = flat ls
section
variable {Low : Nat} {c : Option Nat} {O0 O : OwnP} {a : Act} {w0 w w' : World} {o : Oper} {L : List (Nat × Obj)} {x y z : Operand} {v : Value}
theorem tn_append {g g2 c2 : Nat} {ob : Obj} {ls : List Lk} {l : Lk} {v1 : Value} (hop : o.op = .call { callee := .builtin .append, args := #[x, y], argTypes := #[44, 44] }) (hx : a.eval x = v1) (hy : a.eval y = .slice (some ⟨g2, 0, none⟩) 1 c2)
    (hv : ListV ls v1 g ob) (hm : (g, ob) ∈ L) (hm2 : (g2, .cells (lv l).cells 35) ∈ L) (hlen : ls.length + 1 ≤ 1000000) : Tn Low c O0 w0 L a o g .value (fun v' g' ob' => ListV (ls ++ [l]) v' g' ob') := fun O w hst => by
  obtain ⟨h1, _, h3⟩ := hst.mine _ hm
  obtain ⟨k1, _, k3⟩ := hst.mine _ hm2
  obtain ⟨cap, cur, rfl, rfl, hn, hc, hs, ht⟩ := hv
  simp only at h1 h3 k1 k3
  obtain ⟨i, hi, hz, hsize, hby⟩ := info35
  have hnews : ∀ j u, (lv l).cells.toList[j]? = some u → w.cell? ((⟨g2, 0, none⟩ : Addr).add j) = some u := by
    intro j u hj
    have hb : (⟨g2, 0, none⟩ : Addr).add j = ⟨g2, j, none⟩ := by unfold Addr.add; split <;> simp_all
    rw [hb, cells_at k3 j]
    simpa using hj
  have h6 : (lv l).cells.toList.length = 1 * 6 := rfl
  have hone : ∀ u ∈ (lv l).cells.toList, u.oneCell' = true := by
    intro u hu
    rw [lv_cells] at hu
    simp at hu
    rcases hu with rfl | rfl | rfl | rfl | rfl | rfl <;> rfl
  have hown : w.ownsRow 0 35 6 (.slice (some ⟨g, 0, none⟩) ls.length cap) ls.length (flat ls) := ⟨flat_len ls, .inr ⟨g, cap, cur, rfl, Nat.zero_le _, h3, hn, hc, hs, ht⟩⟩
  obtain ⟨v', w', hr, e2, e3, e4, e5⟩ := run_append_own_at (P := Try.prog) w 0 44 o.type 35 i _ 6 48 under44 hi hz hsize hby rfl (by omega) _ _ _ hown ⟨g2, 0, none⟩ 1 c2 _ h6 hnews hone (by simp only [maxLen]; omega) (by omega) (Nat.zero_le _)
  obtain ⟨f1, f2⟩ := e2
  rcases f2 with ⟨rfl, f3⟩ | ⟨g', cap', cur', rfl, _, f4, f5, f6, f7, f8⟩
  · omega
  have e : execOp a.eval o = (do pure (Next.value (← Builtin.append_ #[44, 44] o.type #[.slice (some ⟨g, 0, none⟩) ls.length cap, .slice (some ⟨g2, 0, none⟩) 1 c2])) : Sem Next) := by
    unfold execOp
    rw [hop]
    simp only [resolve, invoke, builtin, List.map_toArray, List.map_cons, List.map_nil, hx, hy]
    rfl
  refine ⟨_, w', g', .cells cur' 35, by rw [e]; simp [hr]; rfl, e3, f4, ?_, fun ev hev => ?_, cap', cur', by simp, rfl, by simpa using f5, f6, f7, ?_⟩
  · simpa [Value.ownBlock] using e5
  · rw [e, events_value] at hev
    exact events_append (p := O) w g ls.length cap cur (flat ls) h3 (flat_len ls) hn hs ht h1 g2 c2 _ k1 rfl hnews hone hlen o.type ev hev
  · rw [flat_snoc]
    simpa using f8
theorem rd_len {A : Option Addr} {n cap : Nat} (hop : o.op = .call { callee := .builtin .len, args := #[x], argTypes := #[44] }) (hx : a.eval x = .slice A n cap) (hn : n ≤ 1000000) : Rd Low c O0 w0 L a o (.int .i64 n) := rd_pure fun w => by
  unfold execOp; rw [hop]; have hu := under44; simp only [resolve, List.map_toArray, List.map_cons, List.map_nil, hx]; simp [go_sem, invoke, builtin, Builtin.len_, Builtin.lenOf, hu]
theorem rd_idx {g n cap : Nat} {k : Int} (hop : o.op = .indexAddr 44 x y) (hx : a.eval x = .slice (some ⟨g, 0, none⟩) n cap) (hy : a.eval y = .int .i64 k) (h0 : 0 ≤ k) (hk : k < n) : Rd Low c O0 w0 L a o (.pointer (some ⟨g, k.toNat * 6, none⟩)) := rd_pure fun w => by
  have hu := under44
  unfold execOp; rw [hop]; simp only [hx, hy]
  obtain ⟨m, rfl⟩ := Int.eq_ofNat_of_zero_le h0
  constructor
  · go_simp
  · simp [go_sem, *]
theorem rd_loadAt {g k : Nat} {cur : Array Value} {l : Lk} (hop : o.op = .load 35 x) (hx : a.eval x = .pointer (some ⟨g, k * 6, none⟩)) (hm : (g, .cells cur 35) ∈ L)
    (hv : ∀ j, j < 6 → cur[k * 6 + j]? = (lv l).cells.toList[j]?) : Rd Low c O0 w0 L a o (lv l) := fun O w hst => by
  obtain ⟨h1, h2, h3⟩ := hst.mine _ hm
  simp only at h1 h3
  have f0 := (cells_at h3 (k * 6)).trans (hv 0 (by omega))
  have f1 := (cells_at h3 (k * 6 + 1)).trans (hv 1 (by omega))
  have f2 := (cells_at h3 (k * 6 + 2)).trans (hv 2 (by omega))
  have f3 := (cells_at h3 (k * 6 + 3)).trans (hv 3 (by omega))
  have f4 := (cells_at h3 (k * 6 + 4)).trans (hv 4 (by omega))
  have f5 := (cells_at h3 (k * 6 + 5)).trans (hv 5 (by omega))
  simp [lv_cells] at f0 f1 f2 f3 f4 f5
  have : (Instr.loadAt 35 (.pointer (some ⟨g, k * 6, none⟩))).run Try.prog w = .ok (lv l) w ∧ (Instr.loadAt 35 (.pointer (some ⟨g, k * 6, none⟩))).events Try.prog w #[] = #[⟨.cell ⟨g, k * 6, none⟩, false, false⟩, ⟨.cell ⟨g, k * 6 + 1, none⟩, false, false⟩, ⟨.cell ⟨g, k * 6 + 2, none⟩, false, false⟩, ⟨.cell ⟨g, k * 6 + 3, none⟩, false, false⟩, ⟨.cell ⟨g, k * 6 + 4, none⟩, false, false⟩, ⟨.cell ⟨g, k * 6 + 5, none⟩, false, false⟩] := by
    constructor
    · unfold lv
      go_simp
    · simp [go_sem, *]
  have := op_value this
  unfold execOp
  rw [hop]
  simp only [hx]
  refine ⟨this.1, fun e he => ?_⟩
  rw [this.2] at he
  simp at he
  rcases he with rfl | rfl | rfl | rfl | rfl | rfl <;> exact ev_own h1
theorem rd_byte {s : ByteArray} {k : Int} {b : UInt8} (hop : o.op = .index 9 x y) (hx : a.eval x = .string s) (hy : a.eval y = .int .i64 k) (h0 : 0 ≤ k) (hk : k.toNat < s.size) (hb : s[k.toNat] = b) : Rd Low c O0 w0 L a o (.int .u8 b.toNat) := rd_pure fun w => by
  have hu := Try.underlying9
  unfold execOp; rw [hop]; simp only [hx, hy]
  obtain ⟨m, rfl⟩ := Int.eq_ofNat_of_zero_le h0
  simp only [Int.toNat_natCast] at hk
  have hb' : s[m] = b := by simpa using hb
  constructor
  · simp [Instr.index, go_sem, hu, hk, hb', asIntOf]
  · simp [Instr.index, go_sem, hu, hk, hb', asIntOf]
end
end Go.Proofs.Ytnbgfffcialfkaa
