/-
  The rules of the walk in company for a list of links and a map whose keys are links, both of one's own. No condition.
  The rules of the walk in company for a list of links of one's own that grows, for its map, and for what is built. No condition.
-/
import Derived.Test.YtnbgfffcialfkaaLn12
import Derived.Maps.AppendAt
import Derived.Conc.AppendEvents2
import Derived.Laws.AppendOwn
import Derived.Conc.Neutral
set_option linter.unusedSimpArgs false
set_option linter.unusedVariables false
namespace Go.Proofs.Ytnbgfffcialfkaa
open Go Go.Conc Go.RowKit
set_option linter.unusedVariables false

/-- The map in which these links stand. -/
def ents (ls : List Lk) : List MapEntry := ls.zipIdx.map fun x => { key := lv x.1, val := .bool true, born := x.2 }
def mapO (ls : List Lk) : Obj := .map (ents ls).toArray ls.length
theorem ents_snoc (ls : List Lk) (l : Lk) : (ents ls).toArray.push { key := lv l, val := .bool true, born := ls.length } = (ents (ls ++ [l])).toArray := by
  simp [ents, List.zipIdx_append]
theorem flat_lv (l : Lk) : Flat (lv l) := .inr ⟨_, rfl, fun x hx => by
  simp at hx
  rcases hx with rfl | rfl | rfl | rfl | rfl | rfl <;> exact ⟨_, _, rfl⟩⟩
theorem eq_links (r l : Lk) (W : World) : (Op.equal 35 (lv r) (lv l)).run Try.prog W = .ok (decide (r = l)) W := by
  obtain ⟨x0, x1, x2, x3, x4, x5⟩ := r
  obtain ⟨y0, y1, y2, y3, y4, y5⟩ := l
  simp only [lv, Op.equal, Op.maxDepth]
  go_simp
  by_cases h0 : x0 = y0
  · by_cases h1 : x1 = y1
    · by_cases h2 : x2 = y2
      · by_cases h3 : x3 = y3
        · by_cases h4 : x4 = y4
          · by_cases h5 : x5 = y5
            · simp [h0, h1, h2, h3, h4, h5]
            · simp [h0, h1, h2, h3, h4, h5]
          · simp [h0, h1, h2, h3, h4]
        · simp [h0, h1, h2, h3]
      · simp [h0, h1, h2]
    · simp [h0, h1]
  · simp [h0]
theorem still_checkKey (b : Bool) : ∀ (n : Nat) (t : TypeId) (v : Value), Flat v → Still Try.prog (fun _ => True) (Instr.checkKey b n t v) := by
  intro n
  induction n with
  | zero => intros; unfold Instr.checkKey; exact trivial
  | succ n ih =>
    intro t v hv
    unfold Instr.checkKey
    refine still_bind (still_underlying t) fun desc _ => ?_
    rcases hv with ⟨k, x, rfl⟩ | ⟨xs, rfl, hxs⟩
    · cases desc <;> exact trivial
    · cases desc <;> first | exact trivial | skip
      · dsimp only
        rename_i len elem
        refine still_bind (L := fun _ => True) ?_ fun r _ => trivial
        rw [Std.Legacy.Range.forIn_eq_forIn_range']
        refine still_forIn _ (fun a b => ?_) _ _
        exact still_bind (still_size elem) fun n _ => still_bind (still_part _ _ _ hxs) fun u hu => still_bind (ih _ _ hu) fun _ _ => trivial
      · dsimp only
        refine still_bind (L := fun _ => True) ?_ fun r _ => trivial
        rw [← Array.forIn_toList]
        refine still_forIn _ (fun a b => ?_) _ _
        split
        · exact still_bind (still_part _ _ _ hxs) fun u hu => still_bind (ih _ _ hu) fun _ _ => trivial
        · exact trivial
theorem run_checkKey (b : Bool) (l : Lk) (W : World) : (Instr.checkKey b 10000 35 (lv l)).run Try.prog W = .ok () W := by
  kernel_rfl
theorem still_findAsking (k : Value) (hk : Flat k) (t : TypeId) : ∀ (es : List MapEntry) (i : Nat), (∀ e ∈ es, Flat e.key) → Still Try.prog (fun _ => True) (Instr.findAsking t k es i) := by
  intro es
  induction es with
  | nil => intro i _; unfold Instr.findAsking; exact trivial
  | cons e es ih =>
    intro i h
    unfold Instr.findAsking
    refine still_bind (L := fun _ => True) (still_equalIn _ _ _ _ hk (h e (List.mem_cons_self ..))) fun b _ => ?_
    split
    · exact trivial
    · exact ih _ fun x hx => h x (List.mem_cons_of_mem _ hx)
theorem run_findAsking (l : Lk) (W : World) : ∀ (xs : List (Lk × Nat)) (i : Nat), ∃ r, (Instr.findAsking 35 (lv l) (xs.map fun x => { key := lv x.1, val := .bool true, born := x.2 }) i).run Try.prog W = .ok r W ∧ (l ∈ xs.map (·.1) → ∃ j, r = some (j, .bool true)) ∧ (l ∉ xs.map (·.1) → r = none) := by
  intro xs
  induction xs with
  | nil => intro i; exact ⟨none, rfl, fun h => by simp at h, fun _ => rfl⟩
  | cons x xs ih =>
    intro i
    by_cases h : l = x.1
    · refine ⟨some (i, .bool true), ?_, fun _ => ⟨i, rfl⟩, fun h' => absurd (by simp [h]) h'⟩
      simp [Instr.findAsking, eq_links, h]
    · obtain ⟨r, h1, h2, h3⟩ := ih (i + 1)
      refine ⟨r, ?_, fun h' => h2 ?_, fun h' => h3 fun h4 => h' ?_⟩
      · simp [Instr.findAsking, eq_links, h]
        simpa using h1
      · simpa [h] using h'
      · simp only [List.map_cons, List.mem_cons]; exact .inr h4
theorem still_findKey (k : Value) (hk : Flat k) (es : List MapEntry) (h : ∀ e ∈ es, Flat e.key) : Still Try.prog (fun _ => True) (Instr.findKey 35 k es) := by
  unfold Instr.findKey
  refine still_bind (still_underlying _) fun d _ => ?_
  split
  · exact trivial
  · exact still_findAsking k hk _ es 0 h
theorem run_findKey (l : Lk) (ls : List Lk) (W : World) : ∃ r, (Instr.findKey 35 (lv l) (ents ls)).run Try.prog W = .ok r W ∧ (l ∈ ls → ∃ j, r = some (j, .bool true)) ∧ (l ∉ ls → r = none) := by
  have hu : ∃ fs, Try.prog.underlying 35 = some (.struct fs) := ⟨_, Try.underlying35⟩
  obtain ⟨fs, hu⟩ := hu
  have hm : ls.zipIdx.map (·.1) = ls := by
    refine List.ext_getElem? fun i => ?_
    simp only [List.getElem?_map, List.getElem?_zipIdx]
    cases ls[i]? <;> rfl
  unfold Instr.findKey
  cases ls with
  | nil => exact ⟨none, by simp [run_underlying hu, ents, Instr.findNow], fun h => by simp at h, fun _ => rfl⟩
  | cons a ls =>
    obtain ⟨r, h1, h2, h3⟩ := run_findAsking l W (a :: ls).zipIdx 0
    rw [hm] at h2 h3
    refine ⟨r, ?_, h2, h3⟩
    have hn : Instr.findNow (.struct fs) (lv l) (ents (a :: ls)) 0 = none := by simp [ents, Instr.findNow, Instr.sameNow, lv]
    simp only [Sem.run_bind, run_underlying hu, Result.andThen_ok, hn]
    exact h1
theorem flat_ents (ls : List Lk) : ∀ e ∈ ents ls, Flat e.key := fun e he => by
  obtain ⟨x, _, rfl⟩ := List.mem_map.1 he
  exact flat_lv _
/-! ### look-up and insertion -/
/-- An operation that looks at one object alone, which is known. -/
def AtObj {α : Type} (P : Program) (g : Nat) (ob : Obj) (L : α → Prop) : Sem α → Prop
  | .pure a => L a
  | .program k => AtObj P g ob L (k P)
  | .getObj r k => r = g ∧ AtObj P g ob L (k ob)
  | .setObj r _ k => r = g ∧ Still P L k
  | .halt _ => True
  | _ => False
section
variable {P : Program} {g : Nat} {ob : Obj} {α β : Type} {L : α → Prop} {L' : β → Prop}
theorem atObj_bind {e : Sem α} {f : α → Sem β} (h : AtObj P g ob L e) (hf : ∀ a, L a → Still P L' (f a)) : AtObj P g ob L' (e >>= f) := by
  have still : ∀ {e : Sem α}, Still P L e → Still P L' (e >>= f) := fun h => still_bind h hf
  change AtObj P g ob L' (e.bind f)
  have up : ∀ {γ : Type} {M : γ → Prop} {e : Sem γ}, Still P M e → AtObj P g ob M e := by
    intro γ M e h
    induction e with
    | pure a => exact h
    | program k ih => exact ih P h
    | halt x => exact trivial
    | _ => exact h.elim
  induction e with
  | pure a => exact up (hf a h)
  | program k ih => exact ih P h
  | getObj r k ih => exact ⟨h.1, ih ob h.2⟩
  | setObj r o k ih => exact ⟨h.1, still h.2⟩
  | halt x => exact trivial
  | _ => exact h.elim
theorem atObj_still {e : Sem α} (h : Still P L e) : AtObj P g ob L e := by
  induction e with
  | pure a => exact h
  | program k ih => exact ih P h
  | halt x => exact trivial
  | _ => exact h.elim
/-- .. behind what looks at no memory. -/
theorem atObj_ahead {e : Sem α} {f : α → Sem β} (h : Still P L e) (hf : ∀ a, L a → AtObj P g ob L' (f a)) : AtObj P g ob L' (e >>= f) := by
  change AtObj P g ob L' (e.bind f)
  induction e with
  | pure a => exact hf a h
  | program k ih => exact ih P h
  | halt x => exact trivial
  | _ => exact h.elim
theorem atObj_get {f : Obj → Sem β} (hf : AtObj P g ob L' (f ob)) : AtObj P g ob L' (getObj g >>= f) := ⟨rfl, hf⟩
theorem atObj_events {e : Sem α} (h : AtObj P g ob L e) : ∀ (w : World) (es : Array Event), w.heap[g]? = some ob → ∀ ev ∈ (e.runT P w es).2, ev ∈ es ∨ ev.loc = .obj g := by
  have new : ∀ (es : Array Event) (r : Array Event) (x : Event), x.loc = .obj g → (∀ ev ∈ r, ev ∈ es.push x ∨ ev.loc = .obj g) → ∀ ev ∈ r, ev ∈ es ∨ ev.loc = .obj g := by
    intro es r x hx hr ev hev
    rcases hr ev hev with h | h
    · rcases Array.mem_push.1 h with h | rfl
      · exact .inl h
      · exact .inr hx
    · exact .inr h
  induction e with
  | pure a => exact fun w es _ ev h => .inl h
  | program k ih => exact fun w es => ih P h w es
  | getObj r k ih =>
    obtain ⟨rfl, h⟩ := h
    intro w es hw
    simp only [Sem.runT, hw]
    split
    · exact fun ev h => .inl h
    · rename_i o _ ho
      cases ho
      exact new _ _ _ rfl (ih _ h _ _ hw)
    · exact fun ev h => .inl h
  | setObj r o k ih =>
    obtain ⟨rfl, h⟩ := h
    intro w es hw
    simp only [Sem.runT]
    split
    · exact fun ev h => .inl h
    · refine new _ _ ⟨.obj r, true, o.isChan⟩ rfl fun ev hev => ?_
      rw [still_events h] at hev
      exact .inl hev
    · exact fun ev h => .inl h
  | halt x => exact fun w es _ ev h => .inl h
  | _ => exact h.elim
end
theorem run_look (l : Lk) (ls : List Lk) (g : Nat) (W : World) (h : W.heap[g]? = some (mapO ls)) :
    (Instr.lookup 73 (.map (some g)) (lv l) false).run Try.prog W = .ok (.bool (decide (l ∈ ls))) W := by
  have hg : (getObj g).run Try.prog W = .ok (mapO ls) W := by simp [getObj, Sem.run, h, mapO]
  obtain ⟨r, h1, h2, h3⟩ := run_findKey l ls W
  have hz : (zeroValue 4).run Try.prog W = .ok (.bool false) W := by kernel_rfl
  have hu := Try.underlying73
  have hck := fun b => run_checkKey b l W
  unfold Instr.lookup
  by_cases hl : l ∈ ls
  · obtain ⟨j, rfl⟩ := h2 hl
    simp only [Sem.run_bind, run_underlying hu, Result.andThen_ok, hg, mapO, List.toList_toArray, hck, h1]
    simp [hl, hck, h1]
  · obtain rfl := h3 hl
    simp only [Sem.run_bind, run_underlying hu, Result.andThen_ok, hg, mapO, List.toList_toArray, hck, h1, hz]
    simp [hl, hck, h1, hz]
theorem still_noBool : Still Try.prog (fun _ => True) (zeroValue 4) := by
  have h : ∀ i : TypeInfo, Still Try.prog (fun _ => True) (match i.zero with | some v => (pure v : Sem Value) | none => unsupported (.resourceLimit "a value of more than 2^22 cells")) := fun i => by split <;> exact trivial
  unfold zeroValue
  refine still_bind (L := fun _ => True) ?_ fun i _ => h i
  unfold typeInfo
  refine still_bind (L := fun _ => True) (show Still Try.prog _ (Sem.program fun P => .pure P) from trivial) fun P _ => ?_
  split <;> exact trivial
theorem at_look (l : Lk) (ls : List Lk) (g : Nat) : AtObj Try.prog g (mapO ls) (fun _ => True) (Instr.lookup 73 (.map (some g)) (lv l) false) := by
  have hu := Try.underlying73
  unfold Instr.lookup
  refine atObj_ahead (L := fun d => d = .map 35 4) ?_ ?_
  · unfold underlying
    change Still Try.prog _ (match Try.prog.underlying 73 with | some d => pure d | none => stuck "no such type")
    rw [hu]
    exact rfl
  · rintro _ rfl
    dsimp only
    refine atObj_get ?_
    refine atObj_still ?_
    dsimp only [mapO]
    refine still_bind (L := fun es => es = (ents ls).toArray) rfl ?_
    rintro _ rfl
    refine still_bind (still_checkKey _ _ _ _ (flat_lv l)) fun _ _ => still_bind (still_findKey _ (flat_lv l) _ (by simpa using flat_ents ls)) fun r _ => ?_
    split
    · exact trivial
    · exact still_bind still_noBool fun _ _ => trivial
theorem run_put (l : Lk) (ls : List Lk) (hl : l ∉ ls) (g : Nat) (W : World) (h : W.heap[g]? = some (mapO ls)) :
    (Instr.mapUpdate 73 (.map (some g)) (lv l) (.bool true)).run Try.prog W = .ok () { W with heap := W.heap.setIfInBounds g (mapO (ls ++ [l])) } := by
  have hg : (getObj g).run Try.prog W = .ok (mapO ls) W := by simp [getObj, Sem.run, h, mapO]
  have hs : (setObj g (mapO (ls ++ [l]))).run Try.prog W = .ok () { W with heap := W.heap.setIfInBounds g (mapO (ls ++ [l])) } := by simp [setObj, Sem.run, h, mapO]
  obtain ⟨r, h1, _, h3⟩ := run_findKey l ls W
  obtain rfl := h3 hl
  have hu := Try.underlying73
  have e : Obj.map ((ents ls).toArray.push { key := lv l, val := .bool true, born := ls.length }) (ls.length + 1) = mapO (ls ++ [l]) := by
    rw [ents_snoc]; simp [mapO]
  unfold Instr.mapUpdate
  simp only [Sem.run_bind, run_underlying hu, Result.andThen_ok, hg, mapO, List.toList_toArray, run_checkKey, h1]
  rw [e]
  exact hs
theorem still_leaf {P : Program} {α : Type} {L : α → Prop} {e : Sem α} (h : Still P L e) {w w' : World} {v : α} (hr : e.run P w = .ok v w') : Still P (fun x => x = v) e := by
  induction e with
  | pure a => cases hr; exact rfl
  | program k ih => exact ih P h hr
  | halt x => exact trivial
  | _ => exact h.elim
theorem at_put (l : Lk) (ls : List Lk) (hl : l ∉ ls) (g : Nat) : AtObj Try.prog g (mapO ls) (fun _ => True) (Instr.mapUpdate 73 (.map (some g)) (lv l) (.bool true)) := by
  have hu := Try.underlying73
  unfold Instr.mapUpdate
  refine atObj_ahead (L := fun d => d = .map 35 4) ?_ ?_
  · unfold underlying
    change Still Try.prog _ (match Try.prog.underlying 73 with | some d => pure d | none => stuck "no such type")
    rw [hu]
    exact rfl
  · rintro _ rfl
    dsimp only
    refine atObj_get ?_
    dsimp only [mapO]
    refine atObj_ahead (L := fun _ => True) (still_checkKey _ _ _ _ (flat_lv l)) fun _ _ => ?_
    obtain ⟨r, h1, _, h3⟩ := run_findKey l ls default
    obtain rfl := h3 hl
    refine atObj_ahead (L := fun x => x = none) (still_leaf (still_findKey _ (flat_lv l) _ (flat_ents ls)) h1) ?_
    rintro _ rfl
    exact (show AtObj Try.prog g (mapO ls) _ (.setObj g _ _) from ⟨rfl, trivial⟩)
end Go.Proofs.Ytnbgfffcialfkaa

namespace Go.Proofs.Ytnbgfffcialfkaa
open Go Go.Conc Go.RowKit
set_option linter.unusedVariables false

/-- Links one behind another. -/
def flat (ls : List Lk) : List Value := ls.flatMap fun l => (lv l).cells.toList
/-! ### what append lists -/
/-- Entries at blocks of one's own, or neutral marks. -/
def EvIn (p : Nat → Prop) (e : Event) : Prop := (∃ k, blkOf e.loc = some k ∧ p k) ∨ ∃ m, e = ⟨.mark m, false, true⟩ ∧ Neutral m
theorem EvIn.evO {Low : Nat} {O : OwnP} {e : Event} (h : EvIn O e) : EvO Low O e := by
  rcases h with ⟨k, h1, h2⟩ | ⟨m, rfl, h2⟩
  · exact ⟨fun m h => by (rw [h] at h1; cases h1), .inr ⟨k, h1, .inr h2⟩⟩
  · exact ⟨fun m' h => by (cases h; exact h2), .inl ⟨m, rfl⟩⟩
theorem events_loadFrom {P : Program} {p : Nat → Prop} (a : Addr) (ha : p a.block) : ∀ (n i : Nat) (acc : Array Value) (w : World) (es : Array Event), (∀ j, i ≤ j → j < i + n → ∃ v, w.cell? (a.add j) = some v) →
    ∀ ev ∈ (loadCellsFrom a i n acc).events P w es, ev ∈ es ∨ EvIn p ev
  | 0, i, acc, w, es, _ => fun ev h => .inl (by simpa [loadCellsFrom] using h)
  | n + 1, i, acc, w, es, hc => fun ev h => by
    obtain ⟨v, hv⟩ := hc i (Nat.le_refl _) (by omega)
    have hr : (load (a.add i)).run P w = .ok v w := by rw [run_load]; simp [hv]
    have he : (load (a.add i)).events P w es = es.push ⟨.cell (a.add i), false, false⟩ := by rw [events_load]; simp only [hv]; rfl
    simp only [loadCellsFrom, Sem.events_bind, hr, Result.evThen_ok, he] at h
    rcases events_loadFrom a ha n (i + 1) (acc.push v) w _ (fun j h1 h2 => hc j (by omega) (by omega)) ev h with h | h
    · rcases Array.mem_push.1 h with h | rfl
      · exact .inl h
      · refine .inr (.inl ⟨_, rfl, ?_⟩)
        have : (a.add i).block = a.block := by unfold Addr.add; split <;> rfl
        rw [this]
        exact ha
    · exact .inr h
theorem events_first {P : Program} {p : Nat → Prop} (size n len cap : Nat) (a : Addr) (ha : p a.block) (w : World) (es : Array Event) (cs : List Value) (hl : cs.length = n * size) (hc : ∀ j v, cs[j]? = some v → w.cell? (a.add j) = some v) :
    ∀ ev ∈ (Builtin.firstCells size n (.slice (some a) len cap)).events P w es, ev ∈ es ∨ EvIn p ev := by
  unfold Builtin.firstCells loadCells
  refine events_loadFrom a ha _ _ _ w es fun j _ hj => ?_
  have : j < cs.length := by omega
  exact ⟨cs[j], hc j _ (List.getElem?_eq_getElem this)⟩
theorem under44 : Try.prog.underlying 44 = some (.slice 35) := Try.underlying44
theorem info35 : ∃ i, Try.prog.info? 35 = some i ∧ i.zero = some (.agg #[.int .i64 0, .int .i64 0, .int .i64 0, .int .i64 0, .int .i64 0, .int .i64 0]) ∧ i.size = 6 ∧ i.bytes = 48 := by
  have h : (Try.prog.info? 35).map (fun i => (i.zero, i.size, i.bytes)) = some (some (.agg #[.int .i64 0, .int .i64 0, .int .i64 0, .int .i64 0, .int .i64 0, .int .i64 0]), 6, 48) := by kernel_rfl
  obtain ⟨i, h1, h2⟩ := Option.map_eq_some_iff.1 h
  simp only [Prod.mk.injEq] at h2
  exact ⟨i, h1, h2.1, h2.2.1, h2.2.2⟩
theorem events_append {p : Nat → Prop} (w : World) (g n cap : Nat) (cur : Array Value) (xs : List Value) (hg : w.heap[g]? = some (.cells cur 35)) (hxs : xs.length = n * 6) (hn : n ≤ cap) (hcs : cur.size = cap * 6) (htake : cur.toList.take (n * 6) = xs) (hp : p g)
    (g2 : Nat) (c2 : Nat) (news : List Value) (hp2 : p g2) (hl : news.length = 6) (hnews : ∀ j u, news[j]? = some u → w.cell? ((⟨g2, 0, none⟩ : Addr).add j) = some u) (h1 : ∀ u ∈ news, u.oneCell' = true) (hsm : n + 1 ≤ 1000000) (ty : TypeId) :
    ∀ ev ∈ (Builtin.append_ #[44, 44] ty #[.slice (some ⟨g, 0, none⟩) n cap, .slice (some ⟨g2, 0, none⟩) 1 c2]).events Try.prog w #[], EvIn p ev := by
  obtain ⟨i, hi, hz, hsize, hby⟩ := info35
  have ht := under44
  have fin : ∀ {es : Array Event} {ev}, (∀ e ∈ es, EvIn p e) → (ev ∈ es ∨ EvIn p ev) → EvIn p ev := fun h h' => h'.elim (h _) id
  have none0 : ∀ e ∈ (#[] : Array Event), EvIn p e := by intro e he; simp at he
  intro ev hev
  by_cases hroom : n + 1 ≤ cap
  · have hfit : n * i.size + news.length ≤ cur.size := by rw [hl, hcs, hsize]; omega
    have hf := run_firstCells_some (P := Try.prog) w i.size 1 ⟨g2, 0, none⟩ 1 c2 news (by rw [hl, hsize]) hnews
    simp [Builtin.append_, run_underlying ht, sizeOf, typeInfo, hi, Builtin.lenOf, hroom, hf, Addr.add_lit] at hev
    rcases events_storeCells_at (P := Try.prog) g (n * i.size) 35 news 0 cur w _ hg (by simpa using hfit) h1 ev hev with h | ⟨ad, h2, h3⟩
    · exact fin none0 (events_first _ _ _ _ _ hp2 _ _ news (by rw [hl, hsize]) hnews ev h)
    · exact .inl ⟨ad.block, by rw [h2]; rfl, h3 ▸ hp⟩
  · have holds : ∀ j u, xs[j]? = some u → w.cell? ((⟨g, 0, none⟩ : Addr).add j) = some u := by
      intro j u hj
      have : cur[j]? = some u := by
        rw [← htake, List.getElem?_take] at hj
        split at hj
        · simpa using hj
        · cases hj
      have hb : (⟨g, 0, none⟩ : Addr).add j = ⟨g, j, none⟩ := by unfold Addr.add; split <;> simp_all
      rw [hb, cells_at hg j, this]
    have h63' : ¬ (9223372036854775807 < ((n : Int) + 1)) := by omega
    have h48' : ¬ (281474976710656 < Builtin.nextslicecap (n + 1) cap * i.bytes) := by have := growslice_fits (need := n + 1) (old := cap) (bytes := i.bytes) (by omega) (by rw [hby]; omega); omega
    have hf := run_firstCells_some (P := Try.prog) w.drew i.size 1 ⟨g2, 0, none⟩ 1 c2 news (by rw [hl, hsize]) hnews
    have hfo := run_firstCells_some (P := Try.prog) w.drew i.size n ⟨g, 0, none⟩ n cap xs (by rw [hxs, hsize]) holds
    simp [Builtin.append_, run_underlying ht, sizeOf, typeInfo, zeroValue, hi, hz, Builtin.lenOf, hroom, h63', h48', Question.forced, hf, hfo, newRow] at hev
    refine fin ?_ (events_first _ _ _ _ _ hp2 w.drew _ news (by rw [hl, hsize]) hnews ev hev)
    intro e he
    refine fin ?_ (events_first _ _ _ _ _ hp w.drew _ xs (by rw [hxs, hsize]) holds e he)
    intro e he
    exact (events_askRoom _ _ _ e he).elim (none0 e) .inr
end Go.Proofs.Ytnbgfffcialfkaa
