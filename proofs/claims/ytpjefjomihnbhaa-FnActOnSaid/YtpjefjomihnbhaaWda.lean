/-
  What the walk of the draw of ActOn's arguments wants: RunLink's answer at any text, results of two cells and a value, and what stays while acts are drawn. Conditions: the bounds that are typed.
-/
import Derived.Test.YtpjefjomihnbhaaWap
import Derived.Test.YtpjefjomihnbhaaWsa
import Derived.Test.YtpjefjomihnbhaaWan
namespace Go.Proofs.Ytpjefjomihnbhaa
open Go.RowKit
set_option linter.unusedVariables false

theorem sRL_join (n a k m : Int) (s : ByteArray) (w : World) (hs : s.size ≤ maxLen) (hp : vpB ⟨n, a, k, m⟩ = true) : Calls Try.prog 11 #[(.agg #[.int .i64 n, .int .i64 a, .int .i64 k, .int .i64 m]), .string s] w fun e w' => ∃ (l : Lk) (q : Int) (ok : Bool), e = .returned (.tuple #[lv l, .int .i64 q, .bool ok]) ∧ Below w.heap.size w w' := by
  by_cases hl : s.size ≤ 60
  · refine (sRL_yes n a k m s w hs hp hl).mono ?_
    rintro e w' ⟨rfl, hb⟩
    exact ⟨_, _, _, rfl, hb⟩
  · refine (sRL_no n a k m s w hs (.inr ⟨hp, by omega⟩)).mono ?_
    rintro e w' ⟨rfl, hb⟩
    exact ⟨⟨0, 0, 0, 0, 0, 0⟩, _, _, rfl, hb⟩
theorem results_row_cct {P : Program} {fn : Func} {p q u : Tmp} {ty ty2 : TypeId} (h : fn.results = #[.cell p ty, .cell q ty2, .tmp u]) (tmps : Array Value) (w : World) (g g2 : Nat) (t t2 : TypeId) (cs cs2 : Array Value) (fr fr2 : Nat × Nat) (d d2 : TypeDesc)
    (hp : tmps.getD p undef = .pointer (some ⟨g, 0, none⟩)) (hg : w.heap[g]? = some (.cells cs t fr))
    (hu : P.underlying ty = some d) (hd : (match d with | .struct _ | .array _ _ => true | _ => false) = true) (hi : (P.info? ty).map (·.size) = some cs.size)
    (hq : tmps.getD q undef = .pointer (some ⟨g2, 0, none⟩)) (hg2 : w.heap[g2]? = some (.cells cs2 t2 fr2))
    (hu2 : P.underlying ty2 = some d2) (hd2 : (match d2 with | .struct _ | .array _ _ => true | _ => false) = true) (hi2 : (P.info? ty2).map (·.size) = some cs2.size) :
    (results fn tmps).run P w = .ok (.tuple #[.agg cs, .agg cs2, tmps.getD u undef]) w := by
  have hp' : tmps[p]?.getD undef = .pointer (some ⟨g, 0, none⟩) := by simpa using hp
  have hq' : tmps[q]?.getD undef = .pointer (some ⟨g2, 0, none⟩) := by simpa using hq
  simp [results, h, hp', hq', asAddr, Sem.run_bind, Result.andThen, run_loadVar_row w g t ty cs fr d hg hu hd hi, run_loadVar_row w g2 t2 ty2 cs2 fr2 d2 hg2 hu2 hd2 hi2]
/-- The two places for what is answered, the plan, the link, and the reader between them. -/
structure Dao (w w' : World) (p P L : Nat) (xs ys : Array Value) : Prop where
  t : Two2 w w' #[.int .i64 0, .int .i64 0, .int .i64 0, .int .i64 0] #[.int .i64 0, .int .i64 0, .int .i64 0, .int .i64 0, .int .i64 0, .int .i64 0]
  d : Rd (w.heap.size + 2) w' (w.heap.size + 2) p
  p : Blk w' P 24 xs
  l : Blk w' L 26 ys
  hP : w.heap.size + 2 < P
  hL : P < L
theorem Dao.more {w w1 w2 : World} {p P L : Nat} {xs ys : Array Value} (h : Dao w w1 p P L xs ys) (hb : Below w1.heap.size w1 w2) : Dao w w2 p P L xs ys :=
  ⟨h.t.more hb, h.d.keep (hb.mono (by have := h.d.lt; omega)) (hb.block _ h.d.lt), h.p.below hb h.p.lt, h.l.below hb h.l.lt, h.hP, h.hL⟩
theorem Dao.alloc {w w1 : World} {p P L : Nat} {xs ys : Array Value} (h : Dao w w1 p P L xs ys) (o : Obj) : Dao w (w1.alloc o) p P L xs ys := h.more ((Below.refl _ _).alloc (Nat.le_refl _) _)
theorem Dao.drew {w w1 : World} {p P L : Nat} {xs ys : Array Value} (h : Dao w w1 p P L xs ys) : Dao w w1.drew p P L xs ys := h.more (belowDr (Below.refl _ _))
theorem Dao.keeps {w w1 w2 : World} {p p' P L : Nat} {xs ys : Array Value} (h : Dao w w1 p P L xs ys) (hk : Keeps (w.heap.size + 2) w1 w2) (hd : Rd (w.heap.size + 2) w2 (w.heap.size + 2) p') (hb : Below (w.heap.size + 2) w1 w2) : Dao w w2 p' P L xs ys :=
  ⟨⟨h.t.p.below hb (by omega), h.t.l.below hb (by omega), h.t.b.trans (hb.mono (by omega)), Nat.le_trans h.t.z hk.z⟩, hd, (hk.k P h.p.lt (by have := h.hP; omega)).trans h.p, (hk.k L h.l.lt (by have := h.hP; have := h.hL; omega)).trans h.l, h.hP, h.hL⟩
theorem Dao.picked {w w1 : World} {p P L : Nat} {xs ys : Array Value} (h : Dao w w1 p P L xs ys) (m : Nat) : Dao w (picked w1 (w.heap.size + 2) p m) (p + 1) P L xs ys :=
  h.keeps ((Keeps.refl _ _).picked) (h.d.picked m) (picked_below h.d m)
theorem Dao.setL {w w1 : World} {p P L : Nat} {xs ys : Array Value} (h : Dao w w1 p P L xs ys) (i : Nat) (u : Value) : Dao w (w1.setCell ⟨L, i, none⟩ u) p P L xs (ys.setIfInBounds i u) := by
  have hb : Below (w.heap.size + 2) w1 (w1.setCell ⟨L, i, none⟩ u) := (Below.refl _ _).setCell (p := ⟨L, i, none⟩) (by have := h.hP; have := h.hL; simp; omega) u
  have h1 := h.hP
  have h2 := h.hL
  exact ⟨⟨h.t.p.below hb (by omega), h.t.l.below hb (by omega), h.t.b.trans (hb.mono (by omega)), Nat.le_trans h.t.z hb.size⟩, h.d.keep hb (Below.heap_setCell w1 ⟨L, i, none⟩ u _ (by simp; omega)), h.p.far (p := ⟨L, i, none⟩) (by simp; omega) u, h.l.set_ i u, h1, h2⟩

/-- A block of six beyond the link. -/
structure OwnD (w' : World) (L g : Nat) : Prop where
  k : Blk w' g 26 #[.int .i64 0, .int .i64 0, .int .i64 0, .int .i64 0, .int .i64 0, .int .i64 0]
  g : L < g
theorem OwnD.new {w w1 : World} {p P L : Nat} {xs ys : Array Value} (h : Dao w w1 p P L xs ys) : OwnD (w1.alloc (.cells #[.int .i64 0, .int .i64 0, .int .i64 0, .int .i64 0, .int .i64 0, .int .i64 0] 26)) L w1.heap.size := ⟨Blk.new _ _ _, h.l.lt⟩
theorem OwnD.more {w1 w2 : World} {L g : Nat} (h : OwnD w1 L g) (hb : Below w1.heap.size w1 w2) : OwnD w2 L g := ⟨h.k.below hb h.k.lt, h.g⟩
theorem OwnD.drew {w1 : World} {L g : Nat} (h : OwnD w1 L g) : OwnD w1.drew L g := ⟨h.k.drew, h.g⟩
theorem OwnD.keeps {w1 w2 : World} {L g r : Nat} (h : OwnD w1 L g) (hk : Keeps r w1 w2) (hr : r ≠ g) : OwnD w2 L g := ⟨(hk.k g h.k.lt (Ne.symm hr)).trans h.k, h.g⟩
theorem Dao.setG {w w1 : World} {p P L g : Nat} {xs ys : Array Value} (h : Dao w w1 p P L xs ys) (hg : L < g) (i : Nat) (u : Value) : Dao w (w1.setCell ⟨g, i, none⟩ u) p P L xs ys := by
  have h1 := h.hP
  have h2 := h.hL
  have hb : Below (w.heap.size + 2) w1 (w1.setCell ⟨g, i, none⟩ u) := (Below.refl _ _).setCell (p := ⟨g, i, none⟩) (by simp; omega) u
  exact ⟨⟨h.t.p.below hb (by omega), h.t.l.below hb (by omega), h.t.b.trans (hb.mono (by omega)), Nat.le_trans h.t.z hb.size⟩, h.d.keep hb (Below.heap_setCell w1 ⟨g, i, none⟩ u _ (by simp; omega)), h.p.far (p := ⟨g, i, none⟩) (by simp; omega) u, h.l.far (p := ⟨g, i, none⟩) (by simp; omega) u, h1, h2⟩
theorem Dao.set6 {w w1 : World} {p P L g : Nat} {xs ys : Array Value} (h : Dao w w1 p P L xs ys) (hg : OwnD w1 L g) (a b c d e f : Value) :
    Dao w ((((((w1.setCell ⟨g, 0, none⟩ a).setCell ⟨g, 1, none⟩ b).setCell ⟨g, 2, none⟩ c).setCell ⟨g, 3, none⟩ d).setCell ⟨g, 4, none⟩ e).setCell ⟨g, 5, none⟩ f) p P L xs ys :=
  (((((h.setG hg.g 0 a).setG hg.g 1 b).setG hg.g 2 c).setG hg.g 3 d).setG hg.g 4 e).setG hg.g 5 f
theorem Dao.put6 {w w1 : World} {p P L : Nat} {xs : Array Value} {x0 x1 x2 x3 x4 x5 : Value} (h : Dao w w1 p P L xs #[x0, x1, x2, x3, x4, x5]) (a b c d e f : Value) :
    Dao w ((((((w1.setCell ⟨L, 0, none⟩ a).setCell ⟨L, 1, none⟩ b).setCell ⟨L, 2, none⟩ c).setCell ⟨L, 3, none⟩ d).setCell ⟨L, 4, none⟩ e).setCell ⟨L, 5, none⟩ f) p P L xs #[a, b, c, d, e, f] := by
  have := (((((h.setL 0 a).setL 1 b).setL 2 c).setL 3 d).setL 4 e).setL 5 f
  simpa using this
theorem dao_S {w w' : World} {p q P L : Nat} {x0 x1 x2 x3 : Value} {ys : Array Value} (h : Dao w w' p P L #[x0, x1, x2, x3] ys) (hp : p ≤ q) :
    (∃ p', p' ≤ q ∧ Dao w w' p' P L #[x0, x1, x2, x3] ys) ∧ w'.cell? ⟨P, 0, none⟩ = some x0 ∧ w'.cell? ⟨P, 1, none⟩ = some x1 ∧ w'.cell? ⟨P, 2, none⟩ = some x2 ∧ w'.cell? ⟨P, 3, none⟩ = some x3 :=
  ⟨⟨p, hp, h⟩, h.p.c4⟩

theorem ten_of {w' : World} {P L : Nat} {x0 x1 x2 x3 y0 y1 y2 y3 y4 y5 : Value} (hp : Blk w' P 24 #[x0, x1, x2, x3]) (hl : Blk w' L 26 #[y0, y1, y2, y3, y4, y5]) : w'.cell? ⟨P, 0, none⟩ = some x0 ∧ w'.cell? ⟨P, 1, none⟩ = some x1 ∧ w'.cell? ⟨P, 2, none⟩ = some x2 ∧ w'.cell? ⟨P, 3, none⟩ = some x3 ∧ w'.cell? ⟨L, 0, none⟩ = some y0 ∧ w'.cell? ⟨L, 1, none⟩ = some y1 ∧ w'.cell? ⟨L, 2, none⟩ = some y2 ∧ w'.cell? ⟨L, 3, none⟩ = some y3 ∧ w'.cell? ⟨L, 4, none⟩ = some y4 ∧ w'.cell? ⟨L, 5, none⟩ = some y5 := by
  obtain ⟨a, b, c, d⟩ := hp.c4
  exact ⟨a, b, c, d, hl.c6⟩
theorem Dao.ten {w w1 : World} {p P L : Nat} {x0 x1 x2 x3 y0 y1 y2 y3 y4 y5 : Value} (h : Dao w w1 p P L #[x0, x1, x2, x3] #[y0, y1, y2, y3, y4, y5]) : w1.cell? ⟨P, 0, none⟩ = some x0 ∧ w1.cell? ⟨P, 1, none⟩ = some x1 ∧ w1.cell? ⟨P, 2, none⟩ = some x2 ∧ w1.cell? ⟨P, 3, none⟩ = some x3 ∧ w1.cell? ⟨L, 0, none⟩ = some y0 ∧ w1.cell? ⟨L, 1, none⟩ = some y1 ∧ w1.cell? ⟨L, 2, none⟩ = some y2 ∧ w1.cell? ⟨L, 3, none⟩ = some y3 ∧ w1.cell? ⟨L, 4, none⟩ = some y4 ∧ w1.cell? ⟨L, 5, none⟩ = some y5 := ten_of h.p h.l
theorem Dao.ten4 {w w1 : World} {p P L : Nat} {x0 x1 x2 x3 y0 y1 y2 y3 y4 y5 : Value} (h : Dao w w1 p P L #[x0, x1, x2, x3] #[y0, y1, y2, y3, y4, y5]) (a b c d : Value) : ((((w1.setCell ⟨w.heap.size, 0, none⟩ a).setCell ⟨w.heap.size, 1, none⟩ b).setCell ⟨w.heap.size, 2, none⟩ c).setCell ⟨w.heap.size, 3, none⟩ d).cell? ⟨P, 0, none⟩ = some x0 ∧ ((((w1.setCell ⟨w.heap.size, 0, none⟩ a).setCell ⟨w.heap.size, 1, none⟩ b).setCell ⟨w.heap.size, 2, none⟩ c).setCell ⟨w.heap.size, 3, none⟩ d).cell? ⟨P, 1, none⟩ = some x1 ∧ ((((w1.setCell ⟨w.heap.size, 0, none⟩ a).setCell ⟨w.heap.size, 1, none⟩ b).setCell ⟨w.heap.size, 2, none⟩ c).setCell ⟨w.heap.size, 3, none⟩ d).cell? ⟨P, 2, none⟩ = some x2 ∧ ((((w1.setCell ⟨w.heap.size, 0, none⟩ a).setCell ⟨w.heap.size, 1, none⟩ b).setCell ⟨w.heap.size, 2, none⟩ c).setCell ⟨w.heap.size, 3, none⟩ d).cell? ⟨P, 3, none⟩ = some x3 ∧ ((((w1.setCell ⟨w.heap.size, 0, none⟩ a).setCell ⟨w.heap.size, 1, none⟩ b).setCell ⟨w.heap.size, 2, none⟩ c).setCell ⟨w.heap.size, 3, none⟩ d).cell? ⟨L, 0, none⟩ = some y0 ∧ ((((w1.setCell ⟨w.heap.size, 0, none⟩ a).setCell ⟨w.heap.size, 1, none⟩ b).setCell ⟨w.heap.size, 2, none⟩ c).setCell ⟨w.heap.size, 3, none⟩ d).cell? ⟨L, 1, none⟩ = some y1 ∧ ((((w1.setCell ⟨w.heap.size, 0, none⟩ a).setCell ⟨w.heap.size, 1, none⟩ b).setCell ⟨w.heap.size, 2, none⟩ c).setCell ⟨w.heap.size, 3, none⟩ d).cell? ⟨L, 2, none⟩ = some y2 ∧ ((((w1.setCell ⟨w.heap.size, 0, none⟩ a).setCell ⟨w.heap.size, 1, none⟩ b).setCell ⟨w.heap.size, 2, none⟩ c).setCell ⟨w.heap.size, 3, none⟩ d).cell? ⟨L, 3, none⟩ = some y3 ∧ ((((w1.setCell ⟨w.heap.size, 0, none⟩ a).setCell ⟨w.heap.size, 1, none⟩ b).setCell ⟨w.heap.size, 2, none⟩ c).setCell ⟨w.heap.size, 3, none⟩ d).cell? ⟨L, 4, none⟩ = some y4 ∧ ((((w1.setCell ⟨w.heap.size, 0, none⟩ a).setCell ⟨w.heap.size, 1, none⟩ b).setCell ⟨w.heap.size, 2, none⟩ c).setCell ⟨w.heap.size, 3, none⟩ d).cell? ⟨L, 5, none⟩ = some y5 := by
  have h1 := h.hP
  have h2 := h.hL
  exact ten_of ((((h.p.far (p := ⟨w.heap.size, 0, none⟩) (by simp; omega) a).far (p := ⟨w.heap.size, 1, none⟩) (by simp; omega) b).far (p := ⟨w.heap.size, 2, none⟩) (by simp; omega) c).far (p := ⟨w.heap.size, 3, none⟩) (by simp; omega) d)
    ((((h.l.far (p := ⟨w.heap.size, 0, none⟩) (by simp; omega) a).far (p := ⟨w.heap.size, 1, none⟩) (by simp; omega) b).far (p := ⟨w.heap.size, 2, none⟩) (by simp; omega) c).far (p := ⟨w.heap.size, 3, none⟩) (by simp; omega) d)
theorem Dao.ten46 {w w1 : World} {p P L : Nat} {x0 x1 x2 x3 y0 y1 y2 y3 y4 y5 : Value} (h : Dao w w1 p P L #[x0, x1, x2, x3] #[y0, y1, y2, y3, y4, y5]) (a b c d e0 e1 e2 e3 e4 e5 : Value) : ((((((((((w1.setCell ⟨w.heap.size, 0, none⟩ a).setCell ⟨w.heap.size, 1, none⟩ b).setCell ⟨w.heap.size, 2, none⟩ c).setCell ⟨w.heap.size, 3, none⟩ d).setCell ⟨w.heap.size + 1, 0, none⟩ e0).setCell ⟨w.heap.size + 1, 1, none⟩ e1).setCell ⟨w.heap.size + 1, 2, none⟩ e2).setCell ⟨w.heap.size + 1, 3, none⟩ e3).setCell ⟨w.heap.size + 1, 4, none⟩ e4).setCell ⟨w.heap.size + 1, 5, none⟩ e5).cell? ⟨P, 0, none⟩ = some x0 ∧ ((((((((((w1.setCell ⟨w.heap.size, 0, none⟩ a).setCell ⟨w.heap.size, 1, none⟩ b).setCell ⟨w.heap.size, 2, none⟩ c).setCell ⟨w.heap.size, 3, none⟩ d).setCell ⟨w.heap.size + 1, 0, none⟩ e0).setCell ⟨w.heap.size + 1, 1, none⟩ e1).setCell ⟨w.heap.size + 1, 2, none⟩ e2).setCell ⟨w.heap.size + 1, 3, none⟩ e3).setCell ⟨w.heap.size + 1, 4, none⟩ e4).setCell ⟨w.heap.size + 1, 5, none⟩ e5).cell? ⟨P, 1, none⟩ = some x1 ∧ ((((((((((w1.setCell ⟨w.heap.size, 0, none⟩ a).setCell ⟨w.heap.size, 1, none⟩ b).setCell ⟨w.heap.size, 2, none⟩ c).setCell ⟨w.heap.size, 3, none⟩ d).setCell ⟨w.heap.size + 1, 0, none⟩ e0).setCell ⟨w.heap.size + 1, 1, none⟩ e1).setCell ⟨w.heap.size + 1, 2, none⟩ e2).setCell ⟨w.heap.size + 1, 3, none⟩ e3).setCell ⟨w.heap.size + 1, 4, none⟩ e4).setCell ⟨w.heap.size + 1, 5, none⟩ e5).cell? ⟨P, 2, none⟩ = some x2 ∧ ((((((((((w1.setCell ⟨w.heap.size, 0, none⟩ a).setCell ⟨w.heap.size, 1, none⟩ b).setCell ⟨w.heap.size, 2, none⟩ c).setCell ⟨w.heap.size, 3, none⟩ d).setCell ⟨w.heap.size + 1, 0, none⟩ e0).setCell ⟨w.heap.size + 1, 1, none⟩ e1).setCell ⟨w.heap.size + 1, 2, none⟩ e2).setCell ⟨w.heap.size + 1, 3, none⟩ e3).setCell ⟨w.heap.size + 1, 4, none⟩ e4).setCell ⟨w.heap.size + 1, 5, none⟩ e5).cell? ⟨P, 3, none⟩ = some x3 ∧ ((((((((((w1.setCell ⟨w.heap.size, 0, none⟩ a).setCell ⟨w.heap.size, 1, none⟩ b).setCell ⟨w.heap.size, 2, none⟩ c).setCell ⟨w.heap.size, 3, none⟩ d).setCell ⟨w.heap.size + 1, 0, none⟩ e0).setCell ⟨w.heap.size + 1, 1, none⟩ e1).setCell ⟨w.heap.size + 1, 2, none⟩ e2).setCell ⟨w.heap.size + 1, 3, none⟩ e3).setCell ⟨w.heap.size + 1, 4, none⟩ e4).setCell ⟨w.heap.size + 1, 5, none⟩ e5).cell? ⟨L, 0, none⟩ = some y0 ∧ ((((((((((w1.setCell ⟨w.heap.size, 0, none⟩ a).setCell ⟨w.heap.size, 1, none⟩ b).setCell ⟨w.heap.size, 2, none⟩ c).setCell ⟨w.heap.size, 3, none⟩ d).setCell ⟨w.heap.size + 1, 0, none⟩ e0).setCell ⟨w.heap.size + 1, 1, none⟩ e1).setCell ⟨w.heap.size + 1, 2, none⟩ e2).setCell ⟨w.heap.size + 1, 3, none⟩ e3).setCell ⟨w.heap.size + 1, 4, none⟩ e4).setCell ⟨w.heap.size + 1, 5, none⟩ e5).cell? ⟨L, 1, none⟩ = some y1 ∧ ((((((((((w1.setCell ⟨w.heap.size, 0, none⟩ a).setCell ⟨w.heap.size, 1, none⟩ b).setCell ⟨w.heap.size, 2, none⟩ c).setCell ⟨w.heap.size, 3, none⟩ d).setCell ⟨w.heap.size + 1, 0, none⟩ e0).setCell ⟨w.heap.size + 1, 1, none⟩ e1).setCell ⟨w.heap.size + 1, 2, none⟩ e2).setCell ⟨w.heap.size + 1, 3, none⟩ e3).setCell ⟨w.heap.size + 1, 4, none⟩ e4).setCell ⟨w.heap.size + 1, 5, none⟩ e5).cell? ⟨L, 2, none⟩ = some y2 ∧ ((((((((((w1.setCell ⟨w.heap.size, 0, none⟩ a).setCell ⟨w.heap.size, 1, none⟩ b).setCell ⟨w.heap.size, 2, none⟩ c).setCell ⟨w.heap.size, 3, none⟩ d).setCell ⟨w.heap.size + 1, 0, none⟩ e0).setCell ⟨w.heap.size + 1, 1, none⟩ e1).setCell ⟨w.heap.size + 1, 2, none⟩ e2).setCell ⟨w.heap.size + 1, 3, none⟩ e3).setCell ⟨w.heap.size + 1, 4, none⟩ e4).setCell ⟨w.heap.size + 1, 5, none⟩ e5).cell? ⟨L, 3, none⟩ = some y3 ∧ ((((((((((w1.setCell ⟨w.heap.size, 0, none⟩ a).setCell ⟨w.heap.size, 1, none⟩ b).setCell ⟨w.heap.size, 2, none⟩ c).setCell ⟨w.heap.size, 3, none⟩ d).setCell ⟨w.heap.size + 1, 0, none⟩ e0).setCell ⟨w.heap.size + 1, 1, none⟩ e1).setCell ⟨w.heap.size + 1, 2, none⟩ e2).setCell ⟨w.heap.size + 1, 3, none⟩ e3).setCell ⟨w.heap.size + 1, 4, none⟩ e4).setCell ⟨w.heap.size + 1, 5, none⟩ e5).cell? ⟨L, 4, none⟩ = some y4 ∧ ((((((((((w1.setCell ⟨w.heap.size, 0, none⟩ a).setCell ⟨w.heap.size, 1, none⟩ b).setCell ⟨w.heap.size, 2, none⟩ c).setCell ⟨w.heap.size, 3, none⟩ d).setCell ⟨w.heap.size + 1, 0, none⟩ e0).setCell ⟨w.heap.size + 1, 1, none⟩ e1).setCell ⟨w.heap.size + 1, 2, none⟩ e2).setCell ⟨w.heap.size + 1, 3, none⟩ e3).setCell ⟨w.heap.size + 1, 4, none⟩ e4).setCell ⟨w.heap.size + 1, 5, none⟩ e5).cell? ⟨L, 5, none⟩ = some y5 := by
  have h1 := h.hP
  have h2 := h.hL
  have q1 : Blk ((((w1.setCell ⟨w.heap.size, 0, none⟩ a).setCell ⟨w.heap.size, 1, none⟩ b).setCell ⟨w.heap.size, 2, none⟩ c).setCell ⟨w.heap.size, 3, none⟩ d) P 24 #[x0, x1, x2, x3] := ((((h.p.far (p := ⟨w.heap.size, 0, none⟩) (by simp; omega) a).far (p := ⟨w.heap.size, 1, none⟩) (by simp; omega) b).far (p := ⟨w.heap.size, 2, none⟩) (by simp; omega) c).far (p := ⟨w.heap.size, 3, none⟩) (by simp; omega) d)
  have q2 : Blk ((((w1.setCell ⟨w.heap.size, 0, none⟩ a).setCell ⟨w.heap.size, 1, none⟩ b).setCell ⟨w.heap.size, 2, none⟩ c).setCell ⟨w.heap.size, 3, none⟩ d) L 26 #[y0, y1, y2, y3, y4, y5] := ((((h.l.far (p := ⟨w.heap.size, 0, none⟩) (by simp; omega) a).far (p := ⟨w.heap.size, 1, none⟩) (by simp; omega) b).far (p := ⟨w.heap.size, 2, none⟩) (by simp; omega) c).far (p := ⟨w.heap.size, 3, none⟩) (by simp; omega) d)
  exact ten_of (q1.far6 (by omega) e0 e1 e2 e3 e4 e5) (q2.far6 (by omega) e0 e1 e2 e3 e4 e5)
/-- What is answered lies in the first two blocks. -/
theorem Dao.res {w w1 : World} {p P L : Nat} {x0 x1 x2 x3 y0 y1 y2 y3 y4 y5 : Value} (h : Dao w w1 p P L #[x0, x1, x2, x3] #[y0, y1, y2, y3, y4, y5]) (a b c d e0 e1 e2 e3 e4 e5 : Value) : Blk ((((((((((w1.setCell ⟨w.heap.size, 0, none⟩ a).setCell ⟨w.heap.size, 1, none⟩ b).setCell ⟨w.heap.size, 2, none⟩ c).setCell ⟨w.heap.size, 3, none⟩ d).setCell ⟨w.heap.size + 1, 0, none⟩ e0).setCell ⟨w.heap.size + 1, 1, none⟩ e1).setCell ⟨w.heap.size + 1, 2, none⟩ e2).setCell ⟨w.heap.size + 1, 3, none⟩ e3).setCell ⟨w.heap.size + 1, 4, none⟩ e4).setCell ⟨w.heap.size + 1, 5, none⟩ e5) w.heap.size 24 #[a, b, c, d] ∧ Blk ((((((((((w1.setCell ⟨w.heap.size, 0, none⟩ a).setCell ⟨w.heap.size, 1, none⟩ b).setCell ⟨w.heap.size, 2, none⟩ c).setCell ⟨w.heap.size, 3, none⟩ d).setCell ⟨w.heap.size + 1, 0, none⟩ e0).setCell ⟨w.heap.size + 1, 1, none⟩ e1).setCell ⟨w.heap.size + 1, 2, none⟩ e2).setCell ⟨w.heap.size + 1, 3, none⟩ e3).setCell ⟨w.heap.size + 1, 4, none⟩ e4).setCell ⟨w.heap.size + 1, 5, none⟩ e5) (w.heap.size + 1) 26 #[e0, e1, e2, e3, e4, e5] ∧ Below w.heap.size w ((((((((((w1.setCell ⟨w.heap.size, 0, none⟩ a).setCell ⟨w.heap.size, 1, none⟩ b).setCell ⟨w.heap.size, 2, none⟩ c).setCell ⟨w.heap.size, 3, none⟩ d).setCell ⟨w.heap.size + 1, 0, none⟩ e0).setCell ⟨w.heap.size + 1, 1, none⟩ e1).setCell ⟨w.heap.size + 1, 2, none⟩ e2).setCell ⟨w.heap.size + 1, 3, none⟩ e3).setCell ⟨w.heap.size + 1, 4, none⟩ e4).setCell ⟨w.heap.size + 1, 5, none⟩ e5) := by
  have q1 : Blk ((((w1.setCell ⟨w.heap.size, 0, none⟩ a).setCell ⟨w.heap.size, 1, none⟩ b).setCell ⟨w.heap.size, 2, none⟩ c).setCell ⟨w.heap.size, 3, none⟩ d) w.heap.size 24 #[a, b, c, d] := by
    have := (((h.t.p.set_ 0 a).set_ 1 b).set_ 2 c).set_ 3 d
    simpa using this
  have q2 : Blk ((((w1.setCell ⟨w.heap.size, 0, none⟩ a).setCell ⟨w.heap.size, 1, none⟩ b).setCell ⟨w.heap.size, 2, none⟩ c).setCell ⟨w.heap.size, 3, none⟩ d) (w.heap.size + 1) 26 #[.int .i64 0, .int .i64 0, .int .i64 0, .int .i64 0, .int .i64 0, .int .i64 0] := ((((h.t.l.far (p := ⟨w.heap.size, 0, none⟩) (by simp) a).far (p := ⟨w.heap.size, 1, none⟩) (by simp) b).far (p := ⟨w.heap.size, 2, none⟩) (by simp) c).far (p := ⟨w.heap.size, 3, none⟩) (by simp) d)
  have q3 : Below w.heap.size w ((((w1.setCell ⟨w.heap.size, 0, none⟩ a).setCell ⟨w.heap.size, 1, none⟩ b).setCell ⟨w.heap.size, 2, none⟩ c).setCell ⟨w.heap.size, 3, none⟩ d) := (((h.t.b.setCell (p := ⟨w.heap.size, 0, none⟩) (Nat.le_refl _) a).setCell (p := ⟨w.heap.size, 1, none⟩) (Nat.le_refl _) b).setCell (p := ⟨w.heap.size, 2, none⟩) (Nat.le_refl _) c).setCell (p := ⟨w.heap.size, 3, none⟩) (Nat.le_refl _) d
  refine ⟨q1.far6 (by omega) e0 e1 e2 e3 e4 e5, q2.set6 e0 e1 e2 e3 e4 e5, ?_⟩
  exact (((((q3.setCell (p := ⟨w.heap.size + 1, 0, none⟩) (by simp) e0).setCell (p := ⟨w.heap.size + 1, 1, none⟩) (by simp) e1).setCell (p := ⟨w.heap.size + 1, 2, none⟩) (by simp) e2).setCell (p := ⟨w.heap.size + 1, 3, none⟩) (by simp) e3).setCell (p := ⟨w.heap.size + 1, 4, none⟩) (by simp) e4).setCell (p := ⟨w.heap.size + 1, 5, none⟩) (by simp) e5
theorem byte_of_nine {x : ByteArray} (hx : x ∈ [(⟨#[115]⟩ : ByteArray), ⟨#[48]⟩, ⟨#[100]⟩, ⟨#[120]⟩, ⟨#[97]⟩, ⟨#[121]⟩, ⟨#[49]⟩, ⟨#[122]⟩, ⟨#[57]⟩]) : ∃ c : UInt8, x = ⟨#[c]⟩ := by
  simp only [List.mem_cons, List.not_mem_nil, or_false] at hx
  rcases hx with rfl | rfl | rfl | rfl | rfl | rfl | rfl | rfl | rfl <;> exact ⟨_, rfl⟩
theorem of9 {w w1 : World} {p P L : Nat} {xs ys : Array Value} (h : Dao w w1 p P L xs ys) (hp : p ≤ 1000000) :
    Calls Try.prog 15 #[.pointer (some ⟨w.heap.size + 2, 0, none⟩), .slice (some ⟨w1.heap.size, 0, none⟩) 9 9] ((w1.alloc (.cells #[.string ⟨#[115]⟩, .string ⟨#[48]⟩, .string ⟨#[100]⟩, .string ⟨#[120]⟩, .string ⟨#[97]⟩, .string ⟨#[121]⟩, .string ⟨#[49]⟩, .string ⟨#[122]⟩, .string ⟨#[57]⟩] 9)).drew)
      fun e w' => ∃ c : UInt8, e = .returned (.string ⟨#[c]⟩) ∧ Dao w w' (p + 1) P L xs ys := by
  refine (of_any (Dao.d (Dao.drew (Dao.alloc h _))) hp w1.heap.size 9 9 [⟨#[115]⟩, ⟨#[48]⟩, ⟨#[100]⟩, ⟨#[120]⟩, ⟨#[97]⟩, ⟨#[121]⟩, ⟨#[49]⟩, ⟨#[122]⟩, ⟨#[57]⟩] rfl (by omega) (by omega) (by have := h.d.lt; omega) (new_strs w1 [⟨#[115]⟩, ⟨#[48]⟩, ⟨#[100]⟩, ⟨#[120]⟩, ⟨#[97]⟩, ⟨#[121]⟩, ⟨#[49]⟩, ⟨#[122]⟩, ⟨#[57]⟩] _)).mono ?_
  rintro e w8 ⟨x, m8, rfl, hx, hw8⟩
  obtain ⟨c, rfl⟩ := byte_of_nine hx
  exact ⟨c, rfl, by rw [hw8]; exact (Dao.drew (Dao.alloc h _)).picked m8⟩

set_option maxRecDepth 20000 in
set_option maxHeartbeats 6400000 in
theorem da_any (w : World) (a : Option Addr) (len cap : Nat) (zs : List Int) (h : IsRow .u8 w a len cap zs) :
    Calls Try.prog 4 #[.slice a len cap] w (DaPost w) := by
  have H := Lib.hid (fun o1 o2 => nr_any ((w.alloc o1).alloc o2) a len cap zs (isRow_alloc (isRow_alloc h o1) o2))
  clear h
  go_enter Try.func4, Try.ntmps4
  go_wp2_with fail
  refine (H.out _ _).mono ?_
  rintro e w1 ⟨rfl, hr, hb, hz⟩
  have HT := Lib.hid ((Two2.new w #[.int .i64 0, .int .i64 0, .int .i64 0, .int .i64 0] #[.int .i64 0, .int .i64 0, .int .i64 0, .int .i64 0, .int .i64 0, .int .i64 0]).more hb)
  have HR : Hid (Rd (w.heap.size + 2) w1 (w.heap.size + 2) 0) := Lib.hid (by simpa using hr)
  clear H hr hb hz
  go_wp2_with fail
  refine (ap_any HR.out (by omega)).mono ?_
  rintro e w2 ⟨n, a', k, m, p2, rfl, bd, hr2, hp2, hb2⟩
  have hz2 : w.heap.size + 2 < w2.heap.size := hr2.lt
  have HD : Hid (Dao w (((w2.alloc (.cells #[.int .i64 n, .int .i64 a', .int .i64 k, .int .i64 m] 24)).alloc (.cells #[.int .i64 0, .int .i64 0, .int .i64 0, .int .i64 0, .int .i64 (-1), .int .i64 (-1)] 26)).alloc (.cells #[.int .i64 0, .int .i64 0, .int .i64 0, .int .i64 0, .int .i64 (-1), .int .i64 (-1)] 26)) p2 w2.heap.size (w2.heap.size + 1 + 1) #[.int .i64 n, .int .i64 a', .int .i64 k, .int .i64 m] #[.int .i64 0, .int .i64 0, .int .i64 0, .int .i64 0, .int .i64 (-1), .int .i64 (-1)]) := Lib.hid (
    ⟨⟨(((HT.out.p.below hb2 (by omega)).alloc _).alloc _).alloc _, (((HT.out.l.below hb2 (by omega)).alloc _).alloc _).alloc _, (((HT.out.b.trans (hb2.mono (by omega))).alloc (by omega) _).alloc (by simp; omega) _).alloc (by simp; omega) _, by simp; omega⟩, ((hr2.alloc _).alloc _).alloc _, ((Blk.new _ _ _).alloc _).alloc _, by have := Blk.new ((w2.alloc (.cells #[.int .i64 n, .int .i64 a', .int .i64 k, .int .i64 m] 24)).alloc (.cells #[.int .i64 0, .int .i64 0, .int .i64 0, .int .i64 0, .int .i64 (-1), .int .i64 (-1)] 26)) 26 #[.int .i64 0, .int .i64 0, .int .i64 0, .int .i64 0, .int .i64 (-1), .int .i64 (-1)]; simpa using this, hz2, by omega⟩)
  clear HT HR bd hr2 hb2
  go_wp2_with fail
  refine (sst_any _).mono ?_
  rintro e w3 ⟨rfl, rfl⟩
  go_upto_region 4 with fail
  generalize (((w2.alloc (.cells #[.int .i64 n, .int .i64 a', .int .i64 k, .int .i64 m] 24)).alloc (.cells #[.int .i64 0, .int .i64 0, .int .i64 0, .int .i64 0, .int .i64 (-1), .int .i64 (-1)] 26)).alloc (.cells #[.int .i64 0, .int .i64 0, .int .i64 0, .int .i64 0, .int .i64 (-1), .int .i64 (-1)] 26)) = v3 at *
  obtain ⟨P, hPP⟩ : ∃ P, P = w2.heap.size := ⟨_, rfl⟩
  obtain ⟨L, hLL⟩ : ∃ L, L = w2.heap.size + 1 + 1 := ⟨_, rfl⟩
  rw [← hLL, ← hPP] at HD
  rw [← hLL, ← hPP, show w.heap.size + 1 + 1 = w.heap.size + 2 from rfl]
  clear hPP hLL
  obtain ⟨p0, p1, p2', p3⟩ := HD.out.p.c4
  go_wp2_with fail
  refine (svp_any n a' k m _).mono ?_
  rintro e w4 ⟨rfl, hb4⟩
  have HD4 := Lib.hid (HD.out.more hb4)
  have hp24 : p2 ≤ 24 := by omega
  clear hb4 p0 p1 p2' p3 HD hp2
  have HRL := Lib.hid (fun (s : ByteArray) (W : World) (hs : s.size ≤ maxLen) => fun hv => sRL_join n a' k m s W hs hv)
  go_upto_if 17 with fail
  go_cut [] from 8 (fun wx => ∃ (kn s d h da wo : Int) (p' : Nat), p' ≤ p2 + 31 ∧ Dao w wx p' P L #[.int .i64 n, .int .i64 a', .int .i64 k, .int .i64 m] #[.int .i64 kn, .int .i64 s, .int .i64 d, .int .i64 h, .int .i64 da, .int .i64 wo])
  case first =>
    cases hv : vpB ⟨n, a', k, m⟩
    · clear HRL
      go_wp2
      go_meet
      case rel => exact ⟨0, 0, 0, 0, -1, -1, p2, by omega, HD4.out⟩
    · replace HRL := Lib.hid (fun s W hs => HRL.out s W hs hv)
      unfold lv at HRL
      clear hv
      go_upto_region 5 with fail
      go_cut [8, 10] from 11 (fun s8 s10 wx => ∃ (g : Nat) (rr : Lk) (ok : Bool) (p' : Nat), s8 = .pointer (some ⟨g, 0, none⟩) ∧ s10 = .bool ok ∧ Blk wx g 26 #[.int .i64 rr.kn, .int .i64 rr.s, .int .i64 rr.d, .int .i64 rr.h, .int .i64 rr.da, .int .i64 rr.wo] ∧ L < g ∧ p' ≤ p2 + 31 ∧ Dao w wx p' P L #[.int .i64 n, .int .i64 a', .int .i64 k, .int .i64 m] #[.int .i64 0, .int .i64 0, .int .i64 0, .int .i64 0, .int .i64 (-1), .int .i64 (-1)])
      case first =>
        have hT' := HD4.out
        have hp' : p2 ≤ p2 := Nat.le_refl _
        obtain ⟨p0, p1, p2', p3⟩ := hT'.p.c4
        go_region_held3 (fun w' => (∃ p', p' ≤ p2 + 31 ∧ Dao w w' p' P L #[.int .i64 n, .int .i64 a', .int .i64 k, .int .i64 m] #[.int .i64 0, .int .i64 0, .int .i64 0, .int .i64 0, .int .i64 (-1), .int .i64 (-1)]) ∧ w'.cell? ⟨P, 0, none⟩ = some (.int .i64 n) ∧ w'.cell? ⟨P, 1, none⟩ = some (.int .i64 a') ∧ w'.cell? ⟨P, 2, none⟩ = some (.int .i64 k) ∧ w'.cell? ⟨P, 3, none⟩ = some (.int .i64 m))
          (first
            | (with_reducible exact dao_S hT' (by omega))
            | (with_reducible exact dao_S (Dao.drew hT') (by omega))
            | (with_reducible exact dao_S (Dao.drew (Dao.alloc hT' _)) (by omega))
            | (with_reducible exact dao_S (Dao.alloc hT' _) (by omega))
            | (with_reducible exact dao_S (Dao.set6 (Dao.drew hT') (OwnD.drew hO) _ _ _ _ _ _) (by omega))
            | (with_reducible exact dao_S (Dao.set6 hT' hO _ _ _ _ _ _) (by omega))
            | fail)
          (first
            | (go_at_call 12; with_reducible refine (sa_any (Dao.d hT') (by omega)).mono ?_; rintro e w' ⟨t, p', rfl, ht, hd, hpp, hbb, hkk⟩; (try have hO := OwnD.keeps hO hkk (by have := hT'.hP; have := hT'.hL; have := hO.g; omega)); have hT' := Dao.keeps hT' hkk hd hbb)
            | (go_at_call 12; with_reducible refine (sa_any (Dao.d (Dao.drew hT')) (by omega)).mono ?_; rintro e w' ⟨t, p', rfl, ht, hd, hpp, hbb, hkk⟩; (try have hO := OwnD.keeps (OwnD.drew hO) hkk (by have := hT'.hP; have := hT'.hL; have := hO.g; omega)); have hT' := Dao.keeps (Dao.drew hT') hkk hd hbb)
            | (go_at_call 12; with_reducible refine (sa_any (Dao.d (Dao.alloc hT' (.cells #[.int .i64 0, .int .i64 0, .int .i64 0, .int .i64 0, .int .i64 0, .int .i64 0] 26))) (by omega)).mono ?_; rintro e w' ⟨t, p', rfl, ht, hd, hpp, hbb, hkk⟩; (have hO := OwnD.keeps (OwnD.new hT') hkk (by have := hT'.hP; have := hT'.hL; have := hT'.l.lt; omega)); have hT' := Dao.keeps (Dao.alloc hT' (.cells #[.int .i64 0, .int .i64 0, .int .i64 0, .int .i64 0, .int .i64 0, .int .i64 0] 26)) hkk hd hbb)
            | (go_at_call 12; with_reducible refine (sa_any (Dao.d (Dao.drew (Dao.alloc hT' (.cells #[.int .i64 0, .int .i64 0, .int .i64 0, .int .i64 0, .int .i64 0, .int .i64 0] 26)))) (by omega)).mono ?_; rintro e w' ⟨t, p', rfl, ht, hd, hpp, hbb, hkk⟩; (have hO := OwnD.keeps (OwnD.drew (OwnD.new hT')) hkk (by have := hT'.hP; have := hT'.hL; have := hT'.l.lt; omega)); have hT' := Dao.keeps (Dao.drew (Dao.alloc hT' (.cells #[.int .i64 0, .int .i64 0, .int .i64 0, .int .i64 0, .int .i64 0, .int .i64 0] 26))) hkk hd hbb)
            | (go_at_call 11; with_reducible refine (HRL.out _ _ (by unfold maxLen; omega)).mono ?_; rintro e w' ⟨rr, q, ok, rfl, hbb⟩; with_reducible have hT'' := Dao.more hT' hbb; (try have hO := OwnD.more hO hbb); (have hT' := hT''); (clear hT''); (try (obtain ⟨o0, o1, o2, o3, o4, o5⟩ := hO.k.c6; obtain ⟨z0, z1, z2, z3, z4, z5⟩ := hO.k.f6)))
            | (go_at_call 11; with_reducible refine (HRL.out _ _ (by unfold maxLen; omega)).mono ?_; rintro e w' ⟨rr, q, ok, rfl, hbb⟩; with_reducible have hT'' := Dao.more (Dao.drew hT') hbb; (try have hO := OwnD.more (OwnD.drew hO) hbb); (have hT' := hT''); (clear hT''); (try (obtain ⟨o0, o1, o2, o3, o4, o5⟩ := hO.k.c6; obtain ⟨z0, z1, z2, z3, z4, z5⟩ := hO.k.f6)))
            | (go_at_call 11; with_reducible refine (HRL.out _ _ (by unfold maxLen; omega)).mono ?_; rintro e w' ⟨rr, q, ok, rfl, hbb⟩; with_reducible have hT'' := Dao.more (Dao.alloc hT' (.cells #[.int .i64 0, .int .i64 0, .int .i64 0, .int .i64 0, .int .i64 0, .int .i64 0] 26)) hbb; (have hO := OwnD.more (OwnD.new hT') hbb); (have hT' := hT''); (clear hT''); (try (obtain ⟨o0, o1, o2, o3, o4, o5⟩ := hO.k.c6; obtain ⟨z0, z1, z2, z3, z4, z5⟩ := hO.k.f6)))
            | (go_at_call 11; with_reducible refine (HRL.out _ _ (by unfold maxLen; omega)).mono ?_; rintro e w' ⟨rr, q, ok, rfl, hbb⟩; with_reducible have hT'' := Dao.more (Dao.drew (Dao.alloc hT' (.cells #[.int .i64 0, .int .i64 0, .int .i64 0, .int .i64 0, .int .i64 0, .int .i64 0] 26))) hbb; (have hO := OwnD.more (OwnD.drew (OwnD.new hT')) hbb); (have hT' := hT''); (clear hT''); (try (obtain ⟨o0, o1, o2, o3, o4, o5⟩ := hO.k.c6; obtain ⟨z0, z1, z2, z3, z4, z5⟩ := hO.k.f6))))
        all_goals
          go_wp2_with fail
          go_meet
          refine ⟨_, rr, ok, _, rfl, rfl, ?_, ?_, hpp, ?_⟩
          · first | (with_reducible exact Blk.set6 hO.k _ _ _ _ _ _) | (with_reducible exact Blk.drew (Blk.set6 hO.k _ _ _ _ _ _)) | (with_reducible exact Blk.new _ _ _) | (with_reducible exact Blk.drew (Blk.new _ _ _)) | fail
          · first | exact hO.g | exact hT'.l.lt
          · first | (with_reducible exact Dao.set6 hT' hO _ _ _ _ _ _) | (with_reducible exact Dao.drew (Dao.set6 hT' hO _ _ _ _ _ _)) | (with_reducible exact Dao.alloc hT' _) | (with_reducible exact Dao.drew (Dao.alloc hT' _)) | fail
      case rest =>
        obtain ⟨g, rr, ok, p', rfl, rfl, hB, hLg, hp', hD⟩ := hcut
        obtain ⟨x0, x1, x2, x3, x4, x5⟩ := hB.c6
        obtain ⟨f0, f1, f2, f3, f4, f5⟩ := hD.l.f6
        obtain ⟨l0, l1, l2, l3, l4, l5⟩ := hD.l.c6
        have HDD := Lib.hid hD
        clear hD
        cases ok
        · go_wp2
          go_meet
          case rel => exact ⟨_, _, _, _, _, _, p', hp', HDD.out⟩
        · go_wp2
          go_meet
          case rel => exact ⟨_, _, _, _, _, _, p', hp', HDD.out.put6 _ _ _ _ _ _⟩
  case rest =>
    obtain ⟨kn, sn, du, he, da, wo, p3, hp3, hD⟩ := hcut
    have HD := Lib.hid hD
    clear hD HD4 HRL
    apply_assumption
    refine wp_seq_k (fun K8 hK8 => ?_)
    go_cut [] from 8 (fun wx => ∃ (kn s d h da wo : Int) (p' : Nat), p' ≤ p2 + 34 ∧ Dao w wx p' P L #[.int .i64 n, .int .i64 a', .int .i64 k, .int .i64 m] #[.int .i64 kn, .int .i64 s, .int .i64 d, .int .i64 h, .int .i64 da, .int .i64 wo])
    case first =>
      go_upto_region 8 with fail
      go_wp2_with fail
      refine (pick_any HD.out.d (by omega) 12 (by omega) (by omega)).mono ?_
      rintro e w5 ⟨r, mm, rfl, hr, hw5⟩
      have HD5 : Hid (Dao w w5 (p3 + 1) P L #[.int .i64 n, .int .i64 a', .int .i64 k, .int .i64 m] #[.int .i64 kn, .int .i64 sn, .int .i64 du, .int .i64 he, .int .i64 da, .int .i64 wo]) := Lib.hid (by rw [hw5]; exact HD.out.picked mm)
      clear hw5 HD
      by_cases hr0 : r = 0
      · subst hr0
        go_wp2_with fail
        refine (one_any (HD5.out.d.alloc _) (by omega) w5.heap.size 4 4 [1, 2, 4, -1] rfl (by omega) (by omega) (by have := HD5.out.d.lt; omega) (new_ints w5 [1, 2, 4, -1] _)).mono ?_
        rintro e w6 ⟨x, m6, rfl, hx, hw6⟩
        have hD6 : Dao w w6 (p3 + 1 + 1) P L #[.int .i64 n, .int .i64 a', .int .i64 k, .int .i64 m] #[.int .i64 kn, .int .i64 sn, .int .i64 du, .int .i64 he, .int .i64 da, .int .i64 wo] := by rw [hw6]; exact (HD5.out.alloc _).picked m6
        obtain ⟨l0, l1, l2, l3, l4, l5⟩ := hD6.l.c6
        obtain ⟨f0, f1, f2, f3, f4, f5⟩ := hD6.l.f6
        have HD6 := Lib.hid hD6
        clear hw6 hD6 hx
        go_wp2
        go_meet
        case rel => exact ⟨kn, sn, du, x, da, wo, p3 + 1 + 1, by omega, by have := HD6.out.setL 3 (.int .i64 x); simpa using this⟩
      · have hr1 : ((r : Int) == 0) = false := beq_eq_false_iff_ne.2 (by omega)
        by_cases hr2 : r = 1
        · subst hr2
          go_wp2_with fail
          refine (one_any (HD5.out.d.alloc _) (by omega) w5.heap.size 4 4 [0, 1, 5, -2] rfl (by omega) (by omega) (by have := HD5.out.d.lt; omega) (new_ints w5 [0, 1, 5, -2] _)).mono ?_
          rintro e w6 ⟨x, m6, rfl, hx, hw6⟩
          have hD6 : Dao w w6 (p3 + 1 + 1) P L #[.int .i64 n, .int .i64 a', .int .i64 k, .int .i64 m] #[.int .i64 kn, .int .i64 sn, .int .i64 du, .int .i64 he, .int .i64 da, .int .i64 wo] := by rw [hw6]; exact (HD5.out.alloc _).picked m6
          obtain ⟨l0, l1, l2, l3, l4, l5⟩ := hD6.l.c6
          obtain ⟨f0, f1, f2, f3, f4, f5⟩ := hD6.l.f6
          have HD6 := Lib.hid hD6
          clear hw6 hD6 hx
          go_wp2
          go_meet
          case rel => exact ⟨kn, sn, du, he, x, wo, p3 + 1 + 1, by omega, by have := HD6.out.setL 4 (.int .i64 x); simpa using this⟩
        · have hr3 : ((r : Int) == 1) = false := beq_eq_false_iff_ne.2 (by omega)
          clear hr0 hr2
          go_wp2
          go_meet
          case rel => exact ⟨kn, sn, du, he, da, wo, p3 + 1, by omega, HD5.out⟩
    case rest =>
      obtain ⟨kn, sn, du, he, da, wo, p5, hp5, hD⟩ := hcut
      have HD7 := Lib.hid hD
      obtain ⟨p0, p1, p2', p3'⟩ := hD.p.c4
      obtain ⟨l0, l1, l2, l3, l4, l5⟩ := hD.l.c6
      clear hD HD
      refine hK8 _ _ ?_
      go_upto_region 13 with fail
      have hT' := HD7.out
      clear HD7
      go_region_held3 (fun w' => w'.cell? ⟨P, 0, none⟩ = some (.int .i64 n) ∧ w'.cell? ⟨P, 1, none⟩ = some (.int .i64 a') ∧ w'.cell? ⟨P, 2, none⟩ = some (.int .i64 k) ∧ w'.cell? ⟨P, 3, none⟩ = some (.int .i64 m) ∧ w'.cell? ⟨L, 0, none⟩ = some (.int .i64 kn) ∧ w'.cell? ⟨L, 1, none⟩ = some (.int .i64 sn) ∧ w'.cell? ⟨L, 2, none⟩ = some (.int .i64 du) ∧ w'.cell? ⟨L, 3, none⟩ = some (.int .i64 he) ∧ w'.cell? ⟨L, 4, none⟩ = some (.int .i64 da) ∧ w'.cell? ⟨L, 5, none⟩ = some (.int .i64 wo))
        (first
          | (with_reducible exact Dao.ten46 hT' (.int .i64 n) (.int .i64 a') (.int .i64 k) (.int .i64 m) (.int .i64 kn) (.int .i64 sn) (.int .i64 du) (.int .i64 he) (.int .i64 da) (.int .i64 wo))
          | (with_reducible exact Dao.ten4 hT' (.int .i64 n) (.int .i64 a') (.int .i64 k) (.int .i64 m))
          | (with_reducible exact Dao.ten hT')
          | (with_reducible exact Dao.ten (Dao.drew hT'))
          | (with_reducible exact Dao.ten (Dao.drew (Dao.alloc hT' _)))
          | (with_reducible exact Dao.ten (Dao.alloc hT' _))
          | fail)
        (first
          | (go_at_call 15; with_reducible refine (of9 hT' (by omega)).mono ?_; rintro e w8 ⟨c, rfl, hT8⟩; (have hT' := hT8); (clear hT8); (obtain ⟨o0, o1, o2, o3⟩ := hT'.t.p.c4); (have g0 := hT'.t.p.frozen 0); (have g1 := hT'.t.p.frozen 1); (have g2 := hT'.t.p.frozen 2); (have g3 := hT'.t.p.frozen 3); (obtain ⟨q0, q1, q2, q3, q4, q5⟩ := hT'.t.l.c6); (obtain ⟨r0, r1, r2, r3, r4, r5⟩ := hT'.t.l.f6)))
      all_goals
        obtain ⟨b1, b2, b3⟩ := Dao.res hT' (.int .i64 n) (.int .i64 a') (.int .i64 k) (.int .i64 m) (.int .i64 kn) (.int .i64 sn) (.int .i64 du) (.int .i64 he) (.int .i64 da) (.int .i64 wo)
        have hc := c.toNat_lt
        go_wp2_with fail
        exact bodyPost_ret (results_row_cct (p := 2) (q := 3) (u := 4) (ty := 24) (ty2 := 26) rfl _ _ w.heap.size (w.heap.size + 1) 24 26 #[.int .i64 n, .int .i64 a', .int .i64 k, .int .i64 m] #[.int .i64 kn, .int .i64 sn, .int .i64 du, .int .i64 he, .int .i64 da, .int .i64 wo] (0, 0) (0, 0) _ _ rfl b1 Try.underlying24 rfl (by kernel_rfl) rfl b2 Try.underlying26 rfl (by kernel_rfl)) rfl ⟨n, a', k, m, kn, sn, du, he, da, wo, c.toNat, rfl, by omega, b3⟩
end Go.Proofs.Ytpjefjomihnbhaa
