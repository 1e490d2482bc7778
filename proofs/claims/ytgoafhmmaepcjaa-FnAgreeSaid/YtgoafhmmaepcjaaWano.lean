/-
  The state of the walk of what draws an offer. Conditions: where the reader lies.
-/
import Derived.Test.YtgoafhmmaepcjaaWsag
import Derived.Test.YtgoafhmmaepcjaaWkp
import Derived.Deep.RegionLaw
import Derived.Deep.Cut
namespace Go.Proofs.Ytgoafhmmaepcjaa
open Go.RowKit
set_option linter.unusedVariables false

/-- The block of an offer. -/
def ob (lo hi ca : Int) (v : Value) : Array Value := #[.int .i64 lo, .int .i64 hi, .int .i64 ca, v]
/-- Where the walk stands: the reader, the two offers in memory of the call's own, and the row of needs. -/
structure Ao (B : Nat) (w0 : World) (g q2 q3 : Nat) (w : World) (lo hi ca : Int) (v : Value) (xs : List Int) (p : Nat) : Prop where
  rd : Rd B w g p
  bk : BK B g w0 w
  z2 : Blk w q2 34 (ob 0 0 0 (.slice none 0 0))
  z3 : Blk w q3 34 (ob lo hi ca v)
  own : OwnL w w0.heap.size v xs
  l2 : w0.heap.size ≤ q2
  l3 : w0.heap.size ≤ q3
  ne : q2 ≠ q3
  gl : g < w0.heap.size
theorem Ao.keep {B : Nat} {w0 : World} {g q2 q3 : Nat} {w w' : World} {lo hi ca : Int} {v : Value} {xs : List Int} {p p' : Nat} (h : Ao B w0 g q2 q3 w lo hi ca v xs p) (hr : Rd B w' g p') (hb : BK B g w0 w') (hk : Keeps g w w') : Ao B w0 g q2 q3 w' lo hi ca v xs p' :=
  ⟨hr, hb, (hk.k q2 (Array.getElem?_eq_some_iff.1 h.z2).1 (by have := h.l2; have := h.gl; omega)).trans h.z2, (hk.k q3 (Array.getElem?_eq_some_iff.1 h.z3).1 (by have := h.l3; have := h.gl; omega)).trans h.z3, h.own.keeps hk h.gl, h.l2, h.l3, h.ne, h.gl⟩
theorem Ao.picked {B : Nat} {w0 : World} {g q2 q3 : Nat} {w : World} {lo hi ca : Int} {v : Value} {xs : List Int} {p : Nat} (h : Ao B w0 g q2 q3 w lo hi ca v xs p) (m : Nat) : Ao B w0 g q2 q3 (picked w g p m) lo hi ca v xs (p + 1) :=
  h.keep (h.rd.picked m) (h.bk.picked h.rd m) (Keeps.refl g w).picked
theorem Ao.alloc {B : Nat} {w0 : World} {g q2 q3 : Nat} {w : World} {lo hi ca : Int} {v : Value} {xs : List Int} {p : Nat} (h : Ao B w0 g q2 q3 w lo hi ca v xs p) (o : Obj) : Ao B w0 g q2 q3 (w.alloc o) lo hi ca v xs p :=
  h.keep (h.rd.alloc o) (h.bk.alloc o) ((Keeps.refl g w).alloc o)
theorem Ao.drewN {B : Nat} {w0 : World} {g q2 q3 : Nat} {w : World} {lo hi ca : Int} {v : Value} {xs : List Int} {p : Nat} (h : Ao B w0 g q2 q3 w lo hi ca v xs p) (n : Nat) : Ao B w0 g q2 q3 (w.drewN n) lo hi ca v xs p :=
  h.keep h.rd (h.bk.drewN n) ((Keeps.refl g w).drewN n)
theorem Ao.drew {B : Nat} {w0 : World} {g q2 q3 : Nat} {w : World} {lo hi ca : Int} {v : Value} {xs : List Int} {p : Nat} (h : Ao B w0 g q2 q3 w lo hi ca v xs p) : Ao B w0 g q2 q3 w.drew lo hi ca v xs p := h.drewN 1
theorem own_not {w : World} {W0 q : Nat} {v : Value} {xs : List Int} {cs : Array Value} (h : OwnL w W0 v xs) (hq : Blk w q 34 cs) : v.ownBlock ≠ some q := by
  rcases h.2 with ⟨rfl, _⟩ | ⟨g, cap, cur, rfl, _, hg, _⟩
  · intro e; cases e
  · intro e
    have e' : g = q := by simpa [Value.ownBlock] using e
    subst e'
    have := hg.symm.trans hq
    injection this with this
    injection this with _ h2 _
    exact absurd h2 (by decide)
theorem grown_cell {w : World} {q i : Nat} {u : Value} : w.grownBy (w.setCell ⟨q, i, none⟩ u) (some q) :=
  ⟨rfl, rfl, rfl, by simp [World.setCell], fun j hj hn => Below.heap_setCell w ⟨q, i, none⟩ u j (fun e => hn (by rw [e]))⟩
theorem Ao.c3 {B : Nat} {w0 : World} {g q2 q3 : Nat} {w : World} {lo hi ca : Int} {v : Value} {xs : List Int} {p : Nat} (h : Ao B w0 g q2 q3 w lo hi ca v xs p) :
    w.cell? ⟨q3, 0, none⟩ = some (.int .i64 lo) ∧ w.cell? ⟨q3, 1, none⟩ = some (.int .i64 hi) ∧ w.cell? ⟨q3, 2, none⟩ = some (.int .i64 ca) ∧ w.cell? ⟨q3, 3, none⟩ = some v ∧ ∀ i, w.frozen? ⟨q3, i, none⟩ = false :=
  ⟨h.z3.cell 0, h.z3.cell 1, h.z3.cell 2, h.z3.cell 3, fun i => h.z3.frozen i⟩
theorem rd_set {B : Nat} {w : World} {g p q i : Nat} {u : Value} (h : Rd B w g p) (hq : B ≤ q) (hg : q ≠ g) : Rd B (w.setCell ⟨q, i, none⟩ u) g p :=
  h.keep ((Below.refl B w).setCell (p := ⟨q, i, none⟩) hq u) (Below.heap_setCell w ⟨q, i, none⟩ u g (fun e => hg e.symm))
theorem blk_set_other {w : World} {q q' i : Nat} {t : TypeId} {cs : Array Value} {u : Value} (h : Blk w q t cs) (hne : q ≠ q') : Blk (w.setCell ⟨q', i, none⟩ u) q t cs :=
  (Below.heap_setCell w ⟨q', i, none⟩ u q hne).trans h
/-- A number of the offer is set. -/
theorem Ao.setN {B : Nat} {w0 : World} {g q2 q3 : Nat} {w : World} {lo hi ca : Int} {v : Value} {xs : List Int} {p : Nat} (h : Ao B w0 g q2 q3 w lo hi ca v xs p) (i : Nat) (x : Int) (lo' hi' ca' : Int) (he : (ob lo hi ca v).setIfInBounds i (.int .i64 x) = ob lo' hi' ca' v) : Ao B w0 g q2 q3 (w.setCell ⟨q3, i, none⟩ (.int .i64 x)) lo' hi' ca' v xs p := by
  have hs := h.bk.s
  refine ⟨rd_set h.rd (by have := h.l3; omega) (by have := h.l3; have := h.gl; omega), h.bk.grown grown_cell (fun j hj => by cases hj; exact h.l3), blk_set_other h.z2 h.ne, ?_, World.ownsRow.kept h.own grown_cell ?_, h.l2, h.l3, h.ne, h.gl⟩
  · have := h.z3.set_ i (.int .i64 x)
    rw [he] at this
    exact this
  · cases hb : v.ownBlock with
    | none => exact .inl rfl
    | some k => exact .inr (fun e => own_not h.own h.z3 (by rw [hb]; exact e))
/-- The row of needs has grown, and is set. -/
theorem Ao.append {B : Nat} {w0 : World} {g q2 q3 : Nat} {w w' : World} {lo hi ca : Int} {v v' : Value} {xs ys : List Int} {p : Nat} (h : Ao B w0 g q2 q3 w lo hi ca v xs p) (hg : w.grownBy w' v.ownBlock) (ho : OwnL w' w0.heap.size v' ys) :
    Ao B w0 g q2 q3 (w'.setCell ⟨q3, 3, none⟩ v') lo hi ca v' ys p ∧ Blk w' q3 34 (ob lo hi ca v) := by
  have hs := h.bk.s
  have hge : ∀ j, v.ownBlock = some j → w0.heap.size ≤ j := fun j hj => (World.ownsRow.lt h.own j hj).1
  have k3 : Blk w' q3 34 (ob lo hi ca v) := (hg.block q3 (Array.getElem?_eq_some_iff.1 h.z3).1 (fun e => own_not h.own h.z3 e.symm)).trans h.z3
  have k2 : Blk w' q2 34 (ob 0 0 0 (.slice none 0 0)) := (hg.block q2 (Array.getElem?_eq_some_iff.1 h.z2).1 (fun e => own_not h.own h.z2 e.symm)).trans h.z2
  have hbk := h.bk.grown hg hge
  have hrd : Rd B w' g p := h.rd.keep ((Below.refl B w).grown hg (Nat.le_trans hs h.bk.k.z) (fun j hj => Nat.le_trans hs (hge j hj))) (hg.block g h.rd.lt (fun e => by have := hge g e.symm; have := h.gl; omega))
  refine ⟨⟨rd_set hrd (by have := h.l3; omega) (by have := h.l3; have := h.gl; omega), hbk.grown grown_cell (fun j hj => by cases hj; exact h.l3), blk_set_other k2 h.ne, ?_, World.ownsRow.kept ho grown_cell ?_, h.l2, h.l3, h.ne, h.gl⟩, k3⟩
  · exact k3.set_ 3 v'
  · cases hb : v'.ownBlock with
    | none => exact .inl rfl
    | some k => exact .inr (fun e => own_not ho k3 (by rw [hb]; exact e))
/-- At a step of a region: a number appended onto a row of the call's own. -/
theorem step_append_int {ops : Array Oper} {o : Oper} {a : Act} {w : World} {K : Act → World → Prop} {Q : Exit → Act → World → Prop} {E : Prop} (hgd : o.guard = none) (s x : Operand)
    (ho : o.op = .call { callee := .builtin .append, args := #[s, x], argTypes := #[29, 29] })
    (B : Nat) (v : Value) (l : List Int) (y : Int) (hs : a.eval s = v) (hx : a.eval x = .slice (some ⟨w.heap.size, 0, none⟩) 1 1) (hown : OwnL w B v l) (hl : l.length ≤ 1000) (hB : B ≤ w.heap.size)
    (h : ∀ v' w', OwnL w' B v' (l ++ [y]) → (w.alloc (.cells #[.int .i64 y] 3)).grownBy w' v.ownBlock → K (a.put o.dst v') w') :
    if Region.wanted o (yielded ops a.tmps) = true then Oper.wp Try.prog o a (w.alloc (.cells #[.int .i64 y] 3)) K Q else E := by
  have hw : Region.wanted o (yielded ops a.tmps) = true := by simp [Region.wanted, hgd]
  rw [if_pos hw]
  obtain ⟨i0, hi, hz0, hz1, hz2⟩ := info_parts info3
  refine wp_append_own _ s x 29 ho B 3 i0 (.int .i64 0) 1 8 Try.underlying29 hi hz0 hz1 hz2 rfl (by decide) v l.length (ints l) hs (hown.alloc _) ⟨w.heap.size, 0, none⟩ 1 1 [.int .i64 y] hx rfl (cell_new1 _ _ _) (one_cell _ rfl) (by rw [mx]; omega) (by omega) (by simp; omega) fun v' w' h2 h3 h4 => ?_
  exact h v' w' (ownI_snoc h2) h3
/-- Where the walk stands at its end. -/
structure Af (B : Nat) (w0 : World) (g q2 q3 : Nat) (w : World) (lo hi ca : Int) (v : Value) (xs : List Int) (p : Nat) : Prop where
  rd : Rd B w g p
  bk : BK B g w0 w
  z2 : Blk w q2 34 (ob 0 0 0 (.slice none 0 0))
  z3 : Blk w q3 34 (ob lo hi ca v)
  rds : Rds w v xs
  hv : ∀ k, v.ownBlock = some k → w0.heap.size ≤ k ∧ k ≠ q2
  l2 : w0.heap.size ≤ q2
  gl : g < w0.heap.size
theorem Ao.af {B : Nat} {w0 : World} {g q2 q3 : Nat} {w : World} {lo hi ca : Int} {v : Value} {xs : List Int} {p : Nat} (h : Ao B w0 g q2 q3 w lo hi ca v xs p) : Af B w0 g q2 q3 w lo hi ca v xs p :=
  ⟨h.rd, h.bk, h.z2, h.z3, OwnL.rds h.own, fun k hk => ⟨(World.ownsRow.lt h.own k hk).1, fun e => own_not h.own h.z2 (by rw [hk, e])⟩, h.l2, h.gl⟩
theorem rds_part {w : World} {b n c : Nat} {xs : List Int} (h : Rds w (.slice (some ⟨b, 0, none⟩) (n + 1) c) xs) (hl : xs.length = n + 1) (c' : Nat) : Rds w (.slice (some ⟨b, 1, none⟩) n c') (xs.drop 1) := by
  obtain ⟨A, c2, hv, h1⟩ := h
  have hl1 : (xs.drop 1).length = n := by rw [List.length_drop]; omega
  injection hv with e1 e2 e3
  obtain ⟨b2, off, e4, ha⟩ := h1 (by omega)
  rw [e4] at e1
  injection e1 with e1
  injection e1 with e5 e6
  subst e5; subst e6
  refine ⟨_, _, by rw [hl1], fun _ => ⟨b, 1, rfl, ha.1, fun j hj => ?_⟩⟩
  have := ha.2 (j + 1) (by rw [List.length_drop] at hj; omega)
  rw [show (1 : Nat) + j = 0 + (j + 1) from by omega, this]
  simp [List.getD_eq_getElem?_getD, Nat.add_comm]
theorem Ao.cut {B : Nat} {w0 : World} {g q2 q3 b c : Nat} {w : World} {lo hi ca : Int} {xs : List Int} {p : Nat} (h : Ao B w0 g q2 q3 w lo hi ca (.slice (some ⟨b, 0, none⟩) 5 c) xs p) (hl : xs.length = 5) (c' : Nat) :
    Af B w0 g q2 q3 (w.setCell ⟨q3, 3, none⟩ (.slice (some ⟨b, 1, none⟩) 4 c')) lo hi ca (.slice (some ⟨b, 1, none⟩) 4 c') (xs.drop 1) p := by
  have hs := h.bk.s
  have hb := (World.ownsRow.lt h.own b rfl).1
  have hb2 : b ≠ q2 := fun e => own_not h.own h.z2 (by rw [← e]; rfl)
  have hb3 : b ≠ q3 := fun e => own_not h.own h.z3 (by rw [← e]; rfl)
  have hrd := rds_part (n := 4) (OwnL.rds h.own) hl c'
  refine ⟨rd_set h.rd (by have := h.l3; omega) (by have := h.l3; have := h.gl; omega), h.bk.grown grown_cell (fun j hj => by cases hj; exact h.l3), blk_set_other h.z2 h.ne, h.z3.set_ 3 _, ?_, fun k hk => ?_, h.l2, h.gl⟩
  · exact hrd.keeps (g := q3) ⟨by simp [World.setCell], fun k _ hne => Below.heap_setCell w ⟨q3, 3, none⟩ _ k hne⟩ (by simpa [Value.ownBlock] using hb3)
  · have e : b = k := by simpa [Value.ownBlock] using hk
    subst e
    exact ⟨hb, hb2⟩
theorem Af.c3 {B : Nat} {w0 : World} {g q2 q3 : Nat} {w : World} {lo hi ca : Int} {v : Value} {xs : List Int} {p : Nat} (h : Af B w0 g q2 q3 w lo hi ca v xs p) :
    w.cell? ⟨q3, 0, none⟩ = some (.int .i64 lo) ∧ w.cell? ⟨q3, 1, none⟩ = some (.int .i64 hi) ∧ w.cell? ⟨q3, 2, none⟩ = some (.int .i64 ca) ∧ w.cell? ⟨q3, 3, none⟩ = some v :=
  ⟨h.z3.cell 0, h.z3.cell 1, h.z3.cell 2, h.z3.cell 3⟩
theorem Af.c2 {B : Nat} {w0 : World} {g q2 q3 : Nat} {w : World} {lo hi ca : Int} {v : Value} {xs : List Int} {p : Nat} (h : Af B w0 g q2 q3 w lo hi ca v xs p) :
    w.cell? ⟨q2, 0, none⟩ = some (.int .i64 0) ∧ w.cell? ⟨q2, 1, none⟩ = some (.int .i64 0) ∧ w.cell? ⟨q2, 2, none⟩ = some (.int .i64 0) ∧ w.cell? ⟨q2, 3, none⟩ = some (.slice none 0 0) ∧ ∀ i, w.frozen? ⟨q2, i, none⟩ = false :=
  ⟨h.z2.cell 0, h.z2.cell 1, h.z2.cell 2, h.z2.cell 3, fun i => h.z2.frozen i⟩
/-- The world with the offer in the result's block. -/
def fin4 (w : World) (q : Nat) (lo hi ca : Int) (v : Value) : World := (((w.setCell ⟨q, 0, none⟩ (.int .i64 lo)).setCell ⟨q, 1, none⟩ (.int .i64 hi)).setCell ⟨q, 2, none⟩ (.int .i64 ca)).setCell ⟨q, 3, none⟩ v
theorem fin4_grown (w : World) (q : Nat) (lo hi ca : Int) (v : Value) : w.grownBy (fin4 w q lo hi ca v) (some q) := by
  have h1 : w.grownBy (w.setCell ⟨q, 0, none⟩ (.int .i64 lo)) (some q) := grown_cell
  have h2 := h1.trans (grown_cell (i := 1) (u := .int .i64 hi))
  have h3 := h2.trans (grown_cell (i := 2) (u := .int .i64 ca))
  exact h3.trans (grown_cell (i := 3) (u := v))
theorem fin4_blk {w : World} {q : Nat} {x0 x1 x2 x3 : Value} (h : Blk w q 34 #[x0, x1, x2, x3]) (lo hi ca : Int) (v : Value) : Blk (fin4 w q lo hi ca v) q 34 (ob lo hi ca v) := by
  have := (((h.set_ 0 (.int .i64 lo)).set_ 1 (.int .i64 hi)).set_ 2 (.int .i64 ca)).set_ 3 v
  simpa [fin4, ob] using this
/-- What what draws an offer leaves. -/
def AofPost (B : Nat) (w : World) (g p : Nat) (e : Ending) (w' : World) : Prop :=
  ∃ (lo hi ca : Int) (A : Option Addr) (c : Nat) (xs : List Int) (p' : Nat), e = .returned (.agg #[.int .i64 lo, .int .i64 hi, .int .i64 ca, .slice A xs.length c]) ∧ Rds w' (.slice A xs.length c) xs ∧ (∀ k, (Value.slice A xs.length c).ownBlock = some k → w.heap.size ≤ k) ∧ xs.length ≤ 5 ∧ Rd B w' g p' ∧ p' ≤ p + 60 ∧ BK B g w w'
theorem Af.post {B : Nat} {w0 : World} {g q2 q3 : Nat} {w : World} {lo hi ca : Int} {A : Option Addr} {n c : Nat} {xs : List Int} {p p0 : Nat} (h : Af B w0 g q2 q3 w lo hi ca (.slice A n c) xs p) (hn : n = xs.length) (h5 : xs.length ≤ 5) (hp : p ≤ p0 + 60) :
    AofPost B w0 g p0 (.returned (.agg (ob lo hi ca (.slice A n c)))) (fin4 w q2 lo hi ca (.slice A n c)) := by
  subst hn
  have hs := h.bk.s
  have hg := fin4_grown w q2 lo hi ca (.slice A xs.length c)
  have hl2 := h.l2
  have hgl := h.gl
  refine ⟨lo, hi, ca, A, c, xs, p, rfl, ?_, fun k hk => (h.hv k hk).1, h5, ?_, hp, h.bk.grown hg (fun j hj => by cases hj; exact hl2)⟩
  · exact h.rds.keeps (g := q2) ⟨hg.size, fun k hk hne => hg.block k hk (fun e => hne (by cases e; rfl))⟩ (fun e => (h.hv q2 e).2 rfl)
  · exact h.rd.keep ((Below.refl B w).grown hg (Nat.le_trans hs h.bk.k.z) (fun j hj => by cases hj; omega)) (hg.block g h.rd.lt (fun e => by cases e; omega))
end Go.Proofs.Ytgoafhmmaepcjaa
