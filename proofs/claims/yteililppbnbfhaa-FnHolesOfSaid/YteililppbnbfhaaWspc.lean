/-
  The walk of what draws pieces. Conditions: where the reader lies, and the bounds that are typed.
-/
import Derived.Test.YteililppbnbfhaaWsomy
import Derived.Test.YteililppbnbfhaaWcv
import Derived.Laws.AppendOwnNone
import Derived.Deep.RegionLaw
import Derived.Deep.Cut
import Derived.Deep.CutRange
import Derived.Deep.DeepCutAuto
namespace Go.Proofs.Yteililppbnbfhaa
open Go.RowKit
set_option linter.unusedVariables false

theorem cutR_len' (L M U : Int) : (cutR L M U).length ≤ 20 := by
  unfold cutR
  split
  · rename_i h
    simp only [cutB, Bool.and_eq_true, decide_eq_true_eq] at h
    exact h.2
  · simp
theorem pcs_one : ∀ ps : List Pc, ∀ u ∈ pcs ps, u.oneCell' = true
  | [], u, h => by simp [pcs] at h
  | p :: ps, u, h => by
    simp only [pcs, List.mem_cons] at h
    rcases h with rfl | rfl | rfl | h
    · rfl
    · rfl
    · rfl
    · exact pcs_one ps u h
theorem add_none (b off j : Nat) : (⟨b, off, none⟩ : Addr).add j = ⟨b, off + j, none⟩ := by unfold Addr.add; split <;> simp_all
theorem own_cells3 {w : World} {B n : Nat} {g cap : Nat} {qs : List Pc} (h : OwnP w B (.slice (some ⟨g, 0, none⟩) n cap) qs) : ∀ j u, (pcs qs)[j]? = some u → w.cell? ((⟨g, 0, none⟩ : Addr).add j) = some u := by
  intro j u hj
  obtain ⟨a, c, hv⟩ := own_form3 h
  simp only [Value.slice.injEq] at hv
  obtain ⟨_, rfl, _⟩ := hv
  have hlt : j < (pcs qs).length := (List.getElem?_eq_some_iff.1 hj).1
  rw [pcs_len] at hlt
  rw [add_none, Nat.zero_add, World.ownsRow.cellAt h j hlt, hj]
/-- Pieces of one's own are appended onto pieces of one's own. -/
theorem append_ownP {w : World} {ops : Array Oper} {rest : List Oper} {o : Oper} {a : Act} {Q : Exit → Act → World → Prop} (hgd : o.guard = none) (s x : Operand)
    (ho : o.op = .call { callee := .builtin .append, args := #[s, x], argTypes := #[24, 24] })
    (B B' : Nat) (v u : Value) (ps qs : List Pc) (hs : a.eval s = v) (hx : a.eval x = u) (hown : OwnP w B v ps) (hu : OwnP w B' u qs) (hl : ps.length + qs.length ≤ 1000) (hB : B ≤ w.heap.size)
    (h : ∀ A c w', OwnP w' B (.slice A (ps.length + qs.length) c) (ps ++ qs) → w.grownBy w' v.ownBlock → wpList Try.prog ops Q rest (a.put o.dst (.slice A (ps.length + qs.length) c)) w') : wpList Try.prog ops Q (o :: rest) a w := by
  obtain ⟨i0, hi, hz0, hz1, hz2⟩ := info_parts infoP
  rcases hu.2 with ⟨rfl, h0⟩ | ⟨g, cap, cur, rfl, _⟩
  · have hq : qs = [] := List.eq_nil_of_length_eq_zero h0
    subst hq
    obtain ⟨A, c, rfl⟩ := own_form3 hown
    refine wpList_append_own_none hgd s x _ ho B 38 i0 3 Try.underlying24 hi _ ps.length (pcs ps) hs hown hx ?_
    exact h A c w (by simpa using hown) (World.grownBy.refl _ _)
  · refine wpList_append_own _ hgd s x _ ho B 38 i0 (.agg #[.int .i64 0, .int .i64 0, .bool false]) 3 24 Try.underlying24 hi hz0 hz1 hz2 rfl (by decide) v ps.length (pcs ps) hs hown ⟨g, 0, none⟩ qs.length cap (pcs qs) hx (pcs_len qs) (own_cells3 hu) (pcs_one qs) (by rw [mx]; omega) (by omega) hB ?_
    intro v' w' h1 h2 _
    obtain ⟨A, c, rfl⟩ := own_form3 h1
    refine h A c w' ?_ h2
    unfold OwnP
    rw [pcs_app, List.length_append]; exact h1
/-- At a step of a region: pieces appended onto a row of the call's own. -/
theorem step_append_P {ops : Array Oper} {o : Oper} {a : Act} {w : World} {K : Act → World → Prop} {Q : Exit → Act → World → Prop} {E : Prop} (hgd : o.guard = none) (s x : Operand)
    (ho : o.op = .call { callee := .builtin .append, args := #[s, x], argTypes := #[24, 24] })
    (B : Nat) (v : Value) (ps qs : List Pc) (hs : a.eval s = v) (hown : OwnP w B v ps)
    (ad : Addr) (m c n : Nat) (hx : a.eval x = .slice (some ad) m c) (hm : qs.length = m) (hnews : ∀ j u, (pcs qs)[j]? = some u → w.cell? (ad.add j) = some u) (hn : ps.length + m = n) (hl : n ≤ 1000) (hB : B ≤ w.heap.size)
    (h : ∀ A cap w', OwnP w' B (.slice A n cap) (ps ++ qs) → w.grownBy w' v.ownBlock → K (a.put o.dst (.slice A n cap)) w') :
    if Region.wanted o (yielded ops a.tmps) = true then Oper.wp Try.prog o a w K Q else E := by
  obtain ⟨i0, hi, hz0, hz1, hz2⟩ := info_parts infoP
  have hw : Region.wanted o (yielded ops a.tmps) = true := by simp [Region.wanted, hgd]
  rw [if_pos hw]
  refine wp_append_own w s x _ ho B 38 i0 (.agg #[.int .i64 0, .int .i64 0, .bool false]) 3 24 Try.underlying24 hi hz0 hz1 hz2 rfl (by decide) v ps.length (pcs ps) hs hown ad m c (pcs qs) hx (by rw [pcs_len, hm]) hnews (pcs_one qs) (by rw [mx]; omega) (by omega) hB fun v' w' h2 h3 h4 => ?_
  rw [hn] at h2
  obtain ⟨A, cp, rfl⟩ := own_form3 h2
  refine h A cp w' ?_ h3
  unfold OwnP
  rw [pcs_app, List.length_append, hm, hn]; exact h2
theorem pcs_take : ∀ (ps : List Pc) (k : Nat), pcs (ps.take k) = (pcs ps).take (k * 3)
  | [], k => by simp [pcs]
  | p :: ps, 0 => by simp [pcs]
  | p :: ps, k + 1 => by
    rw [show (k + 1) * 3 = k * 3 + 1 + 1 + 1 from by omega]
    simp only [List.take_succ_cons, pcs, pcs_take ps k]
theorem pcs_drop : ∀ (ps : List Pc) (k : Nat), pcs (ps.drop k) = (pcs ps).drop (k * 3)
  | [], k => by simp [pcs]
  | p :: ps, 0 => by simp [pcs]
  | p :: ps, k + 1 => by
    rw [show (k + 1) * 3 = k * 3 + 1 + 1 + 1 from by omega]
    simp only [List.drop_succ_cons, pcs, pcs_drop ps k]
theorem own_head3 {w : World} {B n g cap : Nat} {qs : List Pc} (h : OwnP w B (.slice (some ⟨g, 0, none⟩) n cap) qs) (k : Nat) : ∀ j u, (pcs (qs.take k))[j]? = some u → w.cell? ((⟨g, 0, none⟩ : Addr).add j) = some u := by
  intro j u hj
  refine own_cells3 h j u ?_
  rw [pcs_take, List.getElem?_take] at hj
  split at hj
  · exact hj
  · cases hj
theorem own_tail3 {w : World} {B n g cap : Nat} {qs : List Pc} (h : OwnP w B (.slice (some ⟨g, 0, none⟩) n cap) qs) (k : Nat) : ∀ j u, (pcs (qs.drop k))[j]? = some u → w.cell? ((⟨g, k * 3, none⟩ : Addr).add j) = some u := by
  intro j u hj
  rw [pcs_drop, List.getElem?_drop] at hj
  have := own_cells3 h (k * 3 + j) u hj
  rw [add_none] at this ⊢
  rwa [Nat.zero_add] at this
theorem own_tail3' {w : World} {B n g cap : Nat} {qs : List Pc} (h : OwnP w B (.slice (some ⟨g, 0, none⟩) n cap) qs) (k : Nat) (hc : qs.length ≤ cap) : ∀ j u, (pcs (qs.drop k))[j]? = some u → w.cell? ((⟨g, if cap = k then 0 else k * 3, none⟩ : Addr).add j) = some u := by
  intro j u hj
  by_cases he : cap = k
  · have hlt := (List.getElem?_eq_some_iff.1 hj).1
    rw [pcs_len, List.length_drop] at hlt
    omega
  · rw [if_neg he]; exact own_tail3 h k j u hj

/-- Where the reader and the pieces drawn so far lie. -/
structure Spw (B B1 : Nat) (w0 : World) (g : Nat) (w : World) (p : Nat) (v : Value) (l : List Pc) : Prop where
  own : OwnP w B1 v l
  rd : Rd B w g p
  bel : Below B w0 w
  sz : B1 ≤ w.heap.size
  lo : g < B1
section
variable {B B1 : Nat} {w0 : World} {g : Nat} {w : World} {p : Nat} {v : Value} {l : List Pc}
theorem Spw.ne (h : Spw B B1 w0 g w p v l) : v.ownBlock ≠ some g := fun he => by have := (World.ownsRow.lt h.own g he).1; have := h.lo; omega
theorem Spw.picked (h : Spw B B1 w0 g w p v l) (m : Nat) : Spw B B1 w0 g (picked w g p m) (p + 1) v l :=
  ⟨ownsRow_setCell_other (a := ⟨g, 1, none⟩) h.own h.ne _, h.rd.picked m, h.bel.trans (picked_below h.rd m), by rw [picked_size]; exact h.sz, h.lo⟩
theorem Spw.Ble (h : Spw B B1 w0 g w p v l) : B ≤ w.heap.size := by have := h.rd.1; have := h.rd.lt; omega
theorem Spw.alloc (h : Spw B B1 w0 g w p v l) (o : Obj) : Spw B B1 w0 g (w.alloc o) p v l :=
  ⟨World.ownsRow.alloc h.own o, h.rd.alloc o, h.bel.alloc h.Ble o, by have := h.sz; simp; omega, h.lo⟩
theorem Spw.grown {w' : World} {row : Option Nat} {v' : Value} {l' : List Pc} (h : Spw B B1 w0 g w p v l) (hg : w.grownBy w' row) (hr : ∀ j, row = some j → B1 ≤ j) (ho : OwnP w' B1 v' l') : Spw B B1 w0 g w' p v' l' := by
  have h1 := h.rd.1
  have h2 := h.lo
  have hb : Below B w w' := (Below.refl B w).grown hg h.Ble (fun j hj => by have := hr j hj; omega)
  exact ⟨ho, h.rd.keep hb (hg.block g h.rd.lt (fun e => by have := hr g e.symm; omega)), h.bel.trans hb, Nat.le_trans h.sz hg.size, h2⟩
theorem Spw.more {w' : World} (h : Spw B B1 w0 g w p v l) (hb : Below w.heap.size w w') : Spw B B1 w0 g w' p v l :=
  ⟨own3_below h.own hb (fun k hk => (World.ownsRow.lt h.own k hk).2), h.rd.keep (hb.mono h.Ble) (hb.block g h.rd.lt), h.bel.trans (hb.mono h.Ble), Nat.le_trans h.sz hb.size, h.lo⟩
theorem Spw.start {w : World} (h : Rd B w g p) : Spw B w.heap.size w g w p (.slice none 0 0) [] :=
  ⟨OwnP.nil _ _, h, Below.refl _ _, Nat.le_refl _, h.lt⟩
theorem Spw.drew (h : Spw B B1 w0 g w p v l) : Spw B B1 w0 g w.drew p v l := ⟨h.own, h.rd.drew, belowDr h.bel, h.sz, h.lo⟩
theorem Spw.stored {gg n cap : Nat} (h : Spw B B1 w0 g w p (.slice (some ⟨gg, 0, none⟩) n cap) l) (k : Nat) (hk : k < l.length) (q : Pc) :
    Spw B B1 w0 g (((w.setCell ⟨gg, k * 3, none⟩ (.int .i64 q.a)).setCell ⟨gg, k * 3 + 1, none⟩ (.int .i64 q.s)).setCell ⟨gg, k * 3 + 2, none⟩ (.bool q.m)) p (.slice (some ⟨gg, 0, none⟩) n cap) (l.set k q) :=
  h.grown (h.own.stored k hk q).2 (fun j hj => by cases hj; exact (World.ownsRow.lt h.own _ rfl).1) (h.own.stored k hk q).1
/-- One of a few numbers is drawn. -/
theorem Spw.one (h : Spw B B1 w0 g w p v l) (hp : p ≤ 1000000) (len : Nat) (xs : List Int) (hx : xs.length = len) (h1 : 1 ≤ len) (h2 : len ≤ 1000) :
    Calls Try.prog 39 #[.pointer (some ⟨g, 0, none⟩), .slice (some ⟨w.heap.size, 0, none⟩) len len] (w.alloc (.cells (ints xs).toArray 3))
      fun e w' => ∃ x : Int, e = .returned (.int .i64 x) ∧ x ∈ xs ∧ Spw B B1 w0 g w' (p + 1) v l := by
  refine (one_any (h.rd.alloc _) hp w.heap.size len len xs hx h1 h2 (by have := h.rd.lt; omega) (by rw [← hx]; exact new_ints w xs _)).mono ?_
  rintro e w' ⟨x, m, rfl, hx, rfl⟩
  exact ⟨x, rfl, hx, (h.alloc _).picked m⟩
theorem Spw.pick (h : Spw B B1 w0 g w p v l) (hp : p ≤ 1000000) (n : Int) (h1 : 1 ≤ n) (h2 : n ≤ 1000000) :
    Calls Try.prog 50 #[.pointer (some ⟨g, 0, none⟩), .int .i64 n] w fun e w' => ∃ r : Nat, e = .returned (.int .i64 r) ∧ (r : Int) < n ∧ Spw B B1 w0 g w' (p + 1) v l := by
  refine (pick_any h.rd hp n h1 h2).mono ?_
  rintro e w' ⟨r, m, rfl, hr, rfl⟩
  exact ⟨r, rfl, hr, h.picked m⟩
theorem Spw.cell {gg n cap : Nat} {q q' : Pc} {l' : List Pc} (h : Spw B B1 w0 g w p (.slice (some ⟨gg, 0, none⟩) n cap) (q :: l')) (i : Nat) (u : Value) (he : (pcs (q :: l')).set i u = pcs (q' :: l')) :
    Spw B B1 w0 g (w.setCell ⟨gg, i, none⟩ u) p (.slice (some ⟨gg, 0, none⟩) n cap) (q' :: l') := by
  have ho := h.own
  obtain ⟨a, c, hv⟩ := own_form3 ho
  simp only [Value.slice.injEq] at hv
  obtain ⟨_, rfl, _⟩ := hv
  have hst := World.ownsRow.stored ho i u
  rw [he] at hst
  exact h.grown hst.2 (fun j hj => by cases hj; exact (World.ownsRow.lt ho _ rfl).1) hst.1
end

/-- What somePieces leaves: some pieces in memory of the call's own. -/
def SpcPost (B : Nat) (w : World) (g p : Nat) (e : Ending) (w' : World) : Prop :=
  ∃ (u : Value) (l : List Pc) (p' : Nat), e = .returned u ∧ Spw B w.heap.size w g w' p' u l ∧ l.length ≤ 21 ∧ p' ≤ p + 40

set_option maxHeartbeats 6400000 in
set_option maxRecDepth 20000 in
theorem spc_any {B : Nat} {w : World} {g p : Nat} (h : Rd B w g p) (hp : p ≤ 900000) :
    Calls Try.prog 38 #[.pointer (some ⟨g, 0, none⟩)] w (SpcPost B w g p) := by
  have HS0 := Lib.hid (Spw.start h)
  have HCL := Lib.hid (fun W L M U => sCL_any W L M U)
  have hlo := h.lt
  obtain ⟨B1, hB1⟩ : ∃ B1, B1 = w.heap.size := ⟨_, rfl⟩
  unfold SpcPost
  rw [← hB1] at HS0 hlo ⊢
  have HBE := Lib.hid hB1
  clear h hB1
  go_enter Try.func38, Try.ntmps38
  go_wp2_with fail
  refine (HS0.out.one (by omega) 6 [20, 12, 30, 8, 1, 60] rfl (by omega) (by omega)).mono ?_
  rintro e w1 ⟨L, rfl, hL, hs1⟩
  have HS1 := Lib.hid hs1
  clear hs1 hL HS0
  go_wp2_with fail
  refine (HS1.out.one (by omega) 5 [4, 8, 6, 3, 12] rfl (by omega) (by omega)).mono ?_
  rintro e w2 ⟨M, rfl, hM, hs2⟩
  have HS2 := Lib.hid hs2
  clear hs2 hM HS1
  go_wp2_with fail
  refine (HS2.out.one (by omega) 4 [1, 2, 1, 3] rfl (by omega) (by omega)).mono ?_
  rintro e w3 ⟨U, rfl, hU, hs3⟩
  have HS3 := Lib.hid hs3
  clear hs3 hU HS2
  go_wp2_with fail
  refine (HCL.out _ _ _ _).mono ?_
  rintro e w4 ⟨u, rfl, hu, hb4⟩
  have hR20 := cutR_len' L M U
  have HS4 := Lib.hid (HS3.out.more hb4)
  have HU := Lib.hid hu
  clear hu hb4 HS3 HCL
  generalize cutR L M U = R at *
  generalize cutB L M U = b at *
  go_wp2_with (at_builtin; refine append_ownP rfl _ _ rfl B1 w3.heap.size _ _ [] R rfl rfl (World.ownsRow_made (base := B1) (e := 38) (size := 3) w4 #[] 0 HS4.out.sz (by unfold maxLen; omega) rfl) (World.ownsRow.alloc HU.out _) (by simp; omega) (by have := HS4.out.sz; simp; omega) ?_; intro A5 c5 w5 ho5 hg5)
  have hs5 : Spw B B1 w g w5 (p + 1 + 1 + 1) (.slice A5 R.length c5) R := (HS4.out.alloc _).grown hg5 (fun j hj => by have e : some w4.heap.size = some j := hj; cases e; exact HS4.out.sz) (by have := ho5; simp only [List.nil_append, List.length_nil, Nat.zero_add] at this; exact this)
  have HS5 := Lib.hid hs5
  clear hs5 ho5 hg5 HU HS4
  go_wp2_with fail
  refine (HS5.out.one (by omega) 4 [0, 2, 4, 1] rfl (by omega) (by omega)).mono ?_
  rintro e w6 ⟨x, rfl, hx, hs6⟩
  obtain ⟨n, rfl, hn⟩ : ∃ n : Nat, x = n ∧ n ≤ 4 := by
    simp only [List.mem_cons, List.not_mem_nil, or_false] at hx
    exact ⟨x.toNat, by omega, by omega⟩
  have HS6 := Lib.hid hs6
  clear hs6 hx HS5
  go_wp2_with fail
  go_loopw [8] (fun nv wr => ∃ (l : List Pc) (k p' : Nat), nv = .int .i64 k ∧ k ≤ 4 ∧ l.length = R.length ∧ Spw B B1 w g wr p' (.slice A5 R.length c5) l ∧ p' + 2 * k ≤ p + 12) (fun nv _ => (intOf nv).toNat)
  case atStart => exact ⟨R, n, p + 1 + 1 + 1 + 1, rfl, hn, rfl, HS6.out, by omega⟩
  case round =>
    clear HS6 hn
    obtain ⟨l, k, p', rfl, hk4, hl, hs, hpk⟩ := hrel
    have HS := Lib.hid hs
    have HL := Lib.hid hl
    by_cases hk0 : 0 < k
    · have hk1 : decide ((0 : Int) < (k : Int)) = true := by simp; omega
      by_cases hR1 : 1 < R.length
      · have hR2 : decide ((1 : Int) < (R.length : Int)) = true := by simp; omega
        obtain ⟨gg, cc, hform, hcc⟩ := own_form3_some (show wr.ownsRow B1 38 3 (.slice A5 R.length c5) R.length (pcs l) from by have := hs.own; unfold OwnP at this; rwa [hl] at this) (by omega)
        cases hform
        clear hs hl
        go_wp2_with fail
        refine (HS.out.pick (by omega) (R.length : Int) (by omega) (by omega)).mono ?_
        rintro e w7 ⟨a, rfl, ha, hs7⟩
        have HS7 := Lib.hid hs7
        clear hs7 HS
        go_wp2_with fail
        refine (HS7.out.pick (by omega) (R.length : Int) (by omega) (by omega)).mono ?_
        rintro e w8 ⟨b', rfl, hb', hs8⟩
        have HS8 := Lib.hid hs8
        clear hs8 HS7
        have haL : a < R.length := by omega
        have hbL : b' < R.length := by omega
        obtain ⟨a0, a1, a2, f0, f1, f2⟩ := HS8.out.own.slots a (by rw [HL.out]; exact haL)
        have hqa : ∃ q, q = l.getD a d0 := ⟨_, rfl⟩
        obtain ⟨⟨xa, ya, za⟩, hqa⟩ := hqa
        rw [← hqa] at a0 a1 a2
        simp only at a0 a1 a2
        have HQA := Lib.hid hqa
        clear hqa
        go_upto_region 11 with fail
        have hs9 := HS8.out.alloc (.cells #[.int .i64 xa, .int .i64 ya, .bool za] 38)
        have hx9 := Blk.new w8 38 #[.int .i64 xa, .int .i64 ya, .bool za]
        have hXg : w8.heap.size ≠ gg := by have := (World.ownsRow.lt HS8.out.own gg rfl).2; omega
        clear HQA a0 a1 a2 f0 f1 f2 HS8
        generalize w8.alloc (.cells #[.int .i64 xa, .int .i64 ya, .bool za] 38) = W9 at hs9 hx9 ⊢
        generalize w8.heap.size = X at hx9 hXg ⊢
        obtain ⟨a0, a1, a2, f0, f1, f2⟩ := hs9.own.slots a (by rw [HL.out]; exact haL)
        obtain ⟨b0, b1, b2, _, _, _⟩ := hs9.own.slots b' (by rw [HL.out]; exact hbL)
        generalize l.getD b' d0 = qb at b0 b1 b2
        generalize l.getD a d0 = qa at a0 a1 a2
        obtain ⟨xb, yb, zb⟩ := qb
        simp only at b0 b1 b2
        have HS9 := Lib.hid hs9
        have HX9 := Lib.hid hx9
        clear hs9 hx9
        go_upto_region 12 with fail
        have hs10 := HS9.out.stored a (by rw [HL.out]; exact haL) ⟨xb, yb, zb⟩
        have hx10 := (((HX9.out.far (p := ⟨gg, a * 3, none⟩) hXg (.int .i64 xb)).far (p := ⟨gg, a * 3 + 1, none⟩) hXg (.int .i64 yb)).far (p := ⟨gg, a * 3 + 2, none⟩) hXg (.bool zb))
        simp only at hs10
        clear a0 a1 a2 f0 f1 f2 b0 b1 b2 HS9 HX9
        generalize ((W9.setCell ⟨gg, a * 3, none⟩ (.int .i64 xb)).setCell ⟨gg, a * 3 + 1, none⟩ (.int .i64 yb)).setCell ⟨gg, a * 3 + 2, none⟩ (.bool zb) = W10 at hs10 hx10 ⊢
        obtain ⟨a0, a1, a2, f0, f1, f2⟩ := hs10.own.slots b' (by rw [List.length_set, HL.out]; exact hbL)
        generalize (l.set a ⟨xb, yb, zb⟩).getD b' d0 = qa at a0 a1 a2
        have x0 := hx10.cell 0
        have x1 := hx10.cell 1
        have x2 := hx10.cell 2
        simp at x0 x1 x2
        have hs11 := hs10.stored b' (by rw [List.length_set, HL.out]; exact hbL) ⟨xa, ya, za⟩
        have HS11 := Lib.hid hs11
        clear hs11 hs10 hx10
        go_wp2_with fail
        go_roundw
        case rel => exact ⟨(l.set a ⟨xb, yb, zb⟩).set b' ⟨xa, ya, za⟩, k - 1, _, by go_num, by omega, by rw [List.length_set, List.length_set]; exact HL.out, HS11.out, by omega⟩
        case measure => simp [intOf]; omega
      · have hR2 : decide ((1 : Int) < (R.length : Int)) = false := by simp; omega
        clear hs hl
        go_upto_region 13 with fail
        go_cut [7, 73] (fun v c73 wx => ∃ (p'' : Nat) (bb : Bool), v = .slice A5 R.length c5 ∧ c73 = .bool bb ∧ (bb = true → 1 < R.length) ∧ Spw B B1 w g wx p'' (.slice A5 R.length c5) l ∧ p'' ≤ p + 14)
        case first =>
          by_cases hN : 1 < R.length
          · exact absurd hN hR1
          · have hN2 : decide ((1 : Int) < (R.length : Int)) = false := by simp; omega
            go_wp2_with fail
            go_meet
            exact ⟨_, false, rfl, rfl, (fun h => by cases h), HS.out, by omega⟩
        case rest =>
          obtain ⟨p2, bb, rfl, rfl, hbb, hs2, hp2⟩ := hcut
          have HS2 := Lib.hid hs2
          clear hs2 HS
          go_upto_if 73 with fail
          go_cut [7] (fun v wx => ∃ (A : Option Addr) (c : Nat) (l' : List Pc) (p'' : Nat), v = .slice A l'.length c ∧ l'.length ≤ 20 ∧ Spw B B1 w g wx p'' v l' ∧ p'' ≤ p + 16)
          case first =>
            cases bb
            · go_wp2_with fail
              go_meet
              have := HL.out
              exact ⟨A5, c5, l, p2, by rw [this], by omega, HS2.out, by omega⟩
            · have hN := hbb rfl
              obtain ⟨gg, cc, hform, hcc⟩ := own_form3_some (show wc.ownsRow B1 38 3 (.slice A5 R.length c5) R.length (pcs l) from by have := HS2.out.own; unfold OwnP at this; rwa [HL.out] at this) (by omega)
              cases hform
              go_wp2_with fail
              refine (HS2.out.pick (by omega) (R.length : Int) (by omega) (by omega)).mono ?_
              rintro e w7 ⟨r, rfl, hr, hs7⟩
              have HS7 := Lib.hid hs7
              clear hs7 HS2
              go_upto_region 15 with fail
              have r0 : (0 : Int) ≤ (r : Int) := by omega
              have r1 : (r : Int) ≤ (c5 : Int) := by omega
              have r2 : (0 : Int) ≤ (r : Int) + 1 := by omega
              have r3 : (r : Int) + 1 ≤ (R.length : Int) := by omega
              have r4 : (R.length : Int) ≤ (c5 : Int) := by omega
              have r5 : IntKind.i64.wrap ((r : Int) + 1) = (r : Int) + 1 := pwrap _ (by omega)
              have r6 : ((r : Int) + 1).toNat = r + 1 := by omega
              have hlr : (l.take r).length = r := by rw [List.length_take]; have := HL.out; omega
              have hld : (l.drop (r + 1)).length = R.length - (r + 1) := by rw [List.length_drop]; have := HL.out; omega
              have HLR := Lib.hid hlr
              have HLD := Lib.hid hld
              have HOUT : Hid (OwnP (w7.alloc (.cells #[] 38)).drew B1 (.slice (some ⟨gg, 0, none⟩) R.length c5) l) := Lib.hid (World.ownsRow.alloc HS7.out.own _)
              have HO0 : Hid (OwnP (w7.alloc (.cells #[] 38)).drew B1 (.slice (some ⟨w7.heap.size, 0, none⟩) 0 0) []) := Lib.hid (World.ownsRow_made (base := B1) (e := 38) (size := 3) w7 #[] 0 HS7.out.sz (by unfold maxLen; omega) rfl)
              have hg7 : gg < w7.heap.size := (World.ownsRow.lt HS7.out.own gg rfl).2
              have hb7 := HS7.out.sz
              clear hlr hld
              go_region_law (first
                | (refine step_append_P rfl (.tmp 78) (.tmp 81) rfl B1 (.slice (some ⟨w7.heap.size, 0, none⟩) 0 0) [] (l.take r) (by simp [Act.eval, Act.put]) HO0.out ⟨gg, 0, none⟩ r c5 r (by simp [Act.eval, Act.put]) HLR.out (own_head3 HOUT.out r) (by simp) (by omega) (by simp; omega) ?_; intro AA cA wA hoA hgA; have hoA' : OwnP wA B1 (.slice AA r cA) (l.take r) := (by simpa using hoA); have HSA : Hid (Spw B B1 w g wA _ (.slice AA r cA) (l.take r)) := Lib.hid ((HS7.out.alloc _).drew.grown hgA (fun j hj => by have e : some w7.heap.size = some j := hj; cases e; exact HS7.out.sz) hoA'); have HOUA : Hid (OwnP wA B1 (.slice (some ⟨gg, 0, none⟩) R.length c5) l) := Lib.hid (World.ownsRow.kept HOUT.out hgA (.inr (by simp [Value.ownBlock]; omega))); clear hoA hgA hoA')
                | (refine step_append_P rfl (.tmp 82) (.tmp 86) rfl B1 (.slice AA r cA) (l.take r) (l.drop (r + 1)) (by simp [Act.eval, Act.put]) HSA.out.own ⟨gg, if c5 = r + 1 then 0 else (r + 1) * 3, none⟩ (R.length - (r + 1)) (c5 - (r + 1)) (R.length - 1) (by simp [Act.eval, Act.put]; split <;> rfl) HLD.out (own_tail3' HOUA.out (r + 1) (by rw [HL.out]; omega)) (by rw [HLR.out]; omega) (by omega) HSA.out.sz ?_; intro AB cB wB hoB hgB; have HSB : Hid (Spw B B1 w g wB _ (.slice AB (R.length - 1) cB) (l.take r ++ l.drop (r + 1))) := Lib.hid (HSA.out.grown hgB (fun j hj => (World.ownsRow.lt HSA.out.own j hj).1) hoB); clear hoB hgB)
                | fail)
              all_goals simp only [Act.put]
              all_goals go_wp2_with fail
              all_goals
                go_meet
                have hlt : (l.take r ++ l.drop (r + 1)).length = R.length - 1 := by rw [List.length_append, HLR.out, HLD.out]; omega
                exact ⟨AB, cB, _, _, by rw [hlt], by omega, HSB.out, by omega⟩
          case rest =>
            obtain ⟨A, c, l2, p3, rfl, hl2, hs3, hp3⟩ := hcut
            have HS3 := Lib.hid hs3
            clear hs3 hbb
            obtain ⟨N, hN⟩ : ∃ N, N = l2.length := ⟨_, rfl⟩
            rw [← hN] at hl2 HS3 ⊢
            have HN := Lib.hid hN
            clear hN
            go_upto_region 16 with fail
            go_cut [7, 100] (fun v cc wx => ∃ (p'' : Nat) (bb : Bool), v = .slice A N c ∧ cc = .bool bb ∧ (bb = true → 0 < N ∧ N < 20) ∧ Spw B B1 w g wx p'' (.slice A N c) l2 ∧ p'' ≤ p + 18)
            case first =>
              by_cases hN : 0 < N
              · have hN2 : decide ((0 : Int) < (N : Int)) = true := by simp; omega
                by_cases hN3 : N < 20
                · have hN4 : decide ((N : Int) < 20) = true := by simp; omega
                  go_wp2_with fail
                  refine (HS3.out.pick (by omega) 3 (by omega) (by omega)).mono ?_
                  rintro e w7 ⟨r, rfl, hr, hs7⟩
                  have HS7 := Lib.hid hs7
                  clear hs7
                  by_cases hr0 : r = 0
                  · have hr1 : ((r : Int) == 0) = true := by simp; omega
                    go_wp2_with fail
                    go_meet
                    exact ⟨_, _, rfl, rfl, fun _ => ⟨hN, hN3⟩, HS7.out, by omega⟩
                  · have hr1 : ((r : Int) == 0) = false := by simp; omega
                    go_wp2_with fail
                    go_meet
                    exact ⟨_, _, rfl, rfl, fun _ => ⟨hN, hN3⟩, HS7.out, by omega⟩
                · have hN4 : decide ((N : Int) < 20) = false := by simp; omega
                  go_wp2_with fail
                  refine (HS3.out.pick (by omega) 3 (by omega) (by omega)).mono ?_
                  rintro e w7 ⟨r, rfl, hr, hs7⟩
                  have HS7 := Lib.hid hs7
                  clear hs7
                  by_cases hr0 : r = 0
                  · have hr1 : ((r : Int) == 0) = true := by simp; omega
                    go_wp2_with fail
                    go_meet
                    exact ⟨_, false, rfl, rfl, (fun h => by cases h), HS7.out, by omega⟩
                  · have hr1 : ((r : Int) == 0) = false := by simp; omega
                    go_wp2_with fail
                    go_meet
                    exact ⟨_, false, rfl, rfl, (fun h => by cases h), HS7.out, by omega⟩
              · have hN2 : decide ((0 : Int) < (N : Int)) = false := by simp; omega
                go_wp2_with fail
                go_meet
                exact ⟨_, false, rfl, rfl, (fun h => by cases h), HS3.out, by omega⟩
            case rest =>
              obtain ⟨p4, bb, rfl, rfl, hbb, hs4, hp4⟩ := hcut
              have HS4 := Lib.hid hs4
              clear hs4 HS3
              go_upto_if 100 with fail
              go_cut [7] (fun v wx => ∃ (A : Option Addr) (c : Nat) (l' : List Pc) (p'' : Nat), v = .slice A l'.length c ∧ l'.length ≤ 21 ∧ Spw B B1 w g wx p'' v l' ∧ p'' ≤ p + 20)
              case first =>
                cases bb
                · go_wp2_with fail
                  go_meet
                  have := HN.out
                  exact ⟨A, c, l2, p4, by rw [this], by omega, HS4.out, by omega⟩
                · obtain ⟨hN, hN3⟩ := hbb rfl
                  obtain ⟨gg, cc, hform, hcc⟩ := own_form3_some (show wc.ownsRow B1 38 3 (.slice A N c) N (pcs l2) from by have := HS4.out.own; unfold OwnP at this; rwa [← HN.out] at this) hN
                  cases hform
                  go_wp2_with fail
                  refine (HS4.out.pick (by omega) (N : Int) (by omega) (by omega)).mono ?_
                  rintro e w7 ⟨r, rfl, hr, hs7⟩
                  have HS7 := Lib.hid hs7
                  clear hs7 HS4
                  have hrN : r < N := by omega
                  obtain ⟨a0, a1, a2, f0, f1, f2⟩ := HS7.out.own.slots r (by rw [← HN.out]; exact hrN)
                  generalize l2.getD r d0 = qa at a0 a1 a2
                  obtain ⟨xa, ya, za⟩ := qa
                  simp only at a0 a1 a2
                  obtain ⟨i0, hi, hz0, hz1, hz2⟩ := info_parts infoP
                  have HI := Lib.hid hi
                  have HZ0 := Lib.hid hz0
                  have HZ1 := Lib.hid hz1
                  have HZ2 := Lib.hid hz2
                  clear hi hz0 hz1 hz2
                  have HO7 : Hid (w7.ownsRow B1 38 3 (.slice (some ⟨gg, 0, none⟩) N c) N (pcs l2)) := Lib.hid (by have := HS7.out.own; unfold OwnP at this; rwa [← HN.out] at this)
                  have hb7 := HS7.out.sz
                  go_wp2_with (at_builtin; refine wpList_append_own _ rfl (.tmp 101) (.tmp 109) 24 rfl B1 38 i0 (.agg #[.int .i64 0, .int .i64 0, .bool false]) 3 24 Try.underlying24 HI.out HZ0.out HZ1.out HZ2.out rfl (by decide) _ _ _ rfl (World.ownsRow.alloc HO7.out _) ⟨w7.heap.size, 0, none⟩ 1 1 (pcs [⟨xa, ya, za⟩]) rfl rfl (new3 _ _ _ _ _) (one3 _ _ _) (by rw [mx]; omega) (by omega) (by simp; omega) ?_; intro v9 w9 hown9 hg9 hnil; clear hnil; obtain ⟨A9, c9, rfl⟩ := own_form3 hown9)
                  go_meet
                  have ho9 : OwnP w9 B1 (.slice A9 (N + 1) c9) (l2 ++ [⟨xa, ya, za⟩]) := by
                    have h9 := hown9
                    rw [HN.out] at h9 ⊢
                    exact ownP_snoc h9
                  have hs9 := (HS7.out.alloc (.cells #[.int .i64 xa, .int .i64 ya, .bool za] 38)).grown hg9 (fun j hj => (World.ownsRow.lt HS7.out.own j hj).1) ho9
                  have hlN : (l2 ++ [(⟨xa, ya, za⟩ : Pc)]).length = N + 1 := by rw [List.length_append, ← HN.out]; rfl
                  exact ⟨A9, c9, _, _, by rw [hlN], by omega, hs9, by omega⟩
              case rest =>
                obtain ⟨A, c, l4, p5, rfl, hl4, hs5, hp5⟩ := hcut
                have HS5 := Lib.hid hs5
                clear hs5 HS4 hbb
                rcases l4 with _ | ⟨⟨xa, ya, za⟩, l4⟩
                · go_wp2
                  go_ret
                  exact ⟨_, _, _, rfl, HS5.out, hl4, by omega⟩
                · obtain ⟨gg, cc, hform, hcc⟩ := own_form3_some HS5.out.own (by simp)
                  cases hform
                  obtain ⟨N, hN⟩ : ∃ N, N = l4.length := ⟨_, rfl⟩
                  have hln : (Pc.mk xa ya za :: l4).length = N + 1 := by rw [hN]; rfl
                  rw [hln] at HS5 hl4 ⊢
                  have HN2 := Lib.hid hln
                  clear hN hln HN
                  have hN1 : decide ((0 : Int) < ((N + 1 : Nat) : Int)) = true := by first | (simp; done) | (simp; omega)
                  have hN0 : (0 : Int) < ((N + 1 : Nat) : Int) := by omega
                  go_wp2_with fail
                  refine (HS5.out.pick (by omega) 24 (by omega) (by omega)).mono ?_
                  rintro e w7 ⟨r, rfl, hr, hs7⟩
                  have HS7 := Lib.hid hs7
                  clear hs7 HS5
                  have hslots := HS7.out.own.slots 0 (by simp)
                  simp only [Nat.zero_mul, Nat.zero_add, List.getD_cons_zero] at hslots
                  rcases (show r = 0 ∨ r = 1 ∨ r = 2 ∨ r = 3 ∨ (4 ≤ r ∧ r < 24) from by omega) with rfl | rfl | rfl | rfl | ⟨hr4, hr24⟩
                  · clear hslots
                    go_wp2_with fail
                    refine (HS7.out.one (by omega) 3 [-1, 60, 0] rfl (by omega) (by omega)).mono ?_
                    rintro e w8 ⟨x, rfl, hx, hs8⟩
                    have HS8 := Lib.hid hs8
                    clear hs8 hx HS7
                    have hslots := HS8.out.own.slots 0 (by simp)
                    simp only [Nat.zero_mul, Nat.zero_add, List.getD_cons_zero] at hslots
                    obtain ⟨a0, a1, a2, f0, f1, f2⟩ := hslots
                    go_wp2
                    go_ret
                    exact ⟨_, _, _, rfl, HS8.out.cell 0 _ (q' := ⟨x, ya, za⟩) rfl, by rw [← HN2.out] at hl4; exact hl4, by omega⟩
                  · clear hslots
                    go_wp2_with fail
                    refine (HS7.out.one (by omega) 3 [0, 61, 2] rfl (by omega) (by omega)).mono ?_
                    rintro e w8 ⟨x, rfl, hx, hs8⟩
                    have HS8 := Lib.hid hs8
                    clear hs8 hx HS7
                    have hslots := HS8.out.own.slots 0 (by simp)
                    simp only [Nat.zero_mul, Nat.zero_add, List.getD_cons_zero] at hslots
                    obtain ⟨a0, a1, a2, f0, f1, f2⟩ := hslots
                    go_wp2
                    go_ret
                    exact ⟨_, _, _, rfl, HS8.out.cell 1 _ (q' := ⟨xa, x, za⟩) rfl, by rw [← HN2.out] at hl4; exact hl4, by omega⟩
                  · obtain ⟨a0, a1, a2, f0, f1, f2⟩ := hslots
                    go_wp2
                    go_ret
                    exact ⟨_, _, _, rfl, HS7.out.cell 2 _ (q' := ⟨xa, ya, !za⟩) rfl, by rw [← HN2.out] at hl4; exact hl4, by omega⟩
                  · obtain ⟨a0, a1, a2, f0, f1, f2⟩ := hslots
                    go_wp2
                    go_ret
                    exact ⟨_, _, _, rfl, HS7.out.cell 1 _ (q' := ⟨xa, wrap64 (ya + 1), za⟩) rfl, by rw [← HN2.out] at hl4; exact hl4, by omega⟩
                  · clear hslots
                    have q0 : ((r : Int) == 0) = false := by simp; omega
                    have q1 : ((r : Int) == 1) = false := by simp; omega
                    have q2 : ((r : Int) == 2) = false := by simp; omega
                    have q3 : ((r : Int) == 3) = false := by simp; omega
                    go_wp2
                    go_ret
                    exact ⟨_, _, _, rfl, HS7.out, by rw [← HN2.out] at hl4; exact hl4, by omega⟩
    · have hk1 : decide ((0 : Int) < (k : Int)) = false := by simp; omega
      clear hs hl
      go_upto_region 13 with fail
      go_cut [7, 73] (fun v c73 wx => ∃ (p'' : Nat) (bb : Bool), v = .slice A5 R.length c5 ∧ c73 = .bool bb ∧ (bb = true → 1 < R.length) ∧ Spw B B1 w g wx p'' (.slice A5 R.length c5) l ∧ p'' ≤ p + 14)
      case first =>
        by_cases hN : 1 < R.length
        · have hN2 : decide ((1 : Int) < (R.length : Int)) = true := by simp; omega
          go_wp2_with fail
          refine (HS.out.pick (by omega) 3 (by omega) (by omega)).mono ?_
          rintro e w7 ⟨r, rfl, hr, hs7⟩
          have HS7 := Lib.hid hs7
          clear hs7
          go_wp2_with fail
          go_meet
          exact ⟨_, _, rfl, rfl, fun _ => hN, HS7.out, by omega⟩
        · have hN2 : decide ((1 : Int) < (R.length : Int)) = false := by simp; omega
          go_wp2_with fail
          go_meet
          exact ⟨_, false, rfl, rfl, (fun h => by cases h), HS.out, by omega⟩
      case rest =>
        obtain ⟨p2, bb, rfl, rfl, hbb, hs2, hp2⟩ := hcut
        have HS2 := Lib.hid hs2
        clear hs2 HS
        go_upto_if 73 with fail
        go_cut [7] (fun v wx => ∃ (A : Option Addr) (c : Nat) (l' : List Pc) (p'' : Nat), v = .slice A l'.length c ∧ l'.length ≤ 20 ∧ Spw B B1 w g wx p'' v l' ∧ p'' ≤ p + 16)
        case first =>
          cases bb
          · go_wp2_with fail
            go_meet
            have := HL.out
            exact ⟨A5, c5, l, p2, by rw [this], by omega, HS2.out, by omega⟩
          · have hN := hbb rfl
            obtain ⟨gg, cc, hform, hcc⟩ := own_form3_some (show wc.ownsRow B1 38 3 (.slice A5 R.length c5) R.length (pcs l) from by have := HS2.out.own; unfold OwnP at this; rwa [HL.out] at this) (by omega)
            cases hform
            go_wp2_with fail
            refine (HS2.out.pick (by omega) (R.length : Int) (by omega) (by omega)).mono ?_
            rintro e w7 ⟨r, rfl, hr, hs7⟩
            have HS7 := Lib.hid hs7
            clear hs7 HS2
            go_upto_region 15 with fail
            have r0 : (0 : Int) ≤ (r : Int) := by omega
            have r1 : (r : Int) ≤ (c5 : Int) := by omega
            have r2 : (0 : Int) ≤ (r : Int) + 1 := by omega
            have r3 : (r : Int) + 1 ≤ (R.length : Int) := by omega
            have r4 : (R.length : Int) ≤ (c5 : Int) := by omega
            have r5 : IntKind.i64.wrap ((r : Int) + 1) = (r : Int) + 1 := pwrap _ (by omega)
            have r6 : ((r : Int) + 1).toNat = r + 1 := by omega
            have hlr : (l.take r).length = r := by rw [List.length_take]; have := HL.out; omega
            have hld : (l.drop (r + 1)).length = R.length - (r + 1) := by rw [List.length_drop]; have := HL.out; omega
            have HLR := Lib.hid hlr
            have HLD := Lib.hid hld
            have HOUT : Hid (OwnP (w7.alloc (.cells #[] 38)).drew B1 (.slice (some ⟨gg, 0, none⟩) R.length c5) l) := Lib.hid (World.ownsRow.alloc HS7.out.own _)
            have HO0 : Hid (OwnP (w7.alloc (.cells #[] 38)).drew B1 (.slice (some ⟨w7.heap.size, 0, none⟩) 0 0) []) := Lib.hid (World.ownsRow_made (base := B1) (e := 38) (size := 3) w7 #[] 0 HS7.out.sz (by unfold maxLen; omega) rfl)
            have hg7 : gg < w7.heap.size := (World.ownsRow.lt HS7.out.own gg rfl).2
            have hb7 := HS7.out.sz
            clear hlr hld
            go_region_law (first
              | (refine step_append_P rfl (.tmp 78) (.tmp 81) rfl B1 (.slice (some ⟨w7.heap.size, 0, none⟩) 0 0) [] (l.take r) (by simp [Act.eval, Act.put]) HO0.out ⟨gg, 0, none⟩ r c5 r (by simp [Act.eval, Act.put]) HLR.out (own_head3 HOUT.out r) (by simp) (by omega) (by simp; omega) ?_; intro AA cA wA hoA hgA; have hoA' : OwnP wA B1 (.slice AA r cA) (l.take r) := (by simpa using hoA); have HSA : Hid (Spw B B1 w g wA _ (.slice AA r cA) (l.take r)) := Lib.hid ((HS7.out.alloc _).drew.grown hgA (fun j hj => by have e : some w7.heap.size = some j := hj; cases e; exact HS7.out.sz) hoA'); have HOUA : Hid (OwnP wA B1 (.slice (some ⟨gg, 0, none⟩) R.length c5) l) := Lib.hid (World.ownsRow.kept HOUT.out hgA (.inr (by simp [Value.ownBlock]; omega))); clear hoA hgA hoA')
              | (refine step_append_P rfl (.tmp 82) (.tmp 86) rfl B1 (.slice AA r cA) (l.take r) (l.drop (r + 1)) (by simp [Act.eval, Act.put]) HSA.out.own ⟨gg, if c5 = r + 1 then 0 else (r + 1) * 3, none⟩ (R.length - (r + 1)) (c5 - (r + 1)) (R.length - 1) (by simp [Act.eval, Act.put]; split <;> rfl) HLD.out (own_tail3' HOUA.out (r + 1) (by rw [HL.out]; omega)) (by rw [HLR.out]; omega) (by omega) HSA.out.sz ?_; intro AB cB wB hoB hgB; have HSB : Hid (Spw B B1 w g wB _ (.slice AB (R.length - 1) cB) (l.take r ++ l.drop (r + 1))) := Lib.hid (HSA.out.grown hgB (fun j hj => (World.ownsRow.lt HSA.out.own j hj).1) hoB); clear hoB hgB)
              | fail)
            all_goals simp only [Act.put]
            all_goals go_wp2_with fail
            all_goals
              go_meet
              have hlt : (l.take r ++ l.drop (r + 1)).length = R.length - 1 := by rw [List.length_append, HLR.out, HLD.out]; omega
              exact ⟨AB, cB, _, _, by rw [hlt], by omega, HSB.out, by omega⟩
        case rest =>
          obtain ⟨A, c, l2, p3, rfl, hl2, hs3, hp3⟩ := hcut
          have HS3 := Lib.hid hs3
          clear hs3 hbb
          obtain ⟨N, hN⟩ : ∃ N, N = l2.length := ⟨_, rfl⟩
          rw [← hN] at hl2 HS3 ⊢
          have HN := Lib.hid hN
          clear hN
          go_upto_region 16 with fail
          go_cut [7, 100] (fun v cc wx => ∃ (p'' : Nat) (bb : Bool), v = .slice A N c ∧ cc = .bool bb ∧ (bb = true → 0 < N ∧ N < 20) ∧ Spw B B1 w g wx p'' (.slice A N c) l2 ∧ p'' ≤ p + 18)
          case first =>
            by_cases hN : 0 < N
            · have hN2 : decide ((0 : Int) < (N : Int)) = true := by simp; omega
              by_cases hN3 : N < 20
              · have hN4 : decide ((N : Int) < 20) = true := by simp; omega
                go_wp2_with fail
                refine (HS3.out.pick (by omega) 3 (by omega) (by omega)).mono ?_
                rintro e w7 ⟨r, rfl, hr, hs7⟩
                have HS7 := Lib.hid hs7
                clear hs7
                by_cases hr0 : r = 0
                · have hr1 : ((r : Int) == 0) = true := by simp; omega
                  go_wp2_with fail
                  go_meet
                  exact ⟨_, _, rfl, rfl, fun _ => ⟨hN, hN3⟩, HS7.out, by omega⟩
                · have hr1 : ((r : Int) == 0) = false := by simp; omega
                  go_wp2_with fail
                  go_meet
                  exact ⟨_, _, rfl, rfl, fun _ => ⟨hN, hN3⟩, HS7.out, by omega⟩
              · have hN4 : decide ((N : Int) < 20) = false := by simp; omega
                go_wp2_with fail
                refine (HS3.out.pick (by omega) 3 (by omega) (by omega)).mono ?_
                rintro e w7 ⟨r, rfl, hr, hs7⟩
                have HS7 := Lib.hid hs7
                clear hs7
                by_cases hr0 : r = 0
                · have hr1 : ((r : Int) == 0) = true := by simp; omega
                  go_wp2_with fail
                  go_meet
                  exact ⟨_, false, rfl, rfl, (fun h => by cases h), HS7.out, by omega⟩
                · have hr1 : ((r : Int) == 0) = false := by simp; omega
                  go_wp2_with fail
                  go_meet
                  exact ⟨_, false, rfl, rfl, (fun h => by cases h), HS7.out, by omega⟩
            · have hN2 : decide ((0 : Int) < (N : Int)) = false := by simp; omega
              go_wp2_with fail
              go_meet
              exact ⟨_, false, rfl, rfl, (fun h => by cases h), HS3.out, by omega⟩
          case rest =>
            obtain ⟨p4, bb, rfl, rfl, hbb, hs4, hp4⟩ := hcut
            have HS4 := Lib.hid hs4
            clear hs4 HS3
            go_upto_if 100 with fail
            go_cut [7] (fun v wx => ∃ (A : Option Addr) (c : Nat) (l' : List Pc) (p'' : Nat), v = .slice A l'.length c ∧ l'.length ≤ 21 ∧ Spw B B1 w g wx p'' v l' ∧ p'' ≤ p + 20)
            case first =>
              cases bb
              · go_wp2_with fail
                go_meet
                have := HN.out
                exact ⟨A, c, l2, p4, by rw [this], by omega, HS4.out, by omega⟩
              · obtain ⟨hN, hN3⟩ := hbb rfl
                obtain ⟨gg, cc, hform, hcc⟩ := own_form3_some (show wc.ownsRow B1 38 3 (.slice A N c) N (pcs l2) from by have := HS4.out.own; unfold OwnP at this; rwa [← HN.out] at this) hN
                cases hform
                go_wp2_with fail
                refine (HS4.out.pick (by omega) (N : Int) (by omega) (by omega)).mono ?_
                rintro e w7 ⟨r, rfl, hr, hs7⟩
                have HS7 := Lib.hid hs7
                clear hs7 HS4
                have hrN : r < N := by omega
                obtain ⟨a0, a1, a2, f0, f1, f2⟩ := HS7.out.own.slots r (by rw [← HN.out]; exact hrN)
                generalize l2.getD r d0 = qa at a0 a1 a2
                obtain ⟨xa, ya, za⟩ := qa
                simp only at a0 a1 a2
                obtain ⟨i0, hi, hz0, hz1, hz2⟩ := info_parts infoP
                have HI := Lib.hid hi
                have HZ0 := Lib.hid hz0
                have HZ1 := Lib.hid hz1
                have HZ2 := Lib.hid hz2
                clear hi hz0 hz1 hz2
                have HO7 : Hid (w7.ownsRow B1 38 3 (.slice (some ⟨gg, 0, none⟩) N c) N (pcs l2)) := Lib.hid (by have := HS7.out.own; unfold OwnP at this; rwa [← HN.out] at this)
                have hb7 := HS7.out.sz
                go_wp2_with (at_builtin; refine wpList_append_own _ rfl (.tmp 101) (.tmp 109) 24 rfl B1 38 i0 (.agg #[.int .i64 0, .int .i64 0, .bool false]) 3 24 Try.underlying24 HI.out HZ0.out HZ1.out HZ2.out rfl (by decide) _ _ _ rfl (World.ownsRow.alloc HO7.out _) ⟨w7.heap.size, 0, none⟩ 1 1 (pcs [⟨xa, ya, za⟩]) rfl rfl (new3 _ _ _ _ _) (one3 _ _ _) (by rw [mx]; omega) (by omega) (by simp; omega) ?_; intro v9 w9 hown9 hg9 hnil; clear hnil; obtain ⟨A9, c9, rfl⟩ := own_form3 hown9)
                go_meet
                have ho9 : OwnP w9 B1 (.slice A9 (N + 1) c9) (l2 ++ [⟨xa, ya, za⟩]) := by
                  have h9 := hown9
                  rw [HN.out] at h9 ⊢
                  exact ownP_snoc h9
                have hs9 := (HS7.out.alloc (.cells #[.int .i64 xa, .int .i64 ya, .bool za] 38)).grown hg9 (fun j hj => (World.ownsRow.lt HS7.out.own j hj).1) ho9
                have hlN : (l2 ++ [(⟨xa, ya, za⟩ : Pc)]).length = N + 1 := by rw [List.length_append, ← HN.out]; rfl
                exact ⟨A9, c9, _, _, by rw [hlN], by omega, hs9, by omega⟩
            case rest =>
              obtain ⟨A, c, l4, p5, rfl, hl4, hs5, hp5⟩ := hcut
              have HS5 := Lib.hid hs5
              clear hs5 HS4 hbb
              rcases l4 with _ | ⟨⟨xa, ya, za⟩, l4⟩
              · go_wp2
                go_ret
                exact ⟨_, _, _, rfl, HS5.out, hl4, by omega⟩
              · obtain ⟨gg, cc, hform, hcc⟩ := own_form3_some HS5.out.own (by simp)
                cases hform
                obtain ⟨N, hN⟩ : ∃ N, N = l4.length := ⟨_, rfl⟩
                have hln : (Pc.mk xa ya za :: l4).length = N + 1 := by rw [hN]; rfl
                rw [hln] at HS5 hl4 ⊢
                have HN2 := Lib.hid hln
                clear hN hln HN
                have hN1 : decide ((0 : Int) < ((N + 1 : Nat) : Int)) = true := by first | (simp; done) | (simp; omega)
                have hN0 : (0 : Int) < ((N + 1 : Nat) : Int) := by omega
                go_wp2_with fail
                refine (HS5.out.pick (by omega) 24 (by omega) (by omega)).mono ?_
                rintro e w7 ⟨r, rfl, hr, hs7⟩
                have HS7 := Lib.hid hs7
                clear hs7 HS5
                have hslots := HS7.out.own.slots 0 (by simp)
                simp only [Nat.zero_mul, Nat.zero_add, List.getD_cons_zero] at hslots
                rcases (show r = 0 ∨ r = 1 ∨ r = 2 ∨ r = 3 ∨ (4 ≤ r ∧ r < 24) from by omega) with rfl | rfl | rfl | rfl | ⟨hr4, hr24⟩
                · clear hslots
                  go_wp2_with fail
                  refine (HS7.out.one (by omega) 3 [-1, 60, 0] rfl (by omega) (by omega)).mono ?_
                  rintro e w8 ⟨x, rfl, hx, hs8⟩
                  have HS8 := Lib.hid hs8
                  clear hs8 hx HS7
                  have hslots := HS8.out.own.slots 0 (by simp)
                  simp only [Nat.zero_mul, Nat.zero_add, List.getD_cons_zero] at hslots
                  obtain ⟨a0, a1, a2, f0, f1, f2⟩ := hslots
                  go_wp2
                  go_ret
                  exact ⟨_, _, _, rfl, HS8.out.cell 0 _ (q' := ⟨x, ya, za⟩) rfl, by rw [← HN2.out] at hl4; exact hl4, by omega⟩
                · clear hslots
                  go_wp2_with fail
                  refine (HS7.out.one (by omega) 3 [0, 61, 2] rfl (by omega) (by omega)).mono ?_
                  rintro e w8 ⟨x, rfl, hx, hs8⟩
                  have HS8 := Lib.hid hs8
                  clear hs8 hx HS7
                  have hslots := HS8.out.own.slots 0 (by simp)
                  simp only [Nat.zero_mul, Nat.zero_add, List.getD_cons_zero] at hslots
                  obtain ⟨a0, a1, a2, f0, f1, f2⟩ := hslots
                  go_wp2
                  go_ret
                  exact ⟨_, _, _, rfl, HS8.out.cell 1 _ (q' := ⟨xa, x, za⟩) rfl, by rw [← HN2.out] at hl4; exact hl4, by omega⟩
                · obtain ⟨a0, a1, a2, f0, f1, f2⟩ := hslots
                  go_wp2
                  go_ret
                  exact ⟨_, _, _, rfl, HS7.out.cell 2 _ (q' := ⟨xa, ya, !za⟩) rfl, by rw [← HN2.out] at hl4; exact hl4, by omega⟩
                · obtain ⟨a0, a1, a2, f0, f1, f2⟩ := hslots
                  go_wp2
                  go_ret
                  exact ⟨_, _, _, rfl, HS7.out.cell 1 _ (q' := ⟨xa, wrap64 (ya + 1), za⟩) rfl, by rw [← HN2.out] at hl4; exact hl4, by omega⟩
                · clear hslots
                  have q0 : ((r : Int) == 0) = false := by simp; omega
                  have q1 : ((r : Int) == 1) = false := by simp; omega
                  have q2 : ((r : Int) == 2) = false := by simp; omega
                  have q3 : ((r : Int) == 3) = false := by simp; omega
                  go_wp2
                  go_ret
                  exact ⟨_, _, _, rfl, HS7.out, by rw [← HN2.out] at hl4; exact hl4, by omega⟩
end Go.Proofs.Yteililppbnbfhaa
