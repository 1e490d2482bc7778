/-
  The walks of the functions that copy, compare, mark and look over lists of pieces. Conditions: where the lists lie, and the lengths that are typed.
-/
import Derived.Test.YteililppbnbfhaaIrow
import Derived.Test.YteililppbnbfhaaWhq
namespace Go.Proofs.Yteililppbnbfhaa
open Go.RowKit
set_option linter.unusedVariables false

theorem infoP : (Try.prog.info? 38).map (fun i => (i.zero, i.size, i.bytes)) = some (some (.agg #[.int .i64 0, .int .i64 0, .bool false]), 3, 24) := by kernel_rfl

/-- A piece: where it begins, its size, and whether there are more. -/
structure Pc where
  a : Int
  s : Int
  m : Bool
deriving DecidableEq
def d0 : Pc := ⟨0, 0, false⟩
def Pc.cs (p : Pc) : List Value := [.int .i64 p.a, .int .i64 p.s, .bool p.m]
def Pc.val (p : Pc) : Value := .agg #[.int .i64 p.a, .int .i64 p.s, .bool p.m]
/-- Pieces as cells. -/
def pcs : List Pc → List Value
  | [] => []
  | p :: ps => .int .i64 p.a :: .int .i64 p.s :: .bool p.m :: pcs ps
theorem pcs_len : ∀ ps : List Pc, (pcs ps).length = ps.length * 3
  | [] => rfl
  | p :: ps => by simp only [pcs, List.length_cons, pcs_len ps]; omega
theorem pcs_app : ∀ ps qs : List Pc, pcs (ps ++ qs) = pcs ps ++ pcs qs
  | [], qs => rfl
  | p :: ps, qs => by simp [pcs, pcs_app ps qs]
theorem pcs_get : ∀ (ps : List Pc) (k : Nat), k < ps.length → (pcs ps)[k * 3]? = some (.int .i64 (ps.getD k d0).a) ∧ (pcs ps)[k * 3 + 1]? = some (.int .i64 (ps.getD k d0).s) ∧ (pcs ps)[k * 3 + 2]? = some (.bool (ps.getD k d0).m)
  | [], k, h => absurd h (by simp)
  | p :: ps, 0, h => ⟨rfl, rfl, rfl⟩
  | p :: ps, k + 1, h => by
    have ih := pcs_get ps k (by simpa using h)
    have e0 : (k + 1) * 3 = k * 3 + 1 + 1 + 1 := by omega
    have e1 : (k + 1) * 3 + 1 = k * 3 + 1 + 1 + 1 + 1 := by omega
    have e2 : (k + 1) * 3 + 2 = k * 3 + 2 + 1 + 1 + 1 := by omega
    rw [e1, e2, e0]
    simpa [pcs] using ih
theorem pcs_set : ∀ (ps : List Pc) (k : Nat) (q : Pc), k < ps.length → (((pcs ps).set (k * 3) (.int .i64 q.a)).set (k * 3 + 1) (.int .i64 q.s)).set (k * 3 + 2) (.bool q.m) = pcs (ps.set k q)
  | [], k, q, h => absurd h (by simp)
  | p :: ps, 0, q, h => rfl
  | p :: ps, k + 1, q, h => by
    have ih := pcs_set ps k q (by simpa using h)
    have e0 : (k + 1) * 3 = k * 3 + 1 + 1 + 1 := by omega
    have e1 : (k + 1) * 3 + 1 = k * 3 + 1 + 1 + 1 + 1 := by omega
    have e2 : (k + 1) * 3 + 2 = k * 3 + 2 + 1 + 1 + 1 := by omega
    rw [e1, e2, e0]
    simp only [pcs, List.set_cons_succ]
    rw [ih]
theorem pcs_rep : ∀ n, pcs (List.replicate n d0) = (madeCells #[.int .i64 0, .int .i64 0, .bool false] (n * 3)).toList := by
  intro n
  apply List.ext_getElem?
  intro j
  by_cases hj : j < n * 3
  · have hk : j / 3 < (List.replicate n d0).length := by rw [List.length_replicate]; omega
    obtain ⟨g0, g1, g2⟩ := pcs_get (List.replicate n d0) (j / 3) hk
    have eD : (List.replicate n d0).getD (j / 3) d0 = d0 := by
      rw [List.getD_eq_getElem?_getD, List.getElem?_eq_getElem hk]; simp
    rw [eD] at g0 g1 g2
    have h3 : j % 3 < 3 := Nat.mod_lt _ (by omega)
    rcases (show j % 3 = 0 ∨ j % 3 = 1 ∨ j % 3 = 2 from by omega) with h | h | h
    · rw [show j = j / 3 * 3 from by omega, g0]
      have e : j / 3 * 3 % 3 = 0 := by omega
      simp [madeCells, e, d0, show j / 3 * 3 < n * 3 from by omega]
    · rw [show j = j / 3 * 3 + 1 from by omega, g1]
      have e : (j / 3 * 3 + 1) % 3 = 1 := by omega
      simp [madeCells, e, d0, show j / 3 * 3 + 1 < n * 3 from by omega]
    · rw [show j = j / 3 * 3 + 2 from by omega, g2]
      have e : (j / 3 * 3 + 2) % 3 = 2 := by omega
      simp [madeCells, e, d0, show j / 3 * 3 + 2 < n * 3 from by omega]
  · rw [List.getElem?_eq_none (by rw [pcs_len]; simp; omega)]
    simp [madeCells, hj]

/-- The cells from off on of block b are the pieces ps. -/
def PAt (w : World) (b off : Nat) (ps : List Pc) : Prop := b < w.heap.size ∧ ∀ j, j < ps.length → w.cell? ⟨b, off + j * 3, none⟩ = some (.int .i64 (ps.getD j d0).a) ∧ w.cell? ⟨b, off + j * 3 + 1, none⟩ = some (.int .i64 (ps.getD j d0).s) ∧ w.cell? ⟨b, off + j * 3 + 2, none⟩ = some (.bool (ps.getD j d0).m)
theorem PAt.below {w w' : World} {b off B : Nat} {ps : List Pc} (h : PAt w b off ps) (hb : Below B w w') (hB : b < B) : PAt w' b off ps :=
  ⟨Nat.lt_of_lt_of_le h.1 hb.size, fun j hj => ⟨(hb.cell (p := ⟨b, off + j * 3, none⟩) hB).trans (h.2 j hj).1, (hb.cell (p := ⟨b, off + j * 3 + 1, none⟩) hB).trans (h.2 j hj).2.1, (hb.cell (p := ⟨b, off + j * 3 + 2, none⟩) hB).trans (h.2 j hj).2.2⟩⟩
/-- A row of the call's own, of pieces. -/
def OwnP (w : World) (B : Nat) (v : Value) (ps : List Pc) : Prop := w.ownsRow B 38 3 v ps.length (pcs ps)
theorem own_form3 {w : World} {B e n : Nat} {v : Value} {xs : List Value} (h : w.ownsRow B e 3 v n xs) : ∃ a c, v = .slice a n c := by
  rcases h.2 with ⟨rfl, rfl⟩ | ⟨g, cap, cur, rfl, _⟩
  · exact ⟨none, 0, rfl⟩
  · exact ⟨_, _, rfl⟩
theorem own_form3_some {w : World} {B e n : Nat} {v : Value} {xs : List Value} (h : w.ownsRow B e 3 v n xs) (hn : 0 < n) : ∃ g c, v = .slice (some ⟨g, 0, none⟩) n c ∧ n ≤ c := by
  rcases h.2 with ⟨_, h0⟩ | ⟨g, cap, cur, rfl, _, _, h1, _⟩
  · omega
  · exact ⟨g, cap, rfl, h1⟩
theorem OwnP.at_ {w : World} {B g cap n : Nat} {ps : List Pc} (h : OwnP w B (.slice (some ⟨g, 0, none⟩) n cap) ps) : PAt w g 0 ps := by
  obtain ⟨a, c, hv⟩ := own_form3 h
  simp only [Value.slice.injEq] at hv
  obtain ⟨_, rfl, _⟩ := hv
  refine ⟨(World.ownsRow.lt h g rfl).2, fun j hj => ?_⟩
  obtain ⟨h0, h1, h2⟩ := pcs_get ps j hj
  rw [Nat.zero_add]
  exact ⟨(World.ownsRow.cellAt h _ (by omega)).trans h0, (World.ownsRow.cellAt h _ (by omega)).trans h1, (World.ownsRow.cellAt h _ (by omega)).trans h2⟩
theorem own3_below {w w' : World} {B B' e n : Nat} {v : Value} {xs : List Value} (h : w.ownsRow B e 3 v n xs) (hb : Below B' w w') (hB : ∀ g, v.ownBlock = some g → g < B') : w'.ownsRow B e 3 v n xs := by
  obtain ⟨h1, h2⟩ := h
  refine ⟨h1, ?_⟩
  rcases h2 with h2 | ⟨g, cap, cur, a, b, c, d⟩
  · exact .inl h2
  · exact .inr ⟨g, cap, cur, a, b, by rw [hb.block g (hB g (by rw [a]; rfl))]; exact c, d⟩
theorem own3_base {w : World} {B B' e n : Nat} {v : Value} {xs : List Value} (h : w.ownsRow B e 3 v n xs) (hB : ∀ g, v.ownBlock = some g → B' ≤ g) : w.ownsRow B' e 3 v n xs := by
  obtain ⟨h1, h2⟩ := h
  refine ⟨h1, ?_⟩
  rcases h2 with h2 | ⟨g, cap, cur, a, b, c, d⟩
  · exact .inl h2
  · exact .inr ⟨g, cap, cur, a, hB g (by rw [a]; rfl), c, d⟩
/-- A value that is a list of pieces that can be read. -/
def PRds (w : World) (v : Value) (ps : List Pc) : Prop := ∃ A c, v = .slice A ps.length c ∧ (0 < ps.length → ∃ b off, A = some ⟨b, off, none⟩ ∧ PAt w b off ps)
theorem PRds.of_at {w : World} {b off c : Nat} {ps : List Pc} (h : PAt w b off ps) : PRds w (.slice (some ⟨b, off, none⟩) ps.length c) ps := ⟨_, c, rfl, fun _ => ⟨b, off, rfl, h⟩⟩
theorem PRds.of_own {w : World} {B : Nat} {v : Value} {ps : List Pc} (h : OwnP w B v ps) : PRds w v ps := by
  obtain ⟨A, c, rfl⟩ := own_form3 h
  refine ⟨A, c, rfl, fun h0 => ?_⟩
  rcases h.2 with ⟨_, h1⟩ | ⟨g, cap, cur, hv, _⟩
  · omega
  · have e : A = some ⟨g, 0, none⟩ := by injection hv
    subst e
    exact ⟨g, 0, rfl, OwnP.at_ (g := g) (cap := c) h⟩
theorem PRds.drewN {w : World} {v : Value} {ps : List Pc} (h : PRds w v ps) (n : Nat) : PRds (w.drewN n) v ps := h
/-- The block of a value lies below B. -/
def PLies (B : Nat) (v : Value) (ps : List Pc) : Prop := 0 < ps.length → ∀ g, v.ownBlock = some g → g < B
theorem PLies.mono {B B' : Nat} {v : Value} {ps : List Pc} (h : PLies B v ps) (hB : B ≤ B') : PLies B' v ps := fun h0 g hg => Nat.lt_of_lt_of_le (h h0 g hg) hB
theorem PRds.below {w w' : World} {B : Nat} {v : Value} {ps : List Pc} (h : PRds w v ps) (hb : Below B w w') (hv : PLies B v ps) : PRds w' v ps := by
  obtain ⟨A, c, rfl, h1⟩ := h
  refine ⟨A, c, rfl, fun h0 => ?_⟩
  obtain ⟨b, off, rfl, ha⟩ := h1 h0
  exact ⟨b, off, rfl, ha.below hb (hv h0 b rfl)⟩
theorem PRds.lies {w : World} {v : Value} {ps : List Pc} (h : PRds w v ps) : PLies w.heap.size v ps := by
  intro h0 g hg
  obtain ⟨A, c, rfl, h1⟩ := h
  obtain ⟨b, off, rfl, ha⟩ := h1 h0
  have : b = g := by simpa [Value.ownBlock] using hg
  rw [← this]; exact ha.1
theorem PRds.more {w w' : World} {v : Value} {ps : List Pc} (h : PRds w v ps) (hb : Below w.heap.size w w') : PRds w' v ps := h.below hb h.lies

set_option maxHeartbeats 800000 in
theorem toPc_any (w : World) (p : Pc) :
    Calls Try.prog 28 #[p.val] w fun e w' => e = .returned p.val ∧ Below w.heap.size w w' := by
  obtain ⟨x, y, z⟩ := p
  unfold Pc.val
  go_enter Try.func28, Try.ntmps28
  go_wp2
  exact bodyPost_ret (results_cell_row (p := 2) (ty := 38) rfl _ _ (w.heap.size + 1) 38 #[.int .i64 x, .int .i64 y, .bool z] (0, 0) _ rfl (by
    have h1 := Blk.new (w.alloc (.cells #[.int .i64 x, .int .i64 y, .bool z] 43)) 38 #[.int .i64 x, .int .i64 y, .bool z]
    rw [World.size_alloc] at h1
    exact h1.alloc _) Try.underlying38 rfl (by kernel_rfl)) rfl ⟨rfl, (((Below.refl _ _).alloc (Nat.le_refl _) _).alloc (by simp) _).alloc (by simp; omega) _⟩

theorem pfill_step (ps : List Pc) (n k : Nat) (hn : ps.length = n) (h : k < n) : (ps.take k ++ List.replicate (n - k) d0).set k (ps.getD k d0) = ps.take (k + 1) ++ List.replicate (n - (k + 1)) d0 := by
  have hk : (ps.take k).length = k := by rw [List.length_take]; omega
  have e : ps.take (k + 1) = ps.take k ++ [ps.getD k d0] := by
    rw [List.take_add_one, List.getElem?_eq_getElem (by omega : k < ps.length)]
    simp [List.getD_eq_getElem?_getD, List.getElem?_eq_getElem (by omega : k < ps.length)]
  obtain ⟨m, hm⟩ : ∃ m, n - k = m + 1 := ⟨n - k - 1, by omega⟩
  rw [e, List.set_append, if_neg (by omega), hk, Nat.sub_self, hm, List.replicate_succ, List.set_cons_zero, show n - (k + 1) = m from by omega]
  simp
theorem pfill_len (ps : List Pc) (n k : Nat) (hn : ps.length = n) (h : k ≤ n) : (ps.take k ++ List.replicate (n - k) d0).length = n := by
  rw [List.length_append, List.length_take, List.length_replicate]; omega
/-- One piece is written into a row of the call's own. -/
theorem OwnP.stored {w : World} {B g cap n : Nat} {ps : List Pc} (h : OwnP w B (.slice (some ⟨g, 0, none⟩) n cap) ps) (k : Nat) (hk : k < ps.length) (q : Pc) :
    OwnP (((w.setCell ⟨g, k * 3, none⟩ (.int .i64 q.a)).setCell ⟨g, k * 3 + 1, none⟩ (.int .i64 q.s)).setCell ⟨g, k * 3 + 2, none⟩ (.bool q.m)) B (.slice (some ⟨g, 0, none⟩) n cap) (ps.set k q) ∧
    w.grownBy (((w.setCell ⟨g, k * 3, none⟩ (.int .i64 q.a)).setCell ⟨g, k * 3 + 1, none⟩ (.int .i64 q.s)).setCell ⟨g, k * 3 + 2, none⟩ (.bool q.m)) (some g) := by
  obtain ⟨a, c, hv⟩ := own_form3 h
  simp only [Value.slice.injEq] at hv
  obtain ⟨_, rfl, _⟩ := hv
  have h1 := World.ownsRow.stored h (k * 3) (.int .i64 q.a)
  have h2 := World.ownsRow.stored h1.1 (k * 3 + 1) (.int .i64 q.s)
  have h3 := World.ownsRow.stored h2.1 (k * 3 + 2) (.bool q.m)
  rw [pcs_set ps k q hk] at h3
  refine ⟨?_, grown_trans' (grown_trans' h1.2 h2.2) h3.2⟩
  unfold OwnP
  rw [List.length_set]; exact h3.1
/-- What the walk is told of one piece of a row of the call's own. -/
theorem OwnP.slots {w : World} {B g cap n : Nat} {ps : List Pc} (h : OwnP w B (.slice (some ⟨g, 0, none⟩) n cap) ps) (k : Nat) (hk : k < ps.length) :
    w.cell? ⟨g, k * 3, none⟩ = some (.int .i64 (ps.getD k d0).a) ∧ w.cell? ⟨g, k * 3 + 1, none⟩ = some (.int .i64 (ps.getD k d0).s) ∧ w.cell? ⟨g, k * 3 + 2, none⟩ = some (.bool (ps.getD k d0).m) ∧
    w.frozen? ⟨g, k * 3, none⟩ = false ∧ w.frozen? ⟨g, k * 3 + 1, none⟩ = false ∧ w.frozen? ⟨g, k * 3 + 2, none⟩ = false := by
  obtain ⟨h0, h1, h2⟩ := h.at_.2 k hk
  simp only [Nat.zero_add] at h0 h1 h2
  obtain ⟨a, c, hv⟩ := own_form3 h
  simp only [Value.slice.injEq] at hv
  obtain ⟨_, rfl, _⟩ := hv
  exact ⟨h0, h1, h2, World.ownsRow.frozenAt h _, World.ownsRow.frozenAt h _, World.ownsRow.frozenAt h _⟩

set_option maxHeartbeats 1600000 in
theorem toP_at (w : World) (b off c n : Nat) (ps : List Pc) (hn : ps.length = n) (hn2 : n ≤ 1048576) (h : PAt w b off ps) :
    Calls Try.prog 11 #[.slice (some ⟨b, off, none⟩) n c] w
      fun e w' => e = .returned (.slice (some ⟨w.heap.size, 0, none⟩) n n) ∧ OwnP w' w.heap.size (.slice (some ⟨w.heap.size, 0, none⟩) n n) ps ∧ Below w.heap.size w w' := by
  obtain ⟨i0, hi, hz0, hz1, hz2⟩ := info_parts infoP
  have HI := Lib.hid hi
  have HZ0 := Lib.hid hz0
  have HZ1 := Lib.hid hz1
  have HZ2 := Lib.hid hz2
  have HN := Lib.hid hn
  have HC := Lib.hid h.2
  have HT := Lib.hid toPc_any
  have hb := h.1
  clear hi hz0 hz1 hz2 h hn
  go_enter Try.func11, Try.ntmps11
  go_wp2_with (at_make; refine wpList_make_full _ rfl _ _ 24 rfl w.heap.size 38 i0 (.agg #[.int .i64 0, .int .i64 0, .bool false]) 3 Try.underlying24 HI.out HZ0.out HZ1.out _ _ _ _ n rfl rfl rfl rfl (by rw [HZ2.out]; omega) (by unfold maxLen; omega) (Nat.le_refl _) ?_; intro w1 hown1 hg1; have hb1 := (Below.refl w.heap.size w).grown hg1 (Nat.le_refl _) (fun k hk => by cases hk))
  have hz1 := (World.ownsRow.lt hown1 _ rfl).2
  go_loopw [4] (fun i wr => ∃ k : Nat, k ≤ n ∧ i = .int .i64 k ∧ OwnP wr w.heap.size (.slice (some ⟨w.heap.size, 0, none⟩) n n) (ps.take k ++ List.replicate (n - k) d0) ∧ Below w.heap.size w wr) (fun i _ => n - (intOf i).toNat)
  case atStart =>
    refine ⟨0, Nat.zero_le _, rfl, ?_, hb1⟩
    unfold OwnP
    rw [pfill_len ps n 0 HN.out (by omega), List.take_zero, List.nil_append, Nat.sub_zero, pcs_rep]
    exact hown1
  case round =>
    obtain ⟨k, hk, rfl, hown, hbel⟩ := hrel
    have hsz := (World.ownsRow.lt hown _ rfl).2
    by_cases hlt : k < n
    · obtain ⟨c0, c1, c2⟩ := HC.out k (by have := HN.out; omega)
      have d0' := (hbel.cell (p := ⟨b, off + k * 3, none⟩) hb).trans c0
      have d1' := (hbel.cell (p := ⟨b, off + k * 3 + 1, none⟩) hb).trans c1
      have d2' := (hbel.cell (p := ⟨b, off + k * 3 + 2, none⟩) hb).trans c2
      have hT := HT.out wr (ps.getD k d0)
      have HST := Lib.hid (pfill_step ps n k HN.out hlt)
      have HLN := Lib.hid (pfill_len ps n k HN.out (by omega))
      have HOW := Lib.hid hown
      have HBEL := Lib.hid hbel
      clear c0 c1 c2 hown hbel
      generalize ps.getD k d0 = q at *
      obtain ⟨x, y, z⟩ := q
      unfold Pc.val at hT
      simp only at d0' d1' d2' hT
      have HTT := Lib.hid hT
      clear hT
      go_wp2_with (go_at_call 28; refine HTT.out.mono ?_; rintro e w2 ⟨rfl, hb2⟩; have HO2 : Hid (OwnP w2 w.heap.size (.slice (some ⟨w.heap.size, 0, none⟩) n n) (ps.take k ++ List.replicate (n - k) d0)) := (own3_below HOW.out hb2 (fun g hg => by cases hg; exact hsz)); have HB2 := Lib.hid (HBEL.out.trans (hb2.mono HBEL.out.size)); clear hb2; obtain ⟨s0, s1, s2, f0, f1, f2⟩ := HO2.out.slots k (by rw [HLN.out]; exact hlt); generalize (ps.take k ++ List.replicate (n - k) d0).getD k d0 = q0 at s0 s1 s2)
      have hst := HO2.out.stored k (by rw [HLN.out]; exact hlt) ⟨x, y, z⟩
      rw [HST.out] at hst
      have HS := Lib.hid hst
      clear hst
      go_roundw
      case rel => exact ⟨k + 1, by omega, by go_num, HS.out.1, below_grown HB2.out HS.out.2 (Nat.le_refl _) HB2.out.size⟩
      case measure => simp [intOf]; omega
    · have e : ps.take k ++ List.replicate (n - k) d0 = ps := by
        have := HN.out
        rw [show n - k = 0 from by omega, List.take_of_length_le (by omega)]; simp
      rw [e] at hown
      go_wp2
      go_ret
      exact ⟨rfl, hown, hbel⟩

set_option maxHeartbeats 400000 in
theorem toP_nil (w : World) (A : Option Addr) (c : Nat) :
    Calls Try.prog 11 #[.slice A 0 c] w
      fun e w' => e = .returned (.slice (some ⟨w.heap.size, 0, none⟩) 0 0) ∧ OwnP w' w.heap.size (.slice (some ⟨w.heap.size, 0, none⟩) 0 0) [] ∧ Below w.heap.size w w' := by
  obtain ⟨i0, hi, hz0, hz1, hz2⟩ := info_parts infoP
  go_enter Try.func11, Try.ntmps11
  go_wp2_with (at_make; refine wpList_make_full _ rfl _ _ 24 rfl w.heap.size 38 i0 (.agg #[.int .i64 0, .int .i64 0, .bool false]) 3 Try.underlying24 hi hz0 hz1 _ _ _ _ 0 rfl rfl rfl rfl (by rw [hz2]; omega) (by unfold maxLen; omega) (Nat.le_refl _) ?_; intro w1 hown1 hg1; have hb1 := (Below.refl w.heap.size w).grown hg1 (Nat.le_refl _) (fun k hk => by cases hk))
  refine wp_loop_rounds 1 ?_
  rw [rounds_succ]
  go_wp2
  go_ret
  exact ⟨rfl, by simpa [OwnP, pcs, madeCells] using hown1, hb1⟩
/-- What toPieceS leaves: a copy. -/
theorem toP_any (w : World) (v : Value) (ps : List Pc) (h : PRds w v ps) (hn : ps.length ≤ 1048576) :
    Calls Try.prog 11 #[v] w
      fun e w' => e = .returned (.slice (some ⟨w.heap.size, 0, none⟩) ps.length ps.length) ∧ OwnP w' w.heap.size (.slice (some ⟨w.heap.size, 0, none⟩) ps.length ps.length) ps ∧ Below w.heap.size w w' := by
  obtain ⟨A, c, rfl, h1⟩ := h
  rcases Nat.eq_zero_or_pos ps.length with h0 | h0
  · obtain rfl : ps = [] := List.eq_nil_of_length_eq_zero h0
    exact toP_nil w A c
  · obtain ⟨b, off, rfl, ha⟩ := h1 h0
    exact toP_at w b off c ps.length ps rfl hn ha

set_option maxHeartbeats 800000 in
theorem szP_any (w : World) (A : Option Addr) (n c : Nat) (hn : n ≤ 1048576) :
    Calls Try.prog 9 #[.slice A n c, .int .i64 1048576] w fun e w' => e = .returned (.int .i64 (1048576 - (n : Int))) ∧ w = w' := by
  have hd : decide ((1048576 : Int) - (n : Int) < 0) = false := by simp; omega
  go_enter Try.func9, Try.ntmps9
  go_wp2
  go_ret
  exact ⟨rfl, rfl⟩
set_option maxHeartbeats 800000 in
theorem szP_far (w : World) (A : Option Addr) (n c : Nat) (hn : 1048576 < n) (hn2 : n ≤ maxLen) :
    Calls Try.prog 9 #[.slice A n c, .int .i64 1048576] w fun e w' => e = .returned (.int .i64 (-1)) ∧ w = w' := by
  have hm : n ≤ 9223372036854775807 := hn2
  have hd : decide ((1048576 : Int) - (n : Int) < 0) = true := by simp; omega
  clear hn2
  go_enter Try.func9, Try.ntmps9
  go_wp2
  go_ret
  exact ⟨rfl, rfl⟩

set_option maxHeartbeats 800000 in
theorem eqPc_same (w : World) (x y : Int) (z : Bool) :
    Calls Try.prog 34 #[.agg #[.int .i64 x, .int .i64 y, .bool z], .agg #[.int .i64 x, .int .i64 y, .bool z]] w fun e w' => e = .returned (.bool true) ∧ Below w.heap.size w w' := by
  have hz : (z != z) = false := by simp
  go_enter Try.func34, Try.ntmps34
  go_wp2
  go_ret
  exact ⟨rfl, ((Below.refl _ _).alloc (Nat.le_refl _) _).alloc (by simp) _⟩

set_option maxHeartbeats 1600000 in
theorem eqP_at (w : World) (b off c b2 off2 c2 n : Nat) (ps : List Pc) (hn : ps.length = n) (hn2 : n ≤ 1048576) (h : PAt w b off ps) (h2 : PAt w b2 off2 ps) :
    Calls Try.prog 13 #[.slice (some ⟨b, off, none⟩) n c, .slice (some ⟨b2, off2, none⟩) n c2] w fun e w' => e = .returned (.bool true) ∧ Below w.heap.size w w' := by
  have HN := Lib.hid hn
  have HC := Lib.hid h
  have HC2 := Lib.hid h2
  clear h h2 hn
  go_enter Try.func13, Try.ntmps13
  go_wp2
  go_loopw [5] (fun i wr => ∃ k : Nat, k ≤ n ∧ i = .int .i64 k ∧ Below w.heap.size w wr) (fun i _ => n - (intOf i).toNat)
  case atStart => exact ⟨0, Nat.zero_le _, rfl, Below.refl _ _⟩
  case round =>
    obtain ⟨k, hk, rfl, hbel⟩ := hrel
    have hk0 : (0 : Int) ≤ (k : Int) := by omega
    by_cases hlt : k < n
    · have hkn : (k : Int) < (n : Int) := by omega
      have HBEL := Lib.hid hbel
      have ne := Wld.ne (S := fun w' => Below w.heap.size w w') hbel
      have hx : ∀ x : Wld (fun w' => Below w.heap.size w w'), x.v.cell? ⟨b, off + k * 3, none⟩ = some (.int .i64 (ps.getD k d0).a) ∧ x.v.cell? ⟨b, off + k * 3 + 1, none⟩ = some (.int .i64 (ps.getD k d0).s) ∧ x.v.cell? ⟨b, off + k * 3 + 2, none⟩ = some (.bool (ps.getD k d0).m) := fun x => (HC.out.below x.h HC.out.1).2 k (by rw [HN.out]; exact hlt)
      have hy : ∀ x : Wld (fun w' => Below w.heap.size w w'), x.v.cell? ⟨b2, off2 + k * 3, none⟩ = some (.int .i64 (ps.getD k d0).a) ∧ x.v.cell? ⟨b2, off2 + k * 3 + 1, none⟩ = some (.int .i64 (ps.getD k d0).s) ∧ x.v.cell? ⟨b2, off2 + k * 3 + 2, none⟩ = some (.bool (ps.getD k d0).m) := fun x => (HC2.out.below x.h HC2.out.1).2 k (by rw [HN.out]; exact hlt)
      generalize ps.getD k d0 = q at hx hy
      obtain ⟨x, y, z⟩ := q
      simp only at hx hy
      have hx0 := fun w => (hx w).1
      have hx1 := fun w => (hx w).2.1
      have hx2 := fun w => (hx w).2.2
      have hy0 := fun w => (hy w).1
      have hy1 := fun w => (hy w).2.1
      have hy2 := fun w => (hy w).2.2
      clear hx hy hbel
      have HE := Lib.hid (fun W => eqPc_same W x y z)
      go_wp2
      refine wp_region_heldq (fun w' => Below w.heap.size w w') (by kernel_rfl) (by kernel_rfl) (belowDr HBEL.out) ?_
      repeat (go_big_quiet_step (with_reducible exact held_below (fun _ _ h hb => h.trans (hb.mono h.size)) (HE.out _)))
      refine wpQuiet_nil ?_
      rintro _ ⟨xx, rfl⟩
      go_wp2
      go_roundw
      case rel => exact ⟨k + 1, by omega, by go_num, xx.h⟩
      case measure => simp [intOf]; omega
    · go_wp2
      go_ret
      exact ⟨rfl, hbel⟩
set_option maxHeartbeats 400000 in
theorem eqP_nil (w : World) (A A2 : Option Addr) (c c2 : Nat) :
    Calls Try.prog 13 #[.slice A 0 c, .slice A2 0 c2] w fun e w' => e = .returned (.bool true) ∧ Below w.heap.size w w' := by
  go_enter Try.func13, Try.ntmps13
  go_wp2
  refine wp_loop_rounds 1 ?_
  rw [rounds_succ]
  go_wp2
  go_ret
  exact ⟨rfl, Below.refl _ _⟩
/-- Two lists of the same pieces are found equal. -/
theorem eqP_same (w : World) (v u : Value) (ps : List Pc) (h : PRds w v ps) (h2 : PRds w u ps) (hn : ps.length ≤ 1048576) :
    Calls Try.prog 13 #[v, u] w fun e w' => e = .returned (.bool true) ∧ Below w.heap.size w w' := by
  obtain ⟨A, c, rfl, h1⟩ := h
  obtain ⟨A2, c2, rfl, h3⟩ := h2
  rcases Nat.eq_zero_or_pos ps.length with h0 | h0
  · rw [h0]
    exact eqP_nil w A A2 c c2
  · obtain ⟨b, off, rfl, ha⟩ := h1 h0
    obtain ⟨b2, off2, rfl, ha2⟩ := h3 h0
    exact eqP_at w b off c b2 off2 c2 ps.length ps rfl hn ha ha2

/-- Marked pieces: n of them. -/
def mk3 (n : Nat) : List Pc := (List.range n).map fun (j : Nat) => ⟨1 + 3 * (j : Int), 2 + 3 * (j : Int), true⟩
theorem mk3_len (n : Nat) : (mk3 n).length = n := by simp [mk3]
theorem mk3_get (n j : Nat) (h : j < n) : (mk3 n).getD j d0 = ⟨1 + 3 * (j : Int), 2 + 3 * (j : Int), true⟩ := by
  simp [mk3, List.getD_eq_getElem?_getD, h]
theorem mk3_succ (n : Nat) : mk3 (n + 1) = mk3 n ++ [⟨1 + 3 * (n : Int), 2 + 3 * (n : Int), true⟩] := by simp [mk3, List.range_succ]
theorem pmark_step (ps : List Pc) (k : Nat) (h : k < ps.length) : (mk3 k ++ ps.drop k).set k ⟨1 + 3 * (k : Int), 2 + 3 * (k : Int), true⟩ = mk3 (k + 1) ++ ps.drop (k + 1) := by
  rw [List.set_append, if_neg (by rw [mk3_len]; omega), mk3_len, Nat.sub_self, List.drop_eq_getElem_cons h, List.set_cons_zero, mk3_succ]
  simp
theorem pmark_len (ps : List Pc) (k : Nat) (h : k ≤ ps.length) : (mk3 k ++ ps.drop k).length = ps.length := by
  rw [List.length_append, mk3_len, List.length_drop]; omega

set_option maxHeartbeats 1600000 in
theorem markP_at (w : World) (B g cap n : Nat) (ps : List Pc) (hn : ps.length = n) (hn2 : n ≤ 1048576) (h : OwnP w B (.slice (some ⟨g, 0, none⟩) n cap) ps) :
    Calls Try.prog 14 #[.slice (some ⟨g, 0, none⟩) n cap, .int .i64 1] w
      fun e w' => e = .returned (.int .i64 (1 + 3 * (n : Int))) ∧ OwnP w' B (.slice (some ⟨g, 0, none⟩) n cap) (mk3 n) ∧ w.grownBy w' (some g) := by
  have HN := Lib.hid hn
  have H := Lib.hid h
  clear h hn
  go_enter Try.func14, Try.ntmps14
  go_wp2
  go_loopw [1, 5] (fun kv i wr => ∃ (k : Nat) (z : Int), k ≤ n ∧ i = .int .i64 k ∧ kv = .int .i64 z ∧ z = 1 + 3 * (k : Int) ∧ OwnP wr B (.slice (some ⟨g, 0, none⟩) n cap) (mk3 k ++ ps.drop k) ∧ w.grownBy wr (some g)) (fun _ i _ => n - (intOf i).toNat)
  case atStart => exact ⟨0, 1, Nat.zero_le _, rfl, rfl, by simp, by simpa [mk3] using H.out, World.grownBy.refl w _⟩
  case round =>
    obtain ⟨k, z, hk, rfl, rfl, hz, hown, hgr⟩ := hrel
    by_cases hlt : k < n
    · have hlen := pmark_len ps k (by rw [HN.out]; omega)
      obtain ⟨c0, c1, c2, f0, f1, f2⟩ := hown.slots k (by rw [hlen, HN.out]; exact hlt)
      have hst := hown.stored k (by rw [hlen, HN.out]; exact hlt) ⟨1 + 3 * (k : Int), 2 + 3 * (k : Int), true⟩
      rw [pmark_step ps k (by rw [HN.out]; exact hlt)] at hst
      have e1 : 1 + 3 * (k : Int) = z := hz.symm
      have e2 : 2 + 3 * (k : Int) = z + 1 := by omega
      rw [e1, e2] at hst
      have ht : ((z + 1 + 1) % 3 == 0) = true := by
        have : (z + 1 + 1) % 3 = 0 := by omega
        simpa using this
      have HTT := Lib.hid ht
      have HST := Lib.hid hst
      have HG := Lib.hid hgr
      have HZ := Lib.hid hz
      have z0 : 0 ≤ z := by omega
      have z1 : z ≤ 4000000 := by omega
      clear hst hlen hown hgr e1 e2 hz
      generalize (mk3 k ++ ps.drop k).getD k d0 = y at *
      go_wp2
      go_roundw
      case rel => exact ⟨k + 1, z + 1 + 1 + 1, by omega, by go_num, rfl, by have := HZ.out; omega, by first | exact HST.out.1 | (rw [HTT.out]; exact HST.out.1), grown_trans' HG.out (by first | exact HST.out.2 | (rw [HTT.out]; exact HST.out.2))⟩
      case measure => simp [intOf]; omega
    · obtain rfl : k = n := by omega
      have e : mk3 k ++ ps.drop k = mk3 k := by
        rw [List.drop_eq_nil_of_le (by rw [HN.out]; omega)]; simp
      rw [e] at hown
      clear e
      go_wp2
      go_ret
      exact ⟨by first | rfl | exact ret_int hz, hown, hgr⟩
set_option maxHeartbeats 400000 in
theorem markP_nil (w : World) (A : Option Addr) (c : Nat) :
    Calls Try.prog 14 #[.slice A 0 c, .int .i64 1] w fun e w' => e = .returned (.int .i64 1) ∧ w' = w := by
  go_enter Try.func14, Try.ntmps14
  go_wp2
  refine wp_loop_rounds 1 ?_
  rw [rounds_succ]
  go_wp2
  go_ret
  exact ⟨rfl, rfl⟩
theorem OwnP.nil (w : World) (B : Nat) : OwnP w B (.slice none 0 0) [] := World.ownsRow_nil _ _ _ _
/-- What markPieceS leaves. -/
theorem markP_any (w : World) (B : Nat) (v : Value) (ps : List Pc) (hn2 : ps.length ≤ 1048576) (h : OwnP w B v ps) :
    Calls Try.prog 14 #[v, .int .i64 1] w
      fun e w' => e = .returned (.int .i64 (1 + 3 * (ps.length : Int))) ∧ OwnP w' B v (mk3 ps.length) ∧ w.grownBy w' v.ownBlock := by
  rcases h.2 with ⟨rfl, h0⟩ | ⟨g, cap, cur, rfl, _⟩
  · refine (markP_nil w none 0).mono fun e w' ⟨h1, h2⟩ => ?_
    subst h2
    rw [h0]
    exact ⟨by rw [h1]; rfl, OwnP.nil _ _, World.grownBy.refl _ _⟩
  · exact markP_at w B g cap ps.length ps rfl hn2 h

set_option maxHeartbeats 1600000 in
theorem heldP_at (w : World) (b off c n : Nat) (hn2 : n ≤ 1048576) (h : PAt w b off (mk3 n)) :
    Calls Try.prog 15 #[.slice (some ⟨b, off, none⟩) n c, .int .i64 1] w
      fun e w' => e = .returned (.int .i64 (1 + 3 * (n : Int))) ∧ w' = w := by
  have HC := Lib.hid h.2
  clear h
  go_enter Try.func15, Try.ntmps15
  go_wp2
  go_loop [1, 5] (fun kv i => ∃ (k : Nat) (z : Int), k ≤ n ∧ i = .int .i64 k ∧ kv = .int .i64 z ∧ z = 1 + 3 * (k : Int)) (fun _ i => n - (intOf i).toNat)
  case atStart => exact ⟨0, 1, Nat.zero_le _, rfl, rfl, by simp⟩
  case round =>
    obtain ⟨k, z, hk, rfl, rfl, hz⟩ := hrel
    by_cases hlt : k < n
    · obtain ⟨c0, c1, c2⟩ := HC.out k (by rw [mk3_len]; exact hlt)
      rw [mk3_get n k hlt] at c0 c1 c2
      have e1 : 1 + 3 * (k : Int) = z := hz.symm
      have e2 : 2 + 3 * (k : Int) = z + 1 := by omega
      simp only [e1, e2] at c0 c1 c2
      have ht : ((z + 1 + 1) % 3 == 0) = true := by
        have : (z + 1 + 1) % 3 = 0 := by omega
        simpa using this
      have HTT := Lib.hid ht
      have HZ := Lib.hid hz
      have z0 : 0 ≤ z := by omega
      have z1 : z ≤ 4000000 := by omega
      clear e1 e2 hz
      go_wp2
      go_round
      case rel => exact ⟨k + 1, z + 1 + 1 + 1, by omega, by go_num, rfl, by have := HZ.out; omega⟩
      case measure => simp [intOf]; omega
    · obtain rfl : k = n := by omega
      go_wp2
      go_ret
      exact ⟨by first | rfl | exact ret_int hz, rfl⟩
set_option maxHeartbeats 400000 in
theorem heldP_nil (w : World) (A : Option Addr) (c : Nat) :
    Calls Try.prog 15 #[.slice A 0 c, .int .i64 1] w fun e w' => e = .returned (.int .i64 1) ∧ w' = w := by
  go_enter Try.func15, Try.ntmps15
  go_wp2
  refine wp_loop_rounds 1 ?_
  rw [rounds_succ]
  go_wp2
  go_ret
  exact ⟨rfl, rfl⟩
/-- What heldPieceS says of marked pieces. -/
theorem heldP_any (w : World) (v : Value) (n : Nat) (hn2 : n ≤ 1048576) (h : PRds w v (mk3 n)) :
    Calls Try.prog 15 #[v, .int .i64 1] w fun e w' => e = .returned (.int .i64 (1 + 3 * (n : Int))) ∧ w' = w := by
  obtain ⟨A, c, rfl, h1⟩ := h
  rw [mk3_len] at h1 ⊢
  rcases Nat.eq_zero_or_pos n with rfl | h0
  · simpa using heldP_nil w A c
  · obtain ⟨b, off, rfl, ha⟩ := h1 h0
    exact heldP_at w b off c n hn2 ha
end Go.Proofs.Yteililppbnbfhaa
