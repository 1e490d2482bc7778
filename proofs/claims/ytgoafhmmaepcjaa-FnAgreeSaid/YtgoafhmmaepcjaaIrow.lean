/-
  The walks of the functions that copy, compare, mark and look over lists of numbers. Conditions: where the lists lie, and the lengths that are typed.
-/
import Derived.Test.YtgoafhmmaepcjaaMem
import Derived.Test.YtgoafhmmaepcjaaRows
import Derived.WalkLawsBesides
import Derived.WalkSpells
import Derived.Outline
import Derived.BigQuiet
import Derived.Deep.QuietTactic
import Derived.OpenShut
namespace Go.Proofs.Ytgoafhmmaepcjaa
open Go.RowKit
set_option linter.unusedVariables false

theorem info3 : (Try.prog.info? 3).map (fun i => (i.zero, i.size, i.bytes)) = some (some (.int .i64 0), 1, 8) := by kernel_rfl

/-- Numbers as values. -/
def ints (xs : List Int) : List Value := xs.map (Value.int .i64)
theorem ints_len (xs : List Int) : (ints xs).length = xs.length := by simp [ints]
theorem ints_get (xs : List Int) (j : Nat) (h : j < xs.length) : (ints xs)[j]? = some (.int .i64 (xs.getD j 0)) := by
  simp [ints, List.getD_eq_getElem?_getD, List.getElem?_eq_getElem h]
theorem ints_set (xs : List Int) (k : Nat) (x : Int) : (ints xs).set k (.int .i64 x) = ints (xs.set k x) := by simp [ints, List.map_set]
theorem ints_app (xs ys : List Int) : ints (xs ++ ys) = ints xs ++ ints ys := by simp [ints]

/-- The cells from off on of block b are the numbers xs. -/
def At (w : World) (b off : Nat) (xs : List Int) : Prop := b < w.heap.size ∧ ∀ j, j < xs.length → w.cell? ⟨b, off + j, none⟩ = some (.int .i64 (xs.getD j 0))
theorem At.below {w w' : World} {b off B : Nat} {xs : List Int} (h : At w b off xs) (hb : Below B w w') (hB : b < B) : At w' b off xs :=
  ⟨Nat.lt_of_lt_of_le h.1 hb.size, fun j hj => (hb.cell (p := ⟨b, off + j, none⟩) hB).trans (h.2 j hj)⟩
theorem At.drewN {w : World} {b off : Nat} {xs : List Int} (h : At w b off xs) (n : Nat) : At (w.drewN n) b off xs := h

/-- A row of the call's own, at block g. -/
def OwnI (w : World) (B g cap : Nat) (xs : List Int) : Prop := w.ownsRow B 3 1 (.slice (some ⟨g, 0, none⟩) xs.length cap) xs.length (ints xs)
theorem OwnI.at_ {w : World} {B g cap : Nat} {xs : List Int} (h : OwnI w B g cap xs) : At w g 0 xs := by
  refine ⟨(h.lt g rfl).2, fun j hj => ?_⟩
  have := h.cellAt j (by omega)
  rw [Nat.zero_add, this, ints_get xs j hj]
theorem OwnI.ge {w : World} {B g cap : Nat} {xs : List Int} (h : OwnI w B g cap xs) : B ≤ g := (h.lt g rfl).1
theorem OwnI.kept {w w' : World} {B g g' cap : Nat} {xs : List Int} (h : OwnI w B g cap xs) (hg : w.grownBy w' (some g')) (hne : g ≠ g') : OwnI w' B g cap xs :=
  World.ownsRow.kept h hg (.inr (by simp [Value.ownBlock]; exact hne))
theorem own_below {w w' : World} {B B' e n : Nat} {v : Value} {xs : List Value} (h : w.ownsRow B e 1 v n xs) (hb : Below B' w w') (hB : ∀ g, v.ownBlock = some g → g < B') : w'.ownsRow B e 1 v n xs := by
  obtain ⟨h1, h2⟩ := h
  refine ⟨h1, ?_⟩
  rcases h2 with h2 | ⟨g, cap, cur, a, b, c, d⟩
  · exact .inl h2
  · exact .inr ⟨g, cap, cur, a, b, by rw [hb.block g (hB g (by rw [a]; rfl))]; exact c, d⟩
theorem own_base {w : World} {B B' e n : Nat} {v : Value} {xs : List Value} (h : w.ownsRow B e 1 v n xs) (hB : ∀ g, v.ownBlock = some g → B' ≤ g) : w.ownsRow B' e 1 v n xs := by
  obtain ⟨h1, h2⟩ := h
  refine ⟨h1, ?_⟩
  rcases h2 with h2 | ⟨g, cap, cur, a, b, c, d⟩
  · exact .inl h2
  · exact .inr ⟨g, cap, cur, a, hB g (by rw [a]; rfl), c, d⟩
theorem OwnI.below {w w' : World} {B B' g cap : Nat} {xs : List Int} (h : OwnI w B g cap xs) (hb : Below B' w w') (hg : g < B') : OwnI w' B g cap xs :=
  own_below h hb (fun k hk => by simp [Value.ownBlock] at hk; omega)

theorem fill_step (xs : List Int) (n k : Nat) (hn : xs.length = n) (h : k < n) : (xs.take k ++ List.replicate (n - k) (0 : Int)).set k (xs.getD k 0) = xs.take (k + 1) ++ List.replicate (n - (k + 1)) 0 := by
  have hk : (xs.take k).length = k := by rw [List.length_take]; omega
  have e : xs.take (k + 1) = xs.take k ++ [xs.getD k 0] := by
    rw [List.take_add_one, List.getElem?_eq_getElem (by omega : k < xs.length)]
    simp [List.getD_eq_getElem?_getD, List.getElem?_eq_getElem (by omega : k < xs.length)]
  obtain ⟨m, hm⟩ : ∃ m, n - k = m + 1 := ⟨n - k - 1, by omega⟩
  rw [e, List.set_append, if_neg (by omega), hk, Nat.sub_self, hm, List.replicate_succ, List.set_cons_zero, show n - (k + 1) = m from by omega]
  simp
theorem fill_len (xs : List Int) (n k : Nat) (hn : xs.length = n) (h : k ≤ n) : (xs.take k ++ List.replicate (n - k) (0 : Int)).length = n := by
  rw [List.length_append, List.length_take, List.length_replicate]; omega

set_option maxHeartbeats 800000 in
theorem toI_at (w : World) (b off c n : Nat) (xs : List Int) (hn : xs.length = n) (hn2 : n ≤ 1048576) (h : At w b off xs) :
    Calls Try.prog 35 #[.slice (some ⟨b, off, none⟩) n c] w
      fun e w' => e = .returned (.slice (some ⟨w.heap.size, 0, none⟩) n n) ∧ OwnI w' w.heap.size w.heap.size n xs ∧ Below w.heap.size w w' := by
  obtain ⟨i0, hi, hz0, hz1, hz2⟩ := info_parts info3
  have HI := Lib.hid hi
  have HZ0 := Lib.hid hz0
  have HZ1 := Lib.hid hz1
  have HZ2 := Lib.hid hz2
  have HN := Lib.hid hn
  have HC := Lib.hid h.2
  have hb := h.1
  clear hi hz0 hz1 hz2 h hn
  go_enter Try.func35, Try.ntmps35
  go_wp2_with (at_make; refine wpList_make_full _ rfl _ _ 29 rfl w.heap.size 3 i0 (.int .i64 0) 1 Try.underlying29 HI.out HZ0.out HZ1.out _ _ _ _ n rfl rfl rfl rfl (by rw [HZ2.out]; omega) (by unfold maxLen; omega) (Nat.le_refl _) ?_; intro w1 hown1 hg1; have hb1 := (Below.refl w.heap.size w).grown hg1 (Nat.le_refl _) (fun k hk => by cases hk))
  go_loopw [4] (fun i wr => ∃ k : Nat, k ≤ n ∧ i = .int .i64 k ∧ wr.ownsRow w.heap.size 3 1 (.slice (some ⟨w.heap.size, 0, none⟩) n n) n (ints (xs.take k ++ List.replicate (n - k) 0)) ∧ Below w.heap.size w wr) (fun i _ => n - (intOf i).toNat)
  case atStart =>
    refine ⟨0, Nat.zero_le _, rfl, ?_, hb1⟩
    have e : (madeCells (Value.int .i64 0).cells (n * 1)).toList = ints (xs.take 0 ++ List.replicate (n - 0) 0) := by
      rw [show (Value.int .i64 0).cells = #[.int .i64 0] from rfl, toList_madeCells_one]
      simp [ints]
    rw [← e]; exact hown1
  case round =>
    obtain ⟨k, hk, rfl, hown, hbel⟩ := hrel
    by_cases hlt : k < n
    · have hc1 := (hbel.cell (p := ⟨b, off + k, none⟩) hb).trans (HC.out k (by have := HN.out; omega))
      have hlen := fill_len xs n k HN.out (by omega)
      have hc2 := hown.cellAt k (by omega)
      rw [ints_get _ k (by rw [hlen]; exact hlt)] at hc2
      have hf2 := hown.frozenAt k
      have hst := hown.stored k (.int .i64 (xs.getD k 0))
      rw [ints_set, fill_step xs n k HN.out hlt] at hst
      have hb2 := hbel.setCell (p := ⟨w.heap.size, k, none⟩) (Nat.le_refl _) (.int .i64 (xs.getD k 0))
      have HST := Lib.hid hst.1
      clear hst hlen hown
      generalize (xs.take k ++ List.replicate (n - k) 0).getD k 0 = y at *
      generalize xs.getD k 0 = x at *
      go_wp2
      go_roundw
      case rel => exact ⟨k + 1, by omega, by go_num, HST.out, hb2⟩
      case measure => simp [intOf]; omega
    · go_wp2
      go_ret
      have e : xs.take k ++ List.replicate (n - k) 0 = xs := by
        have := HN.out
        rw [show n - k = 0 from by omega, List.take_of_length_le (by omega)]; simp
      rw [e] at hown
      refine ⟨rfl, ?_, hbel⟩
      unfold OwnI
      rw [HN.out]; exact hown

set_option maxHeartbeats 400000 in
theorem toI_nil (w : World) (A : Option Addr) (c : Nat) :
    Calls Try.prog 35 #[.slice A 0 c] w
      fun e w' => e = .returned (.slice (some ⟨w.heap.size, 0, none⟩) 0 0) ∧ OwnI w' w.heap.size w.heap.size 0 [] ∧ Below w.heap.size w w' := by
  obtain ⟨i0, hi, hz0, hz1, hz2⟩ := info_parts info3
  go_enter Try.func35, Try.ntmps35
  go_wp2_with (at_make; refine wpList_make_full _ rfl _ _ 29 rfl w.heap.size 3 i0 (.int .i64 0) 1 Try.underlying29 hi hz0 hz1 _ _ _ _ 0 rfl rfl rfl rfl (by rw [hz2]; omega) (by unfold maxLen; omega) (Nat.le_refl _) ?_; intro w1 hown1 hg1; have hb1 := (Below.refl w.heap.size w).grown hg1 (Nat.le_refl _) (fun k hk => by cases hk))
  refine wp_loop_rounds 1 ?_
  rw [rounds_succ]
  go_wp2
  go_ret
  exact ⟨rfl, by simpa [OwnI, ints, madeCells] using hown1, hb1⟩

/-- A value that is a list of numbers that can be read. -/
def Rds (w : World) (v : Value) (xs : List Int) : Prop := ∃ A c, v = .slice A xs.length c ∧ (0 < xs.length → ∃ b off, A = some ⟨b, off, none⟩ ∧ At w b off xs)
theorem Rds.drewN {w : World} {v : Value} {xs : List Int} (h : Rds w v xs) (n : Nat) : Rds (w.drewN n) v xs := h
theorem Rds.of_at {w : World} {b off c : Nat} {xs : List Int} (h : At w b off xs) : Rds w (.slice (some ⟨b, off, none⟩) xs.length c) xs := ⟨_, c, rfl, fun _ => ⟨b, off, rfl, h⟩⟩
theorem Rds.nil {w : World} {A : Option Addr} {c : Nat} : Rds w (.slice A 0 c) [] := ⟨A, c, rfl, fun h => absurd h (by simp)⟩
theorem Rds.of_own {w : World} {B : Nat} {v : Value} {xs : List Int} (h : w.ownsRow B 3 1 v xs.length (ints xs)) : Rds w v xs := by
  obtain ⟨A, c, rfl⟩ := own_form h
  refine ⟨A, c, rfl, fun h0 => ?_⟩
  rcases h.2 with ⟨_, h1⟩ | ⟨g, cap, cur, hv, _⟩
  · omega
  · have e : A = some ⟨g, 0, none⟩ := by injection hv
    subst e
    exact ⟨g, 0, rfl, (OwnI.at_ (g := g) (cap := c) h)⟩
/-- The block of a value lies below B. -/
def Lies (B : Nat) (v : Value) (xs : List Int) : Prop := 0 < xs.length → ∀ g, v.ownBlock = some g → g < B
theorem Rds.below {w w' : World} {B : Nat} {v : Value} {xs : List Int} (h : Rds w v xs) (hb : Below B w w') (hv : Lies B v xs) : Rds w' v xs := by
  obtain ⟨A, c, rfl, h1⟩ := h
  refine ⟨A, c, rfl, fun h0 => ?_⟩
  obtain ⟨b, off, rfl, ha⟩ := h1 h0
  exact ⟨b, off, rfl, ha.below hb (hv h0 b rfl)⟩

/-- What toIntS leaves: a copy. -/
theorem toI_any (w : World) (v : Value) (xs : List Int) (h : Rds w v xs) (hn : xs.length ≤ 1048576) :
    Calls Try.prog 35 #[v] w
      fun e w' => e = .returned (.slice (some ⟨w.heap.size, 0, none⟩) xs.length xs.length) ∧ OwnI w' w.heap.size w.heap.size xs.length xs ∧ Below w.heap.size w w' := by
  obtain ⟨A, c, rfl, h1⟩ := h
  rcases Nat.eq_zero_or_pos xs.length with h0 | h0
  · obtain rfl : xs = [] := List.eq_nil_of_length_eq_zero h0
    exact toI_nil w A c
  · obtain ⟨b, off, rfl, ha⟩ := h1 h0
    exact toI_at w b off c xs.length xs rfl hn ha

theorem getD_ext {xs ys : List Int} (hl : xs.length = ys.length) (h : ∀ j, j < xs.length → xs.getD j 0 = ys.getD j 0) : xs = ys := by
  apply List.ext_getElem hl
  intro j h1 h2
  have := h j h1
  simpa [List.getD_eq_getElem?_getD, List.getElem?_eq_getElem h1, List.getElem?_eq_getElem h2] using this

set_option maxHeartbeats 800000 in
theorem eqI_at (w : World) (b off c b2 off2 c2 n : Nat) (xs ys : List Int) (hx : xs.length = n) (hy : ys.length = n) (hn2 : n ≤ 1048576) (h : At w b off xs) (h2 : At w b2 off2 ys) :
    Calls Try.prog 37 #[.slice (some ⟨b, off, none⟩) n c, .slice (some ⟨b2, off2, none⟩) n c2] w
      fun e w' => e = .returned (.bool (decide (xs = ys))) ∧ ∃ m, w' = w.drewN m := by
  have HX := Lib.hid hx
  have HY := Lib.hid hy
  have HC := Lib.hid h.2
  have HC2 := Lib.hid h2.2
  clear h h2 hx hy
  go_enter Try.func37, Try.ntmps37
  go_wp2
  go_loopw [5] (fun i wr => ∃ k m : Nat, k ≤ n ∧ i = .int .i64 k ∧ wr = w.drewN m ∧ ∀ j, j < k → xs.getD j 0 = ys.getD j 0) (fun i _ => n - (intOf i).toNat)
  case atStart => exact ⟨0, 0, Nat.zero_le _, rfl, rfl, fun j hj => absurd hj (by omega)⟩
  case round =>
    obtain ⟨k, m, hk, rfl, rfl, hall⟩ := hrel
    have HA := Lib.hid hall
    clear hall
    by_cases hlt : k < n
    · have hc1 := HC.out k (by have := HX.out; omega)
      have hc2 := HC2.out k (by have := HY.out; omega)
      have hk0 : (0 : Int) ≤ (k : Int) := by omega
      have hkn : (k : Int) < (n : Int) := by omega
      by_cases he : xs.getD k 0 = ys.getD k 0
      · have HE := Lib.hid he
        rw [← he] at hc2
        clear he
        generalize xs.getD k 0 = x at hc1 hc2
        go_wp2
        go_quiet (fail)
        go_wp2
        go_roundw
        case rel =>
          refine ⟨k + 1, m + nq, by omega, by go_num, rfl, fun j hj => ?_⟩
          rcases (show j < k ∨ j = k from by omega) with h | h
          · exact HA.out j h
          · rw [h]; exact HE.out
        case measure => simp [intOf]; omega
      · have HE := Lib.hid he
        have hxy : (xs.getD k 0 != ys.getD k 0) = true := by simpa using he
        clear he
        generalize xs.getD k 0 = x at hc1 hxy
        generalize ys.getD k 0 = y at hc2 hxy
        go_wp2
        go_quiet (fail)
        go_wp2
        go_ret
        exact ⟨ret_bool (by symm; simp; intro e; exact HE.out (by rw [e])), m + nq, by rw [World.drewN_drewN]⟩
    · go_wp2
      go_ret
      have e : xs = ys := getD_ext (HX.out.trans HY.out.symm) (fun j hj => HA.out j (by have := HX.out; omega))
      exact ⟨ret_bool (by simp [e]), m, rfl⟩

set_option maxHeartbeats 400000 in
theorem eqI_nil (w : World) (A A2 : Option Addr) (c c2 : Nat) :
    Calls Try.prog 37 #[.slice A 0 c, .slice A2 0 c2] w fun e w' => e = .returned (.bool true) ∧ w' = w := by
  go_enter Try.func37, Try.ntmps37
  go_wp2
  refine wp_loop_rounds 1 ?_
  rw [rounds_succ]
  go_wp2
  go_ret
  exact ⟨rfl, rfl⟩

/-- Two lists of the same numbers are found equal. -/
theorem eqI_same (w : World) (v u : Value) (xs : List Int) (h : Rds w v xs) (h2 : Rds w u xs) (hn : xs.length ≤ 1048576) :
    Calls Try.prog 37 #[v, u] w fun e w' => e = .returned (.bool true) ∧ ∃ m, w' = w.drewN m := by
  obtain ⟨A, c, rfl, h1⟩ := h
  obtain ⟨A2, c2, rfl, h3⟩ := h2
  rcases Nat.eq_zero_or_pos xs.length with h0 | h0
  · rw [h0]
    exact (eqI_nil w A A2 c c2).mono fun e w' ⟨h1, h2⟩ => ⟨h1, 0, h2⟩
  · obtain ⟨b, off, rfl, ha⟩ := h1 h0
    obtain ⟨b2, off2, rfl, ha2⟩ := h3 h0
    have := eqI_at w b off c b2 off2 c2 xs.length xs xs rfl rfl hn ha ha2
    simpa using this

/-- k, k + 1, and so on: n numbers. -/
def seqI (k : Int) (n : Nat) : List Int := (List.range n).map fun (j : Nat) => k + (j : Int)
theorem seqI_len (k : Int) (n : Nat) : (seqI k n).length = n := by simp [seqI]
theorem seqI_get (k : Int) (n j : Nat) (h : j < n) : (seqI k n).getD j 0 = k + j := by
  simp [seqI, List.getD_eq_getElem?_getD, h]
theorem seqI_succ (k : Int) (n : Nat) : seqI k (n + 1) = seqI k n ++ [k + (n : Int)] := by simp [seqI, List.range_succ]
theorem mark_step (k0 : Int) (xs : List Int) (k : Nat) (h : k < xs.length) : (seqI k0 k ++ xs.drop k).set k (k0 + (k : Int)) = seqI k0 (k + 1) ++ xs.drop (k + 1) := by
  rw [List.set_append, if_neg (by rw [seqI_len]; omega), seqI_len, Nat.sub_self, List.drop_eq_getElem_cons h, List.set_cons_zero, seqI_succ]
  simp
theorem mark_len (k0 : Int) (xs : List Int) (k : Nat) (h : k ≤ xs.length) : (seqI k0 k ++ xs.drop k).length = xs.length := by
  rw [List.length_append, seqI_len, List.length_drop]; omega
theorem grown_trans' {a b c : World} {row : Option Nat} (h : a.grownBy b row) (k : b.grownBy c row) : a.grownBy c row :=
  ⟨k.os.trans h.os, k.tape.trans h.tape, k.output.trans h.output, Nat.le_trans h.size k.size, fun i hi hn => (k.block i (Nat.lt_of_lt_of_le hi h.size) hn).trans (h.block i hi hn)⟩

theorem rds_of_row {w : World} {a : Option Addr} {len cap : Nat} {zs : List Int} (h : IsRow .i64 w a len cap zs) : ∃ xs, xs.length = len ∧ Rds w (.slice a len cap) xs ∧ Lies w.heap.size (.slice a len cap) xs := by
  rcases h with ⟨rfl, rfl, rfl, rfl⟩ | ⟨⟨b, off, spot⟩, rfl, hlc, _, hzl, hc, _⟩
  · exact ⟨[], rfl, Rds.nil, fun h0 => absurd h0 (by simp)⟩
  · have hlen : (zs.take len).length = len := by rw [List.length_take]; omega
    rcases Nat.eq_zero_or_pos cap with h0 | h0
    · obtain rfl : len = 0 := by omega
      exact ⟨[], rfl, Rds.nil, fun h0 => absurd h0 (by simp)⟩
    · have hc0 := hc 0 (by omega)
      have hspot : spot = none := by simpa [Addr.add] using World.cell?_spot hc0
      subst hspot
      have hb : b < w.heap.size := by simpa [Addr.add] using World.block_lt_of_cell? w _ hc0
      refine ⟨zs.take len, hlen, ⟨_, cap, by rw [hlen], fun _ => ⟨b, off, rfl, hb, fun j hj => ?_⟩⟩, fun _ g hg => by simp [Value.ownBlock] at hg; omega⟩
      rw [hlen] at hj
      have := hc j (by omega)
      have e : (⟨b, off, none⟩ : Addr).add j = ⟨b, off + j, none⟩ := by unfold Addr.add; split <;> simp_all
      rw [e] at this
      rw [this]
      simp [List.getD_eq_getElem?_getD, hj]
theorem Rds.grown {w w' : World} {v : Value} {xs : List Int} {g : Nat} (h : Rds w v xs) (hg : w.grownBy w' (some g)) (hv : 0 < xs.length → v.ownBlock ≠ some g) : Rds w' v xs := by
  obtain ⟨A, c, rfl, h1⟩ := h
  refine ⟨A, c, rfl, fun h0 => ?_⟩
  obtain ⟨b, off, rfl, ha⟩ := h1 h0
  have hb : b < w.heap.size := ha.1
  refine ⟨b, off, rfl, Nat.lt_of_lt_of_le hb hg.size, fun j hj => ?_⟩
  rw [World.cell?_of_block (w := w) (w' := w') (a := ⟨b, off + j, none⟩) (hg.block b hb (fun e => hv h0 (by rw [← e]; rfl)))]
  exact ha.2 j hj
theorem own_lies {w : World} {B n : Nat} {v : Value} {zs : List Value} {xs : List Int} (h : w.ownsRow B 3 1 v n zs) : Lies w.heap.size v xs := fun _ g hg => (h.lt g hg).2
theorem Lies.mono {B B' : Nat} {v : Value} {xs : List Int} (h : Lies B v xs) (hB : B ≤ B') : Lies B' v xs := fun h0 g hg => Nat.lt_of_lt_of_le (h h0 g hg) hB
theorem Lies.ne {B g : Nat} {v : Value} {xs : List Int} (h : Lies B v xs) (hg : B ≤ g) : 0 < xs.length → v.ownBlock ≠ some g := fun h0 he => by have := h h0 g he; omega
theorem below_grown {B g : Nat} {w w1 w2 : World} (h : Below B w w1) (hg : w1.grownBy w2 (some g)) (hB : B ≤ g) (hs : B ≤ w1.heap.size) : Below B w w2 :=
  h.grown hg hs (fun k hk => by cases hk; exact hB)
theorem below_row {B : Nat} {w w1 w2 : World} {row : Option Nat} (h : Below B w w1) (hg : w1.grownBy w2 row) (hB : ∀ g, row = some g → B ≤ g) (hs : B ≤ w1.heap.size) : Below B w w2 :=
  h.grown hg hs hB
theorem Rds.grownRow {w w' : World} {v : Value} {xs : List Int} {row : Option Nat} (h : Rds w v xs) (hg : w.grownBy w' row) (hv : 0 < xs.length → ∀ g, row = some g → v.ownBlock ≠ some g) : Rds w' v xs := by
  cases row with
  | none =>
    obtain ⟨A, c, rfl, h1⟩ := h
    refine ⟨A, c, rfl, fun h0 => ?_⟩
    obtain ⟨b, off, rfl, ha⟩ := h1 h0
    have hb : b < w.heap.size := ha.1
    refine ⟨b, off, rfl, Nat.lt_of_lt_of_le hb hg.size, fun j hj => ?_⟩
    rw [World.cell?_of_block (w := w) (w' := w') (a := ⟨b, off + j, none⟩) (hg.block b hb (fun e => by cases e))]
    exact ha.2 j hj
  | some g => exact h.grown hg (fun h0 => hv h0 g rfl)
/-- Behind an append onto an own row what was there before is as it was. -/
theorem push_below {B : Nat} {w W w1 : World} {e n : Nat} {v : Value} {xs : List Value} {o : Obj} (hown : W.ownsRow B e 1 v n xs) (hg : (W.alloc o).grownBy w1 v.ownBlock) (hb : Below B w W) (hB : B ≤ W.heap.size) : Below B w w1 ∧ B ≤ w1.heap.size := by
  refine ⟨(hb.alloc hB o).grown hg (by simp; omega) (fun j hj => (hown.lt j hj).1), ?_⟩
  have := hg.size
  simp at this; omega
theorem two_cells (x y : Value) (hx : x.oneCell' = true) (hy : y.oneCell' = true) : ∀ u ∈ [x, y], u.oneCell' = true := by
  intro u hu; simp at hu; rcases hu with rfl | rfl <;> assumption
theorem ownI_snoc {w1 : World} {B e : Nat} {v : Value} {l : List Int} {x : Int} (h : w1.ownsRow B e 1 v (l.length + 1) (ints l ++ [.int .i64 x])) : w1.ownsRow B e 1 v (l ++ [x]).length (ints (l ++ [x])) := by
  rw [ints_app]; simpa [ints] using h
theorem ownI_snoc2 {w1 : World} {B e : Nat} {v : Value} {l : List Int} {x y : Int} (h : w1.ownsRow B e 1 v (l.length + 2) (ints l ++ [.int .i64 x, .int .i64 y])) : w1.ownsRow B e 1 v (l ++ [x, y]).length (ints (l ++ [x, y])) := by
  rw [ints_app]; simpa [ints] using h

theorem mx : maxLen = 9223372036854775807 := rfl
theorem own_form_some {w : World} {B e n : Nat} {v : Value} {xs : List Value} (h : w.ownsRow B e 1 v n xs) (hn : 0 < n) : ∃ g c, v = .slice (some ⟨g, 0, none⟩) n c := by
  rcases h.2 with ⟨_, h0⟩ | ⟨g, cap, cur, rfl, _⟩
  · omega
  · exact ⟨g, cap, rfl⟩
/-- The two results of a call, the first in memory of the call's own. -/
def UnPost (r : Option (List Int)) (w : World) (e : Ending) (w' : World) : Prop :=
  ∃ u, e = .returned (.tuple #[u, .bool r.isSome]) ∧ w'.ownsRow w.heap.size 3 1 u (r.getD []).length (ints (r.getD [])) ∧ Below w.heap.size w w'
theorem unPost_none {w w' : World} {r : Option (List Int)} (h : r = none) (hb : Below w.heap.size w w') : UnPost r w (.returned (.tuple #[.slice none 0 0, .bool false])) w' := by
  subst h
  exact ⟨_, rfl, World.ownsRow_nil _ _ _ _, hb⟩
theorem unPost_some {w w' : World} {r : Option (List Int)} {o : List Int} {v : Value} (h : r = some o) (ho : w'.ownsRow w.heap.size 3 1 v o.length (ints o)) (hb : Below w.heap.size w w') : UnPost r w (.returned (.tuple #[v, .bool true])) w' := by
  subst h
  exact ⟨_, rfl, ho, hb⟩

end Go.Proofs.Ytgoafhmmaepcjaa
