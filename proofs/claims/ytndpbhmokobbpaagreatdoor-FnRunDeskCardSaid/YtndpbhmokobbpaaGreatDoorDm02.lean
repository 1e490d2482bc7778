/-
  The walks of the functions that copy, compare and measure lists of texts. Conditions: where the lists lie, and the lengths that are typed.
-/
import Derived.Test.YtndpbhmokobbpaaGreatDoorDm01
import Derived.Test.YtndpbhmokobbpaaGreatDoorRows
import Derived.WalkLawsBesides
import Derived.WalkSpells
import Derived.Outline
import Derived.BigQuiet
import Derived.Deep.QuietTactic
import Derived.OpenShut
namespace Go.Proofs.YtndpbhmokobbpaaGreatDoor
open Go.RowKit
set_option linter.unusedVariables false

theorem infoS : (Tryz.prog.info? 9).map (fun i => (i.zero, i.size, i.bytes)) = some (some (.string ByteArray.empty), 1, 16) := by kernel_rfl

/-- Texts as values. -/
def strv (xs : List ByteArray) : List Value := xs.map Value.string
theorem strv_len (xs : List ByteArray) : (strv xs).length = xs.length := by simp [strv]
theorem strv_get (xs : List ByteArray) (j : Nat) (h : j < xs.length) : (strv xs)[j]? = some (.string (xs.getD j ByteArray.empty)) := by
  simp [strv, List.getD_eq_getElem?_getD, List.getElem?_eq_getElem h]
theorem strv_set (xs : List ByteArray) (k : Nat) (x : ByteArray) : (strv xs).set k (.string x) = strv (xs.set k x) := by simp [strv, List.map_set]
theorem strv_app (xs ys : List ByteArray) : strv (xs ++ ys) = strv xs ++ strv ys := by simp [strv]

/-- The cells from off on of block b are the texts xs. -/
def AtS (w : World) (b off : Nat) (xs : List ByteArray) : Prop := b < w.heap.size ∧ ∀ j, j < xs.length → w.cell? ⟨b, off + j, none⟩ = some (.string (xs.getD j ByteArray.empty))
theorem AtS.below {w w' : World} {b off B : Nat} {xs : List ByteArray} (h : AtS w b off xs) (hb : Below B w w') (hB : b < B) : AtS w' b off xs :=
  ⟨Nat.lt_of_lt_of_le h.1 hb.size, fun j hj => (hb.cell (p := ⟨b, off + j, none⟩) hB).trans (h.2 j hj)⟩
theorem AtS.drewN {w : World} {b off : Nat} {xs : List ByteArray} (h : AtS w b off xs) (n : Nat) : AtS (w.drewN n) b off xs := h
/-- A row of the call's own, at block g. -/
def OwnS (w : World) (B g cap : Nat) (xs : List ByteArray) : Prop := w.ownsRow B 9 1 (.slice (some ⟨g, 0, none⟩) xs.length cap) xs.length (strv xs)
theorem OwnS.at_ {w : World} {B g cap : Nat} {xs : List ByteArray} (h : OwnS w B g cap xs) : AtS w g 0 xs := by
  refine ⟨(h.lt g rfl).2, fun j hj => ?_⟩
  have := h.cellAt j (by omega)
  rw [Nat.zero_add, this, strv_get xs j hj]
theorem own_belowS {w w' : World} {B B' e n : Nat} {v : Value} {xs : List Value} (h : w.ownsRow B e 1 v n xs) (hb : Below B' w w') (hB : ∀ g, v.ownBlock = some g → g < B') : w'.ownsRow B e 1 v n xs := by
  obtain ⟨h1, h2⟩ := h
  refine ⟨h1, ?_⟩
  rcases h2 with h2 | ⟨g, cap, cur, a, b, c, d⟩
  · exact .inl h2
  · exact .inr ⟨g, cap, cur, a, b, by rw [hb.block g (hB g (by rw [a]; rfl))]; exact c, d⟩
theorem OwnS.below {w w' : World} {B B' g cap : Nat} {xs : List ByteArray} (h : OwnS w B g cap xs) (hb : Below B' w w') (hg : g < B') : OwnS w' B g cap xs :=
  own_belowS h hb (fun k hk => by simp [Value.ownBlock] at hk; omega)
theorem fill_stepS (xs : List ByteArray) (n k : Nat) (hn : xs.length = n) (h : k < n) : (xs.take k ++ List.replicate (n - k) ByteArray.empty).set k (xs.getD k ByteArray.empty) = xs.take (k + 1) ++ List.replicate (n - (k + 1)) ByteArray.empty := by
  have hk : (xs.take k).length = k := by rw [List.length_take]; omega
  have e : xs.take (k + 1) = xs.take k ++ [xs.getD k ByteArray.empty] := by
    rw [List.take_add_one, List.getElem?_eq_getElem (by omega : k < xs.length)]
    simp [List.getD_eq_getElem?_getD, List.getElem?_eq_getElem (by omega : k < xs.length)]
  obtain ⟨m, hm⟩ : ∃ m, n - k = m + 1 := ⟨n - k - 1, by omega⟩
  rw [e, List.set_append, if_neg (by omega), hk, Nat.sub_self, hm, List.replicate_succ, List.set_cons_zero, show n - (k + 1) = m from by omega]
  simp
theorem fill_lenS (xs : List ByteArray) (n k : Nat) (hn : xs.length = n) (h : k ≤ n) : (xs.take k ++ List.replicate (n - k) ByteArray.empty).length = n := by
  rw [List.length_append, List.length_take, List.length_replicate]; omega

set_option maxHeartbeats 800000 in
theorem toS_at (w : World) (b off c n : Nat) (xs : List ByteArray) (hn : xs.length = n) (hn2 : n ≤ 1048576) (h : AtS w b off xs) :
    Calls Tryz.prog 7 #[.slice (some ⟨b, off, none⟩) n c] w
      fun e w' => e = .returned (.slice (some ⟨w.heap.size, 0, none⟩) n n) ∧ OwnS w' w.heap.size w.heap.size n xs ∧ Below w.heap.size w w' := by
  obtain ⟨i0, hi, hz0, hz1, hz2⟩ := info_parts infoS
  have HI := Lib.hid hi
  have HZ0 := Lib.hid hz0
  have HZ1 := Lib.hid hz1
  have HZ2 := Lib.hid hz2
  have HN := Lib.hid hn
  have HC := Lib.hid h.2
  have hb := h.1
  clear hi hz0 hz1 hz2 h hn
  go_enter Tryz.func7, Tryz.ntmps7
  go_wp2_with (at_make; refine wpList_make_full _ rfl _ _ 22 rfl w.heap.size 9 i0 (.string ByteArray.empty) 1 Tryz.underlying22 HI.out HZ0.out HZ1.out _ _ _ _ n rfl rfl rfl rfl (by rw [HZ2.out]; omega) (by unfold maxLen; omega) (Nat.le_refl _) ?_; intro w1 hown1 hg1; have hb1 := (Below.refl w.heap.size w).grown hg1 (Nat.le_refl _) (fun k hk => by cases hk))
  go_loopw [4] (fun i wr => ∃ k : Nat, k ≤ n ∧ i = .int .i64 k ∧ wr.ownsRow w.heap.size 9 1 (.slice (some ⟨w.heap.size, 0, none⟩) n n) n (strv (xs.take k ++ List.replicate (n - k) ByteArray.empty)) ∧ Below w.heap.size w wr) (fun i _ => n - (intOf i).toNat)
  case atStart =>
    refine ⟨0, Nat.zero_le _, rfl, ?_, hb1⟩
    have e : (madeCells (Value.string ByteArray.empty).cells (n * 1)).toList = strv (xs.take 0 ++ List.replicate (n - 0) ByteArray.empty) := by
      rw [show (Value.string ByteArray.empty).cells = #[.string ByteArray.empty] from rfl, toList_madeCells_one]
      simp [strv]
    rw [← e]; exact hown1
  case round =>
    obtain ⟨k, hk, rfl, hown, hbel⟩ := hrel
    by_cases hlt : k < n
    · have hc1 := (hbel.cell (p := ⟨b, off + k, none⟩) hb).trans (HC.out k (by have := HN.out; omega))
      have hlen := fill_lenS xs n k HN.out (by omega)
      have hc2 := hown.cellAt k (by omega)
      rw [strv_get _ k (by rw [hlen]; exact hlt)] at hc2
      have hf2 := hown.frozenAt k
      have hst := hown.stored k (.string (xs.getD k ByteArray.empty))
      rw [strv_set, fill_stepS xs n k HN.out hlt] at hst
      have hb2 := hbel.setCell (p := ⟨w.heap.size, k, none⟩) (Nat.le_refl _) (.string (xs.getD k ByteArray.empty))
      have HST := Lib.hid hst.1
      clear hst hlen hown
      generalize (xs.take k ++ List.replicate (n - k) ByteArray.empty).getD k ByteArray.empty = y at *
      generalize xs.getD k ByteArray.empty = x at *
      go_wp2
      go_roundw
      case rel => exact ⟨k + 1, by omega, by go_num, HST.out, hb2⟩
      case measure => simp [intOf]; omega
    · go_wp2
      go_ret
      have e : xs.take k ++ List.replicate (n - k) ByteArray.empty = xs := by
        have := HN.out
        rw [show n - k = 0 from by omega, List.take_of_length_le (by omega)]; simp
      rw [e] at hown
      refine ⟨rfl, ?_, hbel⟩
      unfold OwnS
      rw [HN.out]; exact hown
set_option maxHeartbeats 400000 in
theorem toS_nil (w : World) (A : Option Addr) (c : Nat) :
    Calls Tryz.prog 7 #[.slice A 0 c] w
      fun e w' => e = .returned (.slice (some ⟨w.heap.size, 0, none⟩) 0 0) ∧ OwnS w' w.heap.size w.heap.size 0 [] ∧ Below w.heap.size w w' := by
  obtain ⟨i0, hi, hz0, hz1, hz2⟩ := info_parts infoS
  go_enter Tryz.func7, Tryz.ntmps7
  go_wp2_with (at_make; refine wpList_make_full _ rfl _ _ 22 rfl w.heap.size 9 i0 (.string ByteArray.empty) 1 Tryz.underlying22 hi hz0 hz1 _ _ _ _ 0 rfl rfl rfl rfl (by rw [hz2]; omega) (by unfold maxLen; omega) (Nat.le_refl _) ?_; intro w1 hown1 hg1; have hb1 := (Below.refl w.heap.size w).grown hg1 (Nat.le_refl _) (fun k hk => by cases hk))
  refine wp_loop_rounds 1 ?_
  rw [rounds_succ]
  go_wp2
  go_ret
  exact ⟨rfl, by simpa [OwnS, strv, madeCells] using hown1, hb1⟩

/-- A value that is a list of texts that can be read. -/
def Rss (w : World) (v : Value) (xs : List ByteArray) : Prop := ∃ A c, v = .slice A xs.length c ∧ (0 < xs.length → ∃ b off, A = some ⟨b, off, none⟩ ∧ AtS w b off xs)
theorem Rss.drewN {w : World} {v : Value} {xs : List ByteArray} (h : Rss w v xs) (n : Nat) : Rss (w.drewN n) v xs := h
theorem Rss.of_at {w : World} {b off c : Nat} {xs : List ByteArray} (h : AtS w b off xs) : Rss w (.slice (some ⟨b, off, none⟩) xs.length c) xs := ⟨_, c, rfl, fun _ => ⟨b, off, rfl, h⟩⟩
theorem Rss.nil {w : World} {A : Option Addr} {c : Nat} : Rss w (.slice A 0 c) [] := ⟨A, c, rfl, fun h => absurd h (by simp)⟩
/-- The block of a value lies below B. -/
def LiesS (B : Nat) (v : Value) (xs : List ByteArray) : Prop := 0 < xs.length → ∀ g, v.ownBlock = some g → g < B
theorem Rss.below {w w' : World} {B : Nat} {v : Value} {xs : List ByteArray} (h : Rss w v xs) (hb : Below B w w') (hv : LiesS B v xs) : Rss w' v xs := by
  obtain ⟨A, c, rfl, h1⟩ := h
  refine ⟨A, c, rfl, fun h0 => ?_⟩
  obtain ⟨b, off, rfl, ha⟩ := h1 h0
  exact ⟨b, off, rfl, ha.below hb (hv h0 b rfl)⟩
theorem LiesS.mono {B B' : Nat} {v : Value} {xs : List ByteArray} (h : LiesS B v xs) (hB : B ≤ B') : LiesS B' v xs := fun h0 g hg => Nat.lt_of_lt_of_le (h h0 g hg) hB
theorem toS_any (w : World) (v : Value) (xs : List ByteArray) (h : Rss w v xs) (hn : xs.length ≤ 1048576) :
    Calls Tryz.prog 7 #[v] w
      fun e w' => e = .returned (.slice (some ⟨w.heap.size, 0, none⟩) xs.length xs.length) ∧ OwnS w' w.heap.size w.heap.size xs.length xs ∧ Below w.heap.size w w' := by
  obtain ⟨A, c, rfl, h1⟩ := h
  rcases Nat.eq_zero_or_pos xs.length with h0 | h0
  · obtain rfl : xs = [] := List.eq_nil_of_length_eq_zero h0
    exact toS_nil w A c
  · obtain ⟨b, off, rfl, ha⟩ := h1 h0
    exact toS_at w b off c xs.length xs rfl hn ha

set_option maxHeartbeats 800000 in
theorem eqS_at (w : World) (b off c b2 off2 c2 n : Nat) (xs : List ByteArray) (hx : xs.length = n) (hn2 : n ≤ 1048576) (h : AtS w b off xs) (h2 : AtS w b2 off2 xs) :
    Calls Tryz.prog 9 #[.slice (some ⟨b, off, none⟩) n c, .slice (some ⟨b2, off2, none⟩) n c2] w
      fun e w' => e = .returned (.bool true) ∧ ∃ m, w' = w.drewN m := by
  have HX := Lib.hid hx
  have HC := Lib.hid h.2
  have HC2 := Lib.hid h2.2
  clear h h2 hx
  go_enter Tryz.func9, Tryz.ntmps9
  go_wp2
  go_loopw [5] (fun i wr => ∃ k m : Nat, k ≤ n ∧ i = .int .i64 k ∧ wr = w.drewN m) (fun i _ => n - (intOf i).toNat)
  case atStart => exact ⟨0, 0, Nat.zero_le _, rfl, rfl⟩
  case round =>
    obtain ⟨k, m, hk, rfl, rfl⟩ := hrel
    by_cases hlt : k < n
    · have hc1 := HC.out k (by have := HX.out; omega)
      have hc2 := HC2.out k (by have := HX.out; omega)
      have hk0 : (0 : Int) ≤ (k : Int) := by omega
      have hkn : (k : Int) < (n : Int) := by omega
      generalize xs.getD k ByteArray.empty = x at hc1 hc2
      go_wp2
      go_quiet (fail)
      go_wp2
      go_roundw
      case rel => exact ⟨k + 1, m + nq, by omega, by go_num, rfl⟩
      case measure => simp [intOf]; omega
    · go_wp2
      go_ret
      exact ⟨rfl, m, rfl⟩
set_option maxHeartbeats 400000 in
theorem eqS_nil (w : World) (A A2 : Option Addr) (c c2 : Nat) :
    Calls Tryz.prog 9 #[.slice A 0 c, .slice A2 0 c2] w fun e w' => e = .returned (.bool true) ∧ w' = w := by
  go_enter Tryz.func9, Tryz.ntmps9
  go_wp2
  refine wp_loop_rounds 1 ?_
  rw [rounds_succ]
  go_wp2
  go_ret
  exact ⟨rfl, rfl⟩
theorem eqS_same (w : World) (v u : Value) (xs : List ByteArray) (h : Rss w v xs) (h2 : Rss w u xs) (hn : xs.length ≤ 1048576) :
    Calls Tryz.prog 9 #[v, u] w fun e w' => e = .returned (.bool true) ∧ ∃ m, w' = w.drewN m := by
  obtain ⟨A, c, rfl, h1⟩ := h
  obtain ⟨A2, c2, rfl, h3⟩ := h2
  rcases Nat.eq_zero_or_pos xs.length with h0 | h0
  · rw [h0]
    exact (eqS_nil w A A2 c c2).mono fun e w' ⟨h1, h2⟩ => ⟨h1, 0, h2⟩
  · obtain ⟨b, off, rfl, ha⟩ := h1 h0
    obtain ⟨b2, off2, rfl, ha2⟩ := h3 h0
    exact eqS_at w b off c b2 off2 c2 xs.length xs rfl hn ha ha2

/-- What szStringS says: below 0, or all is short. -/
def SzPost (xs : List ByteArray) (w : World) (e : Ending) (w' : World) : Prop :=
  ∃ x : Int, e = .returned (.int .i64 x) ∧ (0 ≤ x → xs.length ≤ 1048576 ∧ ∀ j, j < xs.length → (xs.getD j ByteArray.empty).size ≤ 1048576) ∧ w' = w
set_option maxHeartbeats 800000 in
theorem szS_at (w : World) (b off c n : Nat) (xs : List ByteArray) (hx : xs.length = n) (hn2 : n ≤ maxLen) (hxs : ∀ j, j < n → (xs.getD j ByteArray.empty).size ≤ maxLen) (h : AtS w b off xs) :
    Calls Tryz.prog 5 #[.slice (some ⟨b, off, none⟩) n c, .int .i64 1048576] w (SzPost xs w) := by
  unfold maxLen at hn2 hxs
  have HX := Lib.hid hx
  have HC := Lib.hid h.2
  have HS := Lib.hid hxs
  clear h hx hxs
  by_cases hg : (1048576 : Int) - (n : Int) < 0
  · go_enter Tryz.func5, Tryz.ntmps5
    go_wp2
    go_ret
    exact ⟨_, rfl, fun h => by omega, rfl⟩
  · go_enter Tryz.func5, Tryz.ntmps5
    go_wp2
    go_loop [1, 5] (fun l i => ∃ (k : Nat) (y : Int), k ≤ n ∧ i = .int .i64 k ∧ l = .int .i64 y ∧ 0 ≤ y ∧ y ≤ 1048576 ∧ ∀ j, j < k → (xs.getD j ByteArray.empty).size ≤ 1048576) (fun _ i => n - (intOf i).toNat)
    case atStart => exact ⟨0, _, Nat.zero_le _, rfl, rfl, by omega, by omega, fun j hj => absurd hj (by omega)⟩
    case round =>
      obtain ⟨k, y, hk, rfl, rfl, hy0, hy1, hall⟩ := hrel
      have HA := Lib.hid hall
      clear hall
      by_cases hlt : k < n
      · have hc := HC.out k (by have := HX.out; omega)
        have hs := HS.out k hlt
        have HSN : Hid (∀ j, j < k → (xs.getD j ByteArray.empty).size ≤ 1048576) := HA.out
        have hE : ∃ x, x = xs.getD k ByteArray.empty := ⟨_, rfl⟩
        obtain ⟨x, hxk⟩ := hE
        rw [← hxk] at hc hs
        have HXK := Lib.hid hxk
        clear hxk
        by_cases hl : y - (x.size : Int) < 0
        · go_wp2
          go_ret
          exact ⟨_, rfl, fun h => by omega, rfl⟩
        · go_wp2
          go_round
          case rel =>
            refine ⟨k + 1, _, by omega, by go_num, rfl, by omega, by omega, fun j hj => ?_⟩
            rcases (show j < k ∨ j = k from by omega) with h | h
            · exact HA.out j h
            · rw [h, ← HXK.out]; omega
          case measure => simp [intOf]; omega
      · obtain rfl : k = n := by omega
        go_wp2
        go_ret
        exact ⟨_, rfl, fun _ => ⟨by rw [HX.out]; omega, fun j hj => HA.out j (by rw [← HX.out]; exact hj)⟩, rfl⟩
set_option maxHeartbeats 400000 in
theorem szS_nil (w : World) (A : Option Addr) (c : Nat) : Calls Tryz.prog 5 #[.slice A 0 c, .int .i64 1048576] w (SzPost [] w) := by
  go_enter Tryz.func5, Tryz.ntmps5
  go_wp2
  refine wp_loop_rounds 1 ?_
  rw [rounds_succ]
  go_wp2
  go_ret
  exact ⟨_, rfl, fun _ => ⟨by simp, fun j hj => absurd hj (by simp)⟩, rfl⟩
theorem szS_any (w : World) (v : Value) (xs : List ByteArray) (h : Rss w v xs) (hn : xs.length ≤ maxLen) (hxs : ∀ j, j < xs.length → (xs.getD j ByteArray.empty).size ≤ maxLen) :
    Calls Tryz.prog 5 #[v, .int .i64 1048576] w (SzPost xs w) := by
  obtain ⟨A, c, rfl, h1⟩ := h
  rcases Nat.eq_zero_or_pos xs.length with h0 | h0
  · obtain rfl : xs = [] := List.eq_nil_of_length_eq_zero h0
    exact szS_nil w A c
  · obtain ⟨b, off, rfl, ha⟩ := h1 h0
    exact szS_at w b off c xs.length xs rfl hn hxs ha
theorem rss_of_row {w : World} {x : Addr} {len cap : Nat} {ss : List ByteArray} (hlc : len ≤ cap) (hm : cap ≤ maxLen) (hz : ss.length = cap) (hc : ∀ i, i < ss.length → w.cell? (x.add i) = some (.string (ss.getD i ByteArray.empty))) (hs : ∀ s ∈ ss, s.size ≤ maxLen) :
    ∃ xs, Rss w (.slice (some x) len cap) xs ∧ LiesS w.heap.size (.slice (some x) len cap) xs ∧ xs.length ≤ maxLen ∧ ∀ j, j < xs.length → (xs.getD j ByteArray.empty).size ≤ maxLen := by
  obtain ⟨b, off, spot⟩ := x
  have hlen : (ss.take len).length = len := by rw [List.length_take]; omega
  rcases Nat.eq_zero_or_pos cap with h0 | h0
  · obtain rfl : len = 0 := by omega
    exact ⟨[], Rss.nil, fun h => absurd h (by simp), by simp, fun j hj => absurd hj (by simp)⟩
  · have hc0 := hc 0 (by omega)
    have hspot : spot = none := by simpa [Addr.add] using World.cell?_spot hc0
    subst hspot
    have hb : b < w.heap.size := by simpa [Addr.add] using World.block_lt_of_cell? w _ hc0
    refine ⟨ss.take len, ⟨_, cap, by rw [hlen], fun _ => ⟨b, off, rfl, hb, fun j hj => ?_⟩⟩, fun _ g hg => by simp [Value.ownBlock] at hg; omega, by omega, fun j hj => ?_⟩
    · rw [hlen] at hj
      have := hc j (by omega)
      have e : (⟨b, off, none⟩ : Addr).add j = ⟨b, off + j, none⟩ := by unfold Addr.add; split <;> simp_all
      rw [e] at this
      rw [this]
      simp [List.getD_eq_getElem?_getD, hj]
    · have hj2 : j < ss.length := by rw [hlen] at hj; omega
      have hj3 : j < len := by rw [hlen] at hj; exact hj
      have e : (ss.take len).getD j ByteArray.empty = ss[j] := by simp [List.getD_eq_getElem?_getD, hj3, hj2]
      rw [e]
      exact hs _ (List.getElem_mem hj2)
end Go.Proofs.YtndpbhmokobbpaaGreatDoor
