/-
  The walks of the functions that compare, mark and look over lists of bools. Conditions: where the lists lie, and the lengths that are typed.
-/
import Derived.Test.YteifojanklggmaaWai
namespace Go.Proofs.Yteifojanklggmaa
open Go.RowKit
set_option linter.unusedVariables false

theorem infoZ : (Try.prog.info? 4).map (fun i => (i.zero, i.size, i.bytes)) = some (some (.bool false), 1, 1) := by kernel_rfl
def bools (xs : List Bool) : List Value := xs.map Value.bool
theorem bools_len (xs : List Bool) : (bools xs).length = xs.length := by simp [bools]
theorem bools_get (xs : List Bool) (j : Nat) (h : j < xs.length) : (bools xs)[j]? = some (.bool (xs.getD j false)) := by
  simp [bools, List.getD_eq_getElem?_getD, List.getElem?_eq_getElem h]
theorem bools_set (xs : List Bool) (k : Nat) (x : Bool) : (bools xs).set k (.bool x) = bools (xs.set k x) := by simp [bools, List.map_set]
theorem bools_app (xs ys : List Bool) : bools (xs ++ ys) = bools xs ++ bools ys := by simp [bools]
/-- The cells from off on of block b are these. -/
def AtZ (w : World) (b off : Nat) (xs : List Bool) : Prop := b < w.heap.size ∧ ∀ j, j < xs.length → w.cell? ⟨b, off + j, none⟩ = some (.bool (xs.getD j false))
def RdsZ (w : World) (v : Value) (xs : List Bool) : Prop := ∃ A c, v = .slice A xs.length c ∧ (0 < xs.length → ∃ b off, A = some ⟨b, off, none⟩ ∧ AtZ w b off xs)
theorem RdsZ.drewN {w : World} {v : Value} {xs : List Bool} (h : RdsZ w v xs) (n : Nat) : RdsZ (w.drewN n) v xs := h
/-- A row of bools of the call's own. -/
def OwnZ (w : World) (B : Nat) (v : Value) (xs : List Bool) : Prop := w.ownsRow B 4 1 v xs.length (bools xs)
theorem OwnZ.form {w : World} {B : Nat} {v : Value} {xs : List Bool} (h : OwnZ w B v xs) : ∃ a c, v = .slice a xs.length c := own_form h
theorem OwnZ.alloc {w : World} {B : Nat} {v : Value} {xs : List Bool} (h : OwnZ w B v xs) (o : Obj) : OwnZ (w.alloc o) B v xs := World.ownsRow.alloc h o
theorem OwnZ.drewN {w : World} {B : Nat} {v : Value} {xs : List Bool} (h : OwnZ w B v xs) (n : Nat) : OwnZ (w.drewN n) B v xs := h
theorem OwnZ.nil (w : World) (B : Nat) : OwnZ w B (.slice none 0 0) [] := World.ownsRow_nil _ _ _ _
theorem OwnZ.below {w w' : World} {B B' : Nat} {v : Value} {xs : List Bool} (h : OwnZ w B v xs) (hb : Below B' w w') (hB : w.heap.size ≤ B') : OwnZ w' B v xs :=
  own_below h hb (fun g hg => by have := (World.ownsRow.lt h g hg).2; omega)
theorem OwnZ.base {w : World} {B B' : Nat} {v : Value} {xs : List Bool} (h : OwnZ w B v xs) (hB : B' ≤ B) : OwnZ w B' v xs :=
  own_base h (fun g hg => by have := (World.ownsRow.lt h g hg).1; omega)
theorem OwnZ.empty (w : World) (B : Nat) (hB : B ≤ w.heap.size) : OwnZ (w.alloc (.cells #[] 4)) B (.slice (some ⟨w.heap.size, 0, none⟩) 0 0) [] :=
  World.ownsRow_made (base := B) (e := 4) (size := 1) w #[] 0 hB (by unfold maxLen; omega) rfl
theorem OwnZ.at_ {w : World} {B g cap : Nat} {xs : List Bool} (h : OwnZ w B (.slice (some ⟨g, 0, none⟩) xs.length cap) xs) : AtZ w g 0 xs := by
  refine ⟨(World.ownsRow.lt h g rfl).2, fun j hj => ?_⟩
  have := World.ownsRow.cellAt h j (by omega)
  rw [Nat.zero_add, this, bools_get xs j hj]
theorem OwnZ.rds {w : World} {B : Nat} {v : Value} {xs : List Bool} (h : OwnZ w B v xs) : RdsZ w v xs := by
  obtain ⟨A, c, rfl⟩ := own_form h
  refine ⟨A, c, rfl, fun h0 => ?_⟩
  rcases h.2 with ⟨_, h1⟩ | ⟨g, cap, cur, hv, _⟩
  · omega
  · have e : A = some ⟨g, 0, none⟩ := by injection hv
    subst e
    exact ⟨g, 0, rfl, OwnZ.at_ h⟩

set_option maxHeartbeats 800000 in
theorem eqZ_at (w : World) (b off c b2 off2 c2 n : Nat) (xs : List Bool) (hx : xs.length = n) (hn2 : n ≤ 1048576) (h : AtZ w b off xs) (h2 : AtZ w b2 off2 xs) :
    Calls Try.prog 12 #[.slice (some ⟨b, off, none⟩) n c, .slice (some ⟨b2, off2, none⟩) n c2] w
      fun e w' => e = .returned (.bool true) ∧ ∃ m, w' = w.drewN m := by
  have HX := Lib.hid hx
  have HC := Lib.hid h.2
  have HC2 := Lib.hid h2.2
  clear h h2 hx
  go_enter Try.func12, Try.ntmps12
  go_wp2
  go_loopw [5] (fun i wr => ∃ k m : Nat, k ≤ n ∧ i = .int .i64 k ∧ wr = w.drewN m) (fun i _ => n - (intOf i).toNat)
  case atStart => exact ⟨0, 0, Nat.zero_le _, rfl, rfl⟩
  case round =>
    obtain ⟨k, m, hk, rfl, rfl⟩ := hrel
    by_cases hlt : k < n
    · have hc1 := HC.out k (by have := HX.out; omega)
      have hc2 := HC2.out k (by have := HX.out; omega)
      have hk0 : (0 : Int) ≤ (k : Int) := by omega
      have hkn : (k : Int) < (n : Int) := by omega
      generalize xs.getD k false = x at hc1 hc2
      cases x
      all_goals
        go_wp2
        go_quiet (fail)
        go_wp2
        go_roundw
        case rel => exact ⟨k + 1, m + nq, by omega, by go_num, rfl⟩
        case measure => simp [intOf]; omega
    · go_wp2
      go_ret
      exact ⟨rfl, m, rfl⟩
set_option maxHeartbeats 400000 in
theorem eqZ_nil (w : World) (A A2 : Option Addr) (c c2 : Nat) :
    Calls Try.prog 12 #[.slice A 0 c, .slice A2 0 c2] w fun e w' => e = .returned (.bool true) ∧ w' = w := by
  go_enter Try.func12, Try.ntmps12
  go_wp2
  refine wp_loop_rounds 1 ?_
  rw [rounds_succ]
  go_wp2
  go_ret
  exact ⟨rfl, rfl⟩
/-- Two lists of the same are found equal. -/
theorem eqZ_same (w : World) (v u : Value) (xs : List Bool) (h : RdsZ w v xs) (h2 : RdsZ w u xs) (hn : xs.length ≤ 1048576) :
    Calls Try.prog 12 #[v, u] w fun e w' => e = .returned (.bool true) ∧ ∃ m, w' = w.drewN m := by
  obtain ⟨A, c, rfl, h1⟩ := h
  obtain ⟨A2, c2, rfl, h3⟩ := h2
  rcases Nat.eq_zero_or_pos xs.length with h0 | h0
  · rw [h0]
    exact (eqZ_nil w A A2 c c2).mono fun e w' ⟨h1, h2⟩ => ⟨h1, 0, h2⟩
  · obtain ⟨b, off, rfl, ha⟩ := h1 h0
    obtain ⟨b2, off2, rfl, ha2⟩ := h3 h0
    exact eqZ_at w b off c b2 off2 c2 xs.length xs rfl hn ha ha2

set_option maxHeartbeats 800000 in
theorem eqB_at (w : World) (b off c b2 off2 c2 n : Nat) (xs : List Bool) (hx : xs.length = n) (hn2 : n ≤ 1048576) (h : AtZ w b off xs) (h2 : AtZ w b2 off2 xs) :
    Calls Try.prog 18 #[.slice (some ⟨b, off, none⟩) n c, .slice (some ⟨b2, off2, none⟩) n c2] w
      fun e w' => e = .returned (.bool true) ∧ ∃ m, w' = w.drewN m := by
  have HX := Lib.hid hx
  have HC := Lib.hid h.2
  have HC2 := Lib.hid h2.2
  clear h h2 hx
  go_enter Try.func18, Try.ntmps18
  go_wp2
  go_loopw [5] (fun i wr => ∃ k m : Nat, k ≤ n ∧ i = .int .i64 k ∧ wr = w.drewN m) (fun i _ => n - (intOf i).toNat)
  case atStart => exact ⟨0, 0, Nat.zero_le _, rfl, rfl⟩
  case round =>
    obtain ⟨k, m, hk, rfl, rfl⟩ := hrel
    by_cases hlt : k < n
    · have hc1 := HC.out k (by have := HX.out; omega)
      have hc2 := HC2.out k (by have := HX.out; omega)
      have hk0 : (0 : Int) ≤ (k : Int) := by omega
      have hkn : (k : Int) < (n : Int) := by omega
      generalize xs.getD k false = x at hc1 hc2
      cases x
      all_goals
        go_wp2
        go_quiet (fail)
        go_wp2
        go_roundw
        case rel => exact ⟨k + 1, m + nq, by omega, by go_num, rfl⟩
        case measure => simp [intOf]; omega
    · go_wp2
      go_ret
      exact ⟨rfl, m, rfl⟩
set_option maxHeartbeats 400000 in
theorem eqB_nil (w : World) (A A2 : Option Addr) (c c2 : Nat) :
    Calls Try.prog 18 #[.slice A 0 c, .slice A2 0 c2] w fun e w' => e = .returned (.bool true) ∧ w' = w := by
  go_enter Try.func18, Try.ntmps18
  go_wp2
  refine wp_loop_rounds 1 ?_
  rw [rounds_succ]
  go_wp2
  go_ret
  exact ⟨rfl, rfl⟩
/-- Two lists of the same are found equal. -/
theorem eqB_same (w : World) (v u : Value) (xs : List Bool) (h : RdsZ w v xs) (h2 : RdsZ w u xs) (hn : xs.length ≤ 1048576) :
    Calls Try.prog 18 #[v, u] w fun e w' => e = .returned (.bool true) ∧ ∃ m, w' = w.drewN m := by
  obtain ⟨A, c, rfl, h1⟩ := h
  obtain ⟨A2, c2, rfl, h3⟩ := h2
  rcases Nat.eq_zero_or_pos xs.length with h0 | h0
  · rw [h0]
    exact (eqB_nil w A A2 c c2).mono fun e w' ⟨h1, h2⟩ => ⟨h1, 0, h2⟩
  · obtain ⟨b, off, rfl, ha⟩ := h1 h0
    obtain ⟨b2, off2, rfl, ha2⟩ := h3 h0
    exact eqB_at w b off c b2 off2 c2 xs.length xs rfl hn ha ha2

/-- A mark is told by its number. -/
def mk3Z (k : Int) : Bool := k % 3 == 0
def seqZ (k : Int) (n : Nat) : List Bool := (List.range n).map fun (j : Nat) => mk3Z (k + (j : Int))
theorem seqZ_len (k : Int) (n : Nat) : (seqZ k n).length = n := by simp [seqZ]
theorem seqZ_get (k : Int) (n j : Nat) (h : j < n) : (seqZ k n).getD j false = mk3Z (k + j) := by
  simp [seqZ, List.getD_eq_getElem?_getD, h]
theorem seqZ_succ (k : Int) (n : Nat) : seqZ k (n + 1) = seqZ k n ++ [mk3Z (k + (n : Int))] := by simp [seqZ, List.range_succ]
theorem markZ_step (k0 : Int) (xs : List Bool) (k : Nat) (h : k < xs.length) : (seqZ k0 k ++ xs.drop k).set k (mk3Z (k0 + (k : Int))) = seqZ k0 (k + 1) ++ xs.drop (k + 1) := by
  rw [List.set_append, if_neg (by rw [seqZ_len]; omega), seqZ_len, Nat.sub_self, List.drop_eq_getElem_cons h, List.set_cons_zero, seqZ_succ]
  simp
theorem markZ_len (k0 : Int) (xs : List Bool) (k : Nat) (h : k ≤ xs.length) : (seqZ k0 k ++ xs.drop k).length = xs.length := by
  rw [List.length_append, seqZ_len, List.length_drop]; omega

set_option maxHeartbeats 800000 in
theorem markZ_at (w : World) (B g cap n : Nat) (xs : List Bool) (k0 : Int) (hn : xs.length = n) (hn2 : n ≤ 2097152) (hk0 : 0 ≤ k0) (hk1 : k0 ≤ 1000000000) (h : w.ownsRow B 4 1 (.slice (some ⟨g, 0, none⟩) n cap) n (bools xs)) :
    Calls Try.prog 15 #[.slice (some ⟨g, 0, none⟩) n cap, .int .i64 k0] w
      fun e w' => e = .returned (.int .i64 (k0 + n)) ∧ w'.ownsRow B 4 1 (.slice (some ⟨g, 0, none⟩) n cap) n (bools (seqZ k0 n)) ∧ w.grownBy w' (some g) := by
  have HN := Lib.hid hn
  clear hn
  have H := Lib.hid h
  clear h
  go_enter Try.func15, Try.ntmps15
  go_wp2
  go_loopw [1, 5] (fun kv i wr => ∃ k : Nat, k ≤ n ∧ i = .int .i64 k ∧ kv = .int .i64 (k0 + k) ∧ wr.ownsRow B 4 1 (.slice (some ⟨g, 0, none⟩) n cap) n (bools (seqZ k0 k ++ xs.drop k)) ∧ w.grownBy wr (some g)) (fun _ i _ => n - (intOf i).toNat)
  case atStart => exact ⟨0, Nat.zero_le _, rfl, by simp, by simpa [seqZ] using H.out, World.grownBy.refl w _⟩
  case round =>
    obtain ⟨k, hk, rfl, rfl, hown, hgr⟩ := hrel
    by_cases hlt : k < n
    · have hlen := markZ_len k0 xs k (by rw [HN.out]; omega)
      have hc2 := hown.cellAt k (by omega)
      rw [bools_get _ k (by rw [hlen, HN.out]; exact hlt)] at hc2
      have hf2 := hown.frozenAt k
      have hst := hown.stored k (.bool (mk3Z (k0 + k)))
      rw [bools_set, markZ_step k0 xs k (by rw [HN.out]; exact hlt)] at hst
      have hm : (((k0 + (k : Int)) % 3) == 0) = mk3Z (k0 + k) := rfl
      have HST := Lib.hid hst
      have HG := Lib.hid hgr
      clear hst hlen hown hgr
      generalize (seqZ k0 k ++ xs.drop k).getD k false = y at *
      generalize mk3Z (k0 + (k : Int)) = mz at *
      go_wp2
      go_roundw
      case rel => exact ⟨k + 1, by omega, by go_num, by go_num, HST.out.1, grown_trans' HG.out HST.out.2⟩
      case measure => simp [intOf]; omega
    · obtain rfl : k = n := by omega
      have e : seqZ k0 k ++ xs.drop k = seqZ k0 k := by
        rw [List.drop_eq_nil_of_le (by rw [HN.out]; omega)]; simp
      rw [e] at hown
      clear e
      go_wp2
      go_ret
      exact ⟨rfl, hown, hgr⟩
set_option maxHeartbeats 400000 in
theorem markZ_nil (w : World) (A : Option Addr) (c : Nat) (k0 : Int) :
    Calls Try.prog 15 #[.slice A 0 c, .int .i64 k0] w fun e w' => e = .returned (.int .i64 k0) ∧ w' = w := by
  go_enter Try.func15, Try.ntmps15
  go_wp2
  refine wp_loop_rounds 1 ?_
  rw [rounds_succ]
  go_wp2
  go_ret
  exact ⟨rfl, rfl⟩
/-- What markBoolS leaves. -/
theorem markZ_any (w : World) (B : Nat) (v : Value) (xs : List Bool) (k0 : Int) (hn2 : xs.length ≤ 2097152) (hk0 : 0 ≤ k0) (hk1 : k0 ≤ 1000000000) (h : OwnZ w B v xs) :
    Calls Try.prog 15 #[v, .int .i64 k0] w
      fun e w' => e = .returned (.int .i64 (k0 + xs.length)) ∧ w'.ownsRow B 4 1 v xs.length (bools (seqZ k0 xs.length)) ∧ w.grownBy w' v.ownBlock := by
  unfold OwnZ at h
  rcases h.2 with ⟨rfl, h0⟩ | ⟨g, cap, cur, rfl, _⟩
  · refine (markZ_nil w none 0 k0).mono fun e w' ⟨h1, h2⟩ => ?_
    subst h2
    rw [h0] at h ⊢
    exact ⟨by rw [h1]; simp, by simpa [seqZ, bools] using (World.ownsRow_nil _ B _ 1), World.grownBy.refl _ _⟩
  · exact markZ_at w B g cap xs.length xs k0 rfl hn2 hk0 hk1 h

set_option maxHeartbeats 800000 in
theorem heldZ_at (w : World) (b off c n : Nat) (k0 : Int) (hn2 : n ≤ 2097152) (hk0 : 0 ≤ k0) (hk1 : k0 ≤ 1000000000) (h : AtZ w b off (seqZ k0 n)) :
    Calls Try.prog 16 #[.slice (some ⟨b, off, none⟩) n c, .int .i64 k0] w
      fun e w' => e = .returned (.int .i64 (k0 + n)) ∧ w' = w := by
  have HC := Lib.hid h.2
  clear h
  go_enter Try.func16, Try.ntmps16
  go_wp2
  go_loop [1, 5] (fun kv i => ∃ k : Nat, k ≤ n ∧ i = .int .i64 k ∧ kv = .int .i64 (k0 + k)) (fun _ i => n - (intOf i).toNat)
  case atStart => exact ⟨0, Nat.zero_le _, rfl, by simp⟩
  case round =>
    obtain ⟨k, hk, rfl, rfl⟩ := hrel
    by_cases hlt : k < n
    · have hc1 := HC.out k (by rw [seqZ_len]; exact hlt)
      rw [seqZ_get k0 n k hlt] at hc1
      have hm : (((k0 + (k : Int)) % 3) == 0) = mk3Z (k0 + k) := rfl
      cases hz : mk3Z (k0 + (k : Int))
      all_goals
        rw [hz] at hc1 hm
        clear hz
        go_wp2
        go_round
        case rel => exact ⟨k + 1, by omega, by go_num, by go_num⟩
        case measure => simp [intOf]; omega
    · obtain rfl : k = n := by omega
      go_wp2
      go_ret
      exact ⟨rfl, rfl⟩
set_option maxHeartbeats 400000 in
theorem heldZ_nil (w : World) (A : Option Addr) (c : Nat) (k0 : Int) :
    Calls Try.prog 16 #[.slice A 0 c, .int .i64 k0] w fun e w' => e = .returned (.int .i64 k0) ∧ w' = w := by
  go_enter Try.func16, Try.ntmps16
  go_wp2
  refine wp_loop_rounds 1 ?_
  rw [rounds_succ]
  go_wp2
  go_ret
  exact ⟨rfl, rfl⟩
/-- What heldBoolS says of marked bools. -/
theorem heldZ_any (w : World) (v : Value) (n : Nat) (k0 : Int) (hn2 : n ≤ 2097152) (hk0 : 0 ≤ k0) (hk1 : k0 ≤ 1000000000) (h : RdsZ w v (seqZ k0 n)) :
    Calls Try.prog 16 #[v, .int .i64 k0] w fun e w' => e = .returned (.int .i64 (k0 + n)) ∧ w' = w := by
  obtain ⟨A, c, rfl, h1⟩ := h
  rw [seqZ_len] at h1 ⊢
  rcases Nat.eq_zero_or_pos n with rfl | h0
  · simpa using heldZ_nil w A c k0
  · obtain ⟨b, off, rfl, ha⟩ := h1 h0
    exact heldZ_at w b off c n k0 hn2 hk0 hk1 ha

theorem ownZ_snoc {w1 : World} {B e : Nat} {v : Value} {l : List Bool} {x : Bool} (h : w1.ownsRow B e 1 v (l.length + 1) (bools l ++ [.bool x])) : w1.ownsRow B e 1 v (l ++ [x]).length (bools (l ++ [x])) := by
  rw [bools_app]; simpa [bools] using h
/-- One bool is appended onto a row of the call's own. -/
theorem append_oneZ {w0 : World} {ops : Array Oper} {rest : List Oper} {o : Oper} {a : Act} {Q : Exit → Act → World → Prop} (hgd : o.guard = none) (s x : Operand)
    (ho : o.op = .call { callee := .builtin .append, args := #[s, x], argTypes := #[23, 23] })
    (B : Nat) (v : Value) (l : List Bool) (y : Bool) (hs : a.eval s = v) (hx : a.eval x = .slice (some ⟨w0.heap.size, 0, none⟩) 1 1) (hown : OwnZ w0 B v l) (hl : l.length ≤ 1000000) (hB : B ≤ w0.heap.size)
    (h : ∀ A c w', OwnZ w' B (.slice A (l.length + 1) c) (l ++ [y]) → (w0.alloc (.cells #[.bool y] 4)).grownBy w' v.ownBlock → Below B w0 w' → w0.heap.size ≤ w'.heap.size →
      wpList Try.prog ops Q rest (a.put o.dst (.slice A (l.length + 1) c)) w') : wpList Try.prog ops Q (o :: rest) a (w0.alloc (.cells #[.bool y] 4)) := by
  obtain ⟨i0, hi, hz0, hz1, hz2⟩ := info_parts infoZ
  refine wpList_append_own _ hgd s x 23 ho B 4 i0 (.bool false) 1 1 Try.underlying23 hi hz0 hz1 hz2 rfl (by decide) v l.length (bools l) hs (hown.alloc _) ⟨w0.heap.size, 0, none⟩ 1 1 [.bool y] hx rfl (cell_new1 _ _ _) (one_cell _ rfl) (by rw [mx]; omega) (by omega) (by simp; omega) ?_
  intro v' w' h1 h2 _
  have h3 := ownZ_snoc h1
  obtain ⟨A, c, rfl⟩ := own_form h1
  refine h A c w' h3 h2 ?_ ?_
  · exact ((Below.refl B w0).alloc hB _).grown h2 (by simp; omega) (fun j hj => by have := (World.ownsRow.lt hown j hj).1; omega)
  · have := h2.size
    simp at this; omega
end Go.Proofs.Yteifojanklggmaa
