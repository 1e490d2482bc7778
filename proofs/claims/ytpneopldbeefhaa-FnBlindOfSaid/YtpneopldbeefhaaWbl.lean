/-
  The walks of the functions on the pairs of bits that are not seen. Conditions: the lengths that are typed.
-/
import Derived.Test.YtpneopldbeefhaaWcyc
import Derived.Test.YtpneopldbeefhaaWpr
namespace Go.Proofs.Ytpneopldbeefhaa
open Go.RowKit
set_option linter.unusedVariables false

/-- Whether two ones at a and b are not seen. -/
def bt (K a b : Nat) : Bool := decide ((b - a) % K = 0)
def innL (K a b : Nat) : List (Int × Int) := ((List.range b).filter fun j => decide (a < j) && bt K a j).map fun (j : Nat) => ((a : Int), (j : Int))
def outL (K n : Nat) : Nat → List (Int × Int)
  | 0 => []
  | a + 1 => outL K n a ++ innL K a n
theorem innL_zero (K a : Nat) : innL K a (a + 1) = [] := by
  unfold innL
  rw [List.map_eq_nil_iff, List.filter_eq_nil_iff]
  intro j hj
  have := List.mem_range.1 hj
  simp; omega
theorem innL_yes {K a b : Nat} (hab : a < b) (h : bt K a b = true) : innL K a (b + 1) = innL K a b ++ [((a : Int), (b : Int))] := by
  simp [innL, List.range_succ, List.filter_append, hab, h]
theorem innL_no {K a b : Nat} (h : bt K a b = false) : innL K a (b + 1) = innL K a b := by
  simp [innL, List.range_succ, List.filter_append, h]
theorem innL_len (K a b : Nat) : (innL K a b).length ≤ b := by
  unfold innL
  rw [List.length_map]
  have := List.length_filter_le (fun j => decide (a < j) && bt K a j) (List.range b)
  simpa using this
theorem outL_len (K n : Nat) : ∀ a, (outL K n a).length ≤ a * n
  | 0 => by simp [outL]
  | a + 1 => by
    have h1 := outL_len K n a
    have h2 := innL_len K a n
    rw [outL, List.length_append, Nat.succ_mul]; omega
theorem bl_len {K n a b : Nat} (hn : n ≤ 20) (ha : a ≤ n) (hb : b ≤ n) : (outL K n a ++ innL K a b).length ≤ 420 := by
  have h1 := outL_len K n a
  have h2 := innL_len K a b
  have h3 := Nat.mul_le_mul (Nat.le_trans ha hn) hn
  rw [List.length_append]; omega
theorem bt_whole {Q : List Bool} {K n a b : Nat} (h1 : 1 ≤ Q.length) (hl : Q.getLast? = some true) (h : IsCyc Q K) (hab : a < b) (hb : b < n) (hq : Q.length ≤ n) : wholeB (txt (true :: Q)) (txt (two a (b - a - 1) (n - b - 1))) = bt K a b := by
  rw [wholeB_iff Q _ h1 (by rw [two_len]; omega)]
  unfold bt
  have := two_cyc h1 hl h a (b - a - 1) (n - b - 1)
  rw [show b - a - 1 + 1 = b - a from by omega] at this
  exact decide_eq_decide.2 this

/-- A row of the call's own of the pairs of a list. -/
def LR (w : World) (B : Nat) (v : Value) (L : List (Int × Int)) : Prop := ∃ gs, gs.length = L.length ∧ PR w B v gs (fun j => L.getD j (0, 0))
theorem LR.drewN {w : World} {B : Nat} {v : Value} {L : List (Int × Int)} (h : LR w B v L) (m : Nat) : LR (w.drewN m) B v L := by
  obtain ⟨gs, h1, h2⟩ := h
  exact ⟨gs, h1, h2.drewN m⟩
theorem LR.below {w w' : World} {B : Nat} {v : Value} {L : List (Int × Int)} (h : LR w B v L) (hb : Below w.heap.size w w') : LR w' B v L := by
  obtain ⟨gs, h1, h2⟩ := h
  exact ⟨gs, h1, h2.below hb⟩
theorem LR.push {wr w3 : World} {B : Nat} {v v' : Value} {L : List (Int × Int)} {gs : List Nat} {a b : Int} {o : Obj} (hl : gs.length = L.length) (h : PR wr B v gs (fun j => L.getD j (0, 0))) (hB : B ≤ wr.heap.size)
    (hown : w3.ownsRow B 33 1 v' (gs.length + 1) (pv gs ++ [.slice (some ⟨wr.heap.size, 0, none⟩) 2 2]))
    (hg : ((wr.alloc (.cells #[.int .i64 a, .int .i64 b] 3)).alloc o).grownBy w3 v.ownBlock) : LR w3 B v' (L ++ [(a, b)]) := by
  refine ⟨gs ++ [wr.heap.size], by simp [hl], ?_, fun j hj => ?_, ?_⟩
  · simpa [pv] using hown
  · skip
    rcases Nat.lt_or_ge j gs.length with hlt | hge
    · have h0 := ((h.inn j hlt).alloc (.cells #[.int .i64 a, .int .i64 b] 3)).alloc o
      have h1 := h0.kept hg (by
        rcases ho : v.ownBlock with _ | g
        · exact .inr (by simp [Value.ownBlock])
        · exact .inr (by simpa [Value.ownBlock] using fun e => h.outer g ho j hlt e.symm))
      rw [List.getD_eq_getElem?_getD, List.getElem?_append_left hlt, ← List.getD_eq_getElem?_getD, List.getD_eq_getElem?_getD (l := L ++ _), List.getElem?_append_left (by omega), ← List.getD_eq_getElem?_getD]
      exact h1
    · have hj2 : j = gs.length := by simp at hj; omega
      subst hj2
      have h0 := (World.ownsRow_lit (base := B) (size := 1) (e := 3) wr #[.int .i64 a, .int .i64 b] 2 hB (by rw [mx]; omega) (by simp)).alloc o
      have h1 := h0.kept hg (by
        rcases ho : v.ownBlock with _ | g
        · exact .inr (by simp [Value.ownBlock])
        · have := (h.own.lt g ho).2
          exact .inr (by simp [Value.ownBlock]; omega))
      rw [hl]
      simp only [List.getD_eq_getElem?_getD, List.getElem?_append_right (Nat.le_refl _)]
      rw [← hl]
      simpa [ints] using h1
  · rw [List.pairwise_append]
    refine ⟨h.ord, by simp, fun x hx y hy => ?_⟩
    obtain ⟨j, hj, rfl⟩ := List.getElem_of_mem hx
    have := (h.lt j hj).2
    simp only [List.mem_singleton] at hy
    subst hy
    simpa [List.getD_eq_getElem?_getD, List.getElem?_eq_getElem hj] using this
theorem LR.nil (w : World) (B : Nat) : LR w B (.slice none 0 0) [] := ⟨[], rfl, PR.nil w B _⟩
theorem LR.new (w : World) (B : Nat) (hB : B ≤ w.heap.size) : LR (w.alloc (.cells #[] 33)) B (.slice (some ⟨w.heap.size, 0, none⟩) 0 0) [] :=
  ⟨[], rfl, World.ownsRow_lit (base := B) (size := 1) (e := 33) w #[] 0 hB (by rw [mx]; omega) rfl, fun j hj => absurd hj (by simp), by simp⟩
theorem infoP : (Try.prog.info? 33).map (fun i => (i.zero, i.size, i.bytes)) = some (some (.slice none 0 0), 1, 24) := by kernel_rfl
theorem one_new (w : World) (x : Value) (t : TypeId) : ∀ j u, ([x])[j]? = some u → (w.alloc (.cells #[x] t)).cell? ((⟨w.heap.size, 0, none⟩ : Addr).add j) = some u := by
  intro j u hj
  have e : (⟨w.heap.size, 0, none⟩ : Addr).add j = ⟨w.heap.size, j, none⟩ := by unfold Addr.add; split <;> simp_all
  rw [e, cell_of_row _ w.heap.size j _ t (0, 0) (heap_alloc_new w _), ← hj]
  simp
theorem str_two3 (a g c : Nat) : ByteArray.mk (List.replicate a (48 : UInt8)).toArray ++ ({ data := #[49] } : ByteArray) ++ ByteArray.mk (List.replicate g (48 : UInt8)).toArray ++ { data := #[49] } ++ ByteArray.mk (List.replicate c (48 : UInt8)).toArray = ByteArray.mk (txt (two a g c)).toArray := by
  rw [show (#[49] : Array UInt8) = [49].toArray from rfl, ByteArray.mk_append_mk, ByteArray.mk_append_mk, ByteArray.mk_append_mk, ByteArray.mk_append_mk, txt_two]
  simp

/-- What BlindOf gives: nothing, or the pairs. -/
def BliR (l : List UInt8) (z : Int) (L : List (Int × Int)) : Prop :=
  (polyB l = false ∧ L = []) ∨ (polyB l = true ∧ ¬ ((l.length : Int) - 1 ≤ z ∧ z ≤ 20) ∧ L = []) ∨
  ∃ (Q : List Bool) (K n : Nat), l = txt (true :: Q) ∧ 1 ≤ Q.length ∧ Q.length ≤ 8 ∧ Q.getLast? = some true ∧ IsCyc Q K ∧ z = n ∧ Q.length ≤ n ∧ n ≤ 20 ∧ L = outL K n n
theorem bliR_some (l : List UInt8) (z : Int) : ∃ L, BliR l z L ∧ L.length ≤ 420 := by
  cases h : polyB l
  · exact ⟨[], .inl ⟨h, rfl⟩, by simp⟩
  · obtain ⟨Q, e, h1, h2, h3⟩ := polyB_of h
    obtain ⟨K, hK, hc⟩ := cyc_some Q h1 h2 h3
    by_cases hz : (l.length : Int) - 1 ≤ z ∧ z ≤ 20
    · have hll : l.length = Q.length + 1 := by rw [e, txt_len]; rfl
      obtain ⟨n, rfl⟩ : ∃ n : Nat, z = n := ⟨z.toNat, by omega⟩
      refine ⟨outL K n n, .inr (.inr ⟨Q, K, n, e, h1, h2, h3, hc, rfl, by omega, by omega, rfl⟩), ?_⟩
      have := bl_len (K := K) (n := n) (a := n) (b := 0) (by omega) (Nat.le_refl _) (by omega)
      rw [List.length_append] at this; omega
    · exact ⟨[], .inr (.inl ⟨h, hz, rfl⟩), by simp⟩
end Go.Proofs.Ytpneopldbeefhaa
