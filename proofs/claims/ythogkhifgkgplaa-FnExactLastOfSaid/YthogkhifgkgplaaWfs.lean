/-
  The walks of the laws' functions that measure and compare fields. Conditions: where the lists lie, and the lengths that are typed.
-/
import Derived.Test.YthogkhifgkgplaaWpf
import Derived.Deep.Cut
import Derived.Deep.RegionWith
namespace Go.Proofs.Ythogkhifgkgplaa
open Go.RowKit
set_option linter.unusedVariables false

/-- The bytes of all fields. -/
def allF (L : List Fd) : Nat := (L.map fun f => f.b.length).sum
theorem allF_snoc (L : List Fd) (k : Nat) (h : k < L.length) : allF (L.take (k + 1)) = allF (L.take k) + (L.getD k f0).b.length := by
  rw [takeF_snoc L k h]; simp [allF]
theorem allF_take_le (L : List Fd) (k : Nat) (h : k < L.length) : allF (L.take k) + (L.getD k f0).b.length ≤ allF L := by
  rw [← allF_snoc L k h]
  have e : allF L = allF (L.take (k + 1)) + allF (L.drop (k + 1)) := by
    conv => lhs; rw [← List.take_append_drop (k + 1) L]
    unfold allF
    rw [List.map_append, List.sum_append]
  omega

/-- What is left of room behind n numbers. -/
def szR (l : Int) (n : Nat) : Int := if l - (n : Int) < 0 then -1 else l - (n : Int)
set_option maxHeartbeats 400000 in
theorem szI_any (A : Option Addr) (n c : Nat) (l : Int) (w : World) (hl : -1 ≤ l ∧ l ≤ 1048576) (hn : n ≤ maxLen) :
    Calls Try.prog 31 #[.slice A n c, .int .i64 l] w fun e w' => e = .returned (.int .i64 (szR l n)) ∧ w = w' := by
  have hn2 : (n : Int) ≤ 9223372036854775807 := by unfold maxLen at hn; omega
  unfold szR
  by_cases h : l - (n : Int) < 0
  · rw [if_pos h]
    go_enter Try.func31, Try.ntmps31
    go_wp2
    go_ret
    exact ⟨rfl, rfl⟩
  · rw [if_neg h]
    go_enter Try.func31, Try.ntmps31
    go_wp2
    go_ret
    exact ⟨rfl, rfl⟩

set_option maxHeartbeats 800000 in
theorem szF_any (t : Int) (A : Option Addr) (n c : Nat) (l : Int) (w : World) (hl : 0 ≤ l ∧ l ≤ 1048576) (hn : n ≤ maxLen) :
    Calls Try.prog 19 #[.agg #[.int .i64 t, .slice A n c], .int .i64 l] w fun e w' => e = .returned (.int .i64 (szR l n)) ∧ Below w.heap.size w w' := by
  have hb0 := (Below.refl w.heap.size w).alloc (Nat.le_refl _) (.cells #[.int .i64 t, .slice A n c] 43)
  obtain ⟨c0, c1⟩ := two_blk (Blk.new w 43 #[.int .i64 t, .slice A n c])
  have HBL := Lib.hid hb0
  have HS := Lib.hid (fun W => szI_any A n c l W ⟨by omega, hl.2⟩ hn)
  have hr : szR l n = -1 ∨ 0 ≤ szR l n := by unfold szR; split <;> omega
  generalize szR l n = r at *
  clear hb0
  go_enter Try.func19, Try.ntmps19
  go_upto_region 1 with fail
  generalize w.alloc (.cells #[.int .i64 t, .slice A n c] 43) = w1 at *
  go_wp2_with fail
  refine (HS.out w1).mono ?_
  rintro e w2 ⟨rfl, rfl⟩
  rcases hr with rfl | h0
  · go_wp2
    go_ret
    exact ⟨rfl, HBL.out⟩
  · have hd : decide (r < 0) = false := decide_eq_false (by omega)
    go_wp2
    go_ret
    exact ⟨rfl, HBL.out⟩

def SzfPost (L : List Fd) (w : World) (e : Ending) (w' : World) : Prop := ∃ r : Int, e = .returned (.int .i64 r) ∧ Below w.heap.size w w' ∧ (r = -1 ∨ (0 ≤ r ∧ r ≤ 1048576 ∧ L.length + allF L ≤ 1048576))

set_option maxHeartbeats 1600000 in
theorem szFS_any (w : World) (v : Value) (L : List Fd) (h : FRds w v L) (hL : L.length ≤ maxLen) (hn : ∀ k, (L.getD k f0).b.length ≤ maxLen) :
    Calls Try.prog 6 #[v, .int .i64 1048576] w (SzfPost L w) := by
  have HF := Lib.hid (fun W (hb : Below w.heap.size w W) => h.more hb)
  obtain ⟨A, c, hf⟩ := h.form
  subst hf
  have HN := Lib.hid hn
  have hmx := mx
  clear h hn
  by_cases h : (1048576 : Int) - (L.length : Int) < 0
  · have hw : IntKind.i64.wrap ((1048576 : Int) - (L.length : Int)) = (1048576 : Int) - (L.length : Int) := IntWalk.i64_in _ (by omega)
    go_enter Try.func6, Try.ntmps6
    go_wp2
    go_ret
    exact ⟨-1, rfl, Below.refl _ _, .inl rfl⟩
  · have hw : IntKind.i64.wrap ((1048576 : Int) - (L.length : Int)) = (1048576 : Int) - (L.length : Int) := IntWalk.i64_in _ (by omega)
    go_enter Try.func6, Try.ntmps6
    go_wp2
    go_loopw [1, 5] (fun sv iv wr => ∃ (k : Nat) (s : Int), k ≤ L.length ∧ iv = .int .i64 k ∧ sv = .int .i64 s ∧ 0 ≤ s ∧ s = 1048576 - (L.length : Int) - (allF (L.take k) : Int) ∧ Below w.heap.size w wr) (fun _ iv _ => L.length - (intOf iv).toNat)
    case atStart => exact ⟨0, 1048576 - (L.length : Int), Nat.zero_le _, rfl, rfl, by omega, by simp [allF], Below.refl _ _⟩
    case round =>
      obtain ⟨k, s, hk, rfl, rfl, hs0, hs, hb⟩ := hrel
      have hs1 : s ≤ 1048576 := by omega
      have HSS := Lib.hid hs
      have HB := Lib.hid hb
      have hz := hb.size
      clear hs
      by_cases hlt : k < L.length
      · obtain ⟨b, off, hA, hat⟩ := (HF.out wr hb).cells (by omega)
        subst hA
        obtain ⟨x0, u, x1, hu, _⟩ := hat.2 k hlt
        have hml := HN.out k
        obtain ⟨Au, cu, rfl, _⟩ := id hu
        have HS := Lib.hid (allF_snoc L k hlt)
        have HZ := Lib.hid (szF_any (L.getD k f0).t Au (L.getD k f0).b.length cu s wr ⟨hs0, hs1⟩ hml)
        clear hat hu hb
        generalize (L.getD k f0).t = t at *
        generalize (L.getD k f0).b.length = m at *
        generalize allF (L.take k) = tt at *
        have hrr : (szR s m = -1) ∨ (szR s m = s - m ∧ 0 ≤ s - m) := by unfold szR; split <;> omega
        generalize szR s m = r at *
        go_wp2_with fail
        refine HZ.out.mono ?_
        rintro e w' ⟨rfl, hb'⟩
        have HB' := Lib.hid (HB.out.trans (hb'.mono hz))
        clear hb' x0 x1
        rcases hrr with rfl | ⟨hr, h0⟩
        · go_wp2
          go_ret
          exact ⟨-1, rfl, HB'.out, .inl rfl⟩
        · have HR := Lib.hid hr
          have hd : ¬ r < 0 := by omega
          have hr1 : r ≤ 1048576 := by omega
          clear hr
          go_wp2
          go_roundw
          case rel => exact ⟨k + 1, r, by omega, by go_num, rfl, by omega, by have := HSS.out; have := HR.out; rw [HS.out]; omega, HB'.out⟩
          case measure => simp [intOf]; omega
      · obtain rfl : k = L.length := by omega
        clear hb
        go_wp2
        go_ret
        have hs := HSS.out
        rw [List.take_length] at hs
        exact ⟨s, rfl, HB.out, .inr ⟨hs0, by omega, by omega⟩⟩

set_option maxHeartbeats 1600000 in
theorem eqF_same (t : Int) (b : List Int) (v u : Value) (w : World) (h : Rds w v b) (h2 : Rds w u b) (hn : b.length ≤ 1048576) :
    Calls Try.prog 26 #[.agg #[.int .i64 t, v], .agg #[.int .i64 t, u]] w fun e w' => e = .returned (.bool true) ∧ Below w.heap.size w w' := by
  have hb0 := ((Below.refl w.heap.size w).alloc (Nat.le_refl _) (.cells #[.int .i64 t, v] 40)).alloc (by simp) (.cells #[.int .i64 t, u] 40)
  have hr := h.more8 hb0
  have hr2 := h2.more8 hb0
  have k0 := (Blk.new w 40 #[.int .i64 t, v]).alloc (.cells #[.int .i64 t, u] 40)
  have k1 := Blk.new (w.alloc (.cells #[.int .i64 t, v] 40)) 40 #[.int .i64 t, u]
  rw [World.size_alloc] at k1
  obtain ⟨a0, a1⟩ := two_blk k0
  obtain ⟨b0, b1⟩ := two_blk k1
  have HBL := Lib.hid hb0
  have HR := Lib.hid hr
  have HR2 := Lib.hid hr2
  clear hb0 hr hr2 h h2 k0 k1
  go_enter Try.func26, Try.ntmps26
  go_upto_region 1 with fail
  generalize (w.alloc (.cells #[.int .i64 t, v] 40)).alloc (.cells #[.int .i64 t, u] 40) = w1 at *
  go_wp2_with fail
  refine (eqI_same w1 v u b HR.out HR2.out hn).mono ?_
  rintro e w2 ⟨rfl, m, rfl⟩
  go_wp2
  go_ret
  exact ⟨rfl, below_drewN HBL.out m⟩
end Go.Proofs.Ythogkhifgkgplaa
