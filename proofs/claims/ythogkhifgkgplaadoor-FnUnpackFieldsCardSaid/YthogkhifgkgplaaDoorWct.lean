/-
  Lists of lists of numbers that can be read, and the walk of the library's function that joins them. Conditions: where the lists lie, and the lengths that are typed.
-/
import Derived.Test.YthogkhifgkgplaaDoorWapr
import Derived.Test.YthogkhifgkgplaaDoorWbk
import Derived.Lib.AppendZeros
import Derived.Laws.AppendOwnNone
namespace Go.Proofs.YthogkhifgkgplaaDoor
open Go.RowKit
set_option linter.unusedVariables false

def sumF (g : List Int → Nat) : List (List Int) → Nat
  | [] => 0
  | l :: L => g l + sumF g L
theorem sumF_app (g : List Int → Nat) : ∀ A B, sumF g (A ++ B) = sumF g A + sumF g B
  | [], B => by simp [sumF]
  | l :: A, B => by simp only [List.cons_append, sumF, sumF_app g A B]; omega
theorem sumF_take (g : List Int → Nat) (L : List (List Int)) (f : Nat) (h : f < L.length) : sumF g (L.take (f + 1)) = sumF g (L.take f) + g (L.getD f []) := by
  rw [List.take_add_one, List.getElem?_eq_getElem h, sumF_app]
  simp [sumF, List.getD_eq_getElem?_getD, List.getElem?_eq_getElem h]
def allP (L : List (List Int)) : Nat := sumF List.length L
theorem Rds.lies6 {w : World} {v : Value} {l : List Int} (h : Rds w v l) : Lies w.heap.size v l := by
  obtain ⟨A, c, rfl, h1⟩ := h
  intro h0 g hg
  obtain ⟨b, off, rfl, hat⟩ := h1 h0
  have e : b = g := by simpa [Value.ownBlock] using hg
  subst e; exact hat.1
theorem Rds.more6 {w w' : World} {v : Value} {l : List Int} (h : Rds w v l) (hb : Below w.heap.size w w') : Rds w' v l := h.below hb h.lies6
/-- The cells from off on of block b are slices that read as these lists. -/
def AtL (w : World) (b off : Nat) (L : List (List Int)) : Prop := b < w.heap.size ∧ ∀ j, j < L.length → ∃ u, w.cell? ⟨b, off + j, none⟩ = some u ∧ Rds w u (L.getD j []) ∧ Proper u
theorem AtL.more {w w' : World} {b off : Nat} {L : List (List Int)} (h : AtL w b off L) (hb : Below w.heap.size w w') : AtL w' b off L :=
  ⟨Nat.lt_of_lt_of_le h.1 hb.size, fun j hj => by
    obtain ⟨u, h1, h2, h3⟩ := h.2 j hj
    exact ⟨u, (hb.cell (p := ⟨b, off + j, none⟩) h.1).trans h1, h2.more6 hb, h3⟩⟩
/-- A value that is a list of lists that can be read. -/
def RdsL (w : World) (v : Value) (L : List (List Int)) : Prop := ∃ A c, v = .slice A L.length c ∧ (0 < L.length → ∃ b off, A = some ⟨b, off, none⟩ ∧ AtL w b off L)
theorem RdsL.more {w w' : World} {v : Value} {L : List (List Int)} (h : RdsL w v L) (hb : Below w.heap.size w w') : RdsL w' v L := by
  obtain ⟨A, c, rfl, h1⟩ := h
  refine ⟨A, c, rfl, fun h0 => ?_⟩
  obtain ⟨b, off, rfl, ha⟩ := h1 h0
  exact ⟨b, off, rfl, ha.more hb⟩
theorem RdsL.drewN {w : World} {v : Value} {L : List (List Int)} (h : RdsL w v L) (n : Nat) : RdsL (w.drewN n) v L := h
theorem RdsL.form {w : World} {v : Value} {L : List (List Int)} (h : RdsL w v L) : ∃ A c, v = .slice A L.length c := by
  obtain ⟨A, c, h, _⟩ := h; exact ⟨A, c, h⟩
theorem RdsL.cells {w : World} {A : Option Addr} {n c : Nat} {L : List (List Int)} (h : RdsL w (.slice A n c) L) (h0 : 0 < L.length) : ∃ b off, A = some ⟨b, off, none⟩ ∧ AtL w b off L := by
  obtain ⟨A', c', hv, h1⟩ := h
  injection hv with e1 e2 e3
  subst e1
  exact h1 h0

set_option maxRecDepth 50000 in
set_option maxHeartbeats 800000 in
theorem grw_any (w : World) (n : Nat) (hn : n ≤ 1000) :
    Calls Tryd.prog 57 #[.slice none 0 0, .int .i64 n] w (fun e w' => ∃ u, e = .returned u ∧ OwnL w' w.heap.size u [] ∧ Below w.heap.size w w') := by
  obtain ⟨i0, hi, hz0, hz1, hz2⟩ := info_parts info3
  rcases Nat.eq_zero_or_pos n with rfl | h0
  · clear hi hz0 hz1 hz2
    go_enter Tryd.func57, Tryd.ntmps57
    go_wp2
    go_ret
    exact ⟨_, rfl, OwnL.nil _ _, Below.refl _ _⟩
  · have happ := Lib.run_append_nil_zeros (P := Tryd.prog) w 22 3 22 3 i0 (.int .i64 0) .i64 .i64 Tryd.underlying22 Tryd.underlying3 hi hz0 n h0 (by omega) (by omega) (by rw [hz2]; omega)
    have hcg := grownCap_ge w n 0 3
    have hcl : grownCap w n 0 3 ≤ maxLen := grownCap_le_maxLen w n 0 3 (by unfold maxLen; omega)
    generalize grownCap w n 0 3 = cp at *
    have hZs : (Builtin.zeroCells (Value.int .i64 0).cells n ++ Builtin.zeroCells (Value.int .i64 0).cells (cp - n)).size = cp := by simp [size_zeroCells, Value.cells]; omega
    generalize Builtin.zeroCells (Value.int .i64 0).cells n ++ Builtin.zeroCells (Value.int .i64 0).cells (cp - n) = Z at *
    have HA := Lib.hid happ
    have HZ := Lib.hid hZs
    have HCL := Lib.hid hcl
    clear happ hZs hcl hi hz0 hz1 hz2
    go_enter Tryd.func57, Tryd.ntmps57
    go_wp2_with (at_builtin; refine Lib.wpList_append_run _ rfl _ _ _ _ rfl _ _ rfl rfl _ _ HA.out ?_)
    go_ret
    refine ⟨_, rfl, ?_, ?_⟩
    · exact ⟨by simp [ints], .inr ⟨w.heap.size, cp, Z, rfl, Nat.le_refl _, heap_alloc_new w _, Nat.zero_le _, HCL.out, by rw [HZ.out]; omega, by simp [ints]⟩⟩
    · have h1 : Below w.heap.size w (w.alloc (.cells Z 3)) := (Below.refl _ _).alloc (Nat.le_refl _) _
      exact ⟨h1.os, h1.tape, h1.output, h1.size, h1.block⟩

theorem allP_snoc6 (L : List (List Int)) (k : Nat) (h : k < L.length) : allP (L.take (k + 1)) = allP (L.take k) + (L.getD k []).length := sumF_take List.length L k h
/-- All lists, one behind the other. -/
def flat (L : List (List Int)) : List Int := L.foldr (· ++ ·) []
theorem flat_app (A B : List (List Int)) : flat (A ++ B) = flat A ++ flat B := by
  induction A with
  | nil => rfl
  | cons l A ih => simp only [flat, List.cons_append, List.foldr, List.append_assoc] at ih ⊢; rw [ih]
theorem flat_snoc (L : List (List Int)) (k : Nat) (h : k < L.length) : flat (L.take (k + 1)) = flat (L.take k) ++ L.getD k [] := by
  rw [List.take_add_one, List.getElem?_eq_getElem h, flat_app]
  simp [flat, List.getD_eq_getElem?_getD, List.getElem?_eq_getElem h]
theorem flat_len (L : List (List Int)) : (flat L).length = allP L := by
  induction L with
  | nil => rfl
  | cons l L ih => simp only [flat, List.foldr, List.length_append, allP, sumF] at ih ⊢; omega
theorem allP_take_le (L : List (List Int)) (k : Nat) (h : k < L.length) : allP (L.take k) + (L.getD k []).length ≤ allP L := by
  have h1 := allP_snoc6 L k h
  have h2 : allP L = allP (L.take (k + 1)) + allP (L.drop (k + 1)) := by
    have := sumF_app List.length (L.take (k + 1)) (L.drop (k + 1))
    rw [List.take_append_drop] at this
    exact this
  omega

set_option maxRecDepth 50000 in
set_option maxHeartbeats 1600000 in
theorem cct_any (w : World) (v : Value) (L : List (List Int)) (hv : RdsL w v L) (hL : L.length ≤ 1000) (hn : allP L ≤ 1000) :
    Calls Tryd.prog 45 #[v] w (fun e w' => ∃ u, e = .returned u ∧ OwnL w' w.heap.size u (flat L) ∧ Below w.heap.size w w') := by
  obtain ⟨A, c, hvf⟩ := hv.form
  subst hvf
  have HV := Lib.hid hv
  have HG := Lib.hid (fun W (n : Nat) h => grw_any W n h)
  clear hv
  go_enter Tryd.func45, Tryd.ntmps45
  go_wp2
  go_loop [3, 11] (fun sv iv => ∃ k : Nat, k ≤ L.length ∧ iv = .int .i64 k ∧ sv = .int .i64 (allP (L.take k) : Nat)) (fun _ iv => L.length - (intOf iv).toNat)
  case atStart => exact ⟨0, Nat.zero_le _, rfl, rfl⟩
  case round =>
    obtain ⟨k, hk, rfl, rfl⟩ := hrel
    by_cases hlt : k < L.length
    · obtain ⟨b, off, hb, hat⟩ := HV.out.cells (by omega)
      subst hb
      obtain ⟨u, hc1, hu, _⟩ := hat.2 k hlt
      obtain ⟨Au, cu, hur, _⟩ := hu
      have HS := Lib.hid (allP_snoc6 L k hlt)
      have hle := allP_take_le L k hlt
      subst hur
      clear hat
      generalize (L.getD k []).length = m at *
      generalize allP (L.take k) = t at *
      have hd : decide ((t : Int) + (m : Int) < 0) = false := decide_eq_false (by omega)
      go_wp2
      go_round
      case rel => exact ⟨k + 1, by omega, by go_num, by rw [HS.out]; go_num⟩
      case measure => simp [intOf]; omega
    · obtain rfl : k = L.length := by omega
      rw [List.take_length]
      generalize hT : allP L = T at *
      have HT := Lib.hid hT
      clear hT
      go_wp2_with fail
      refine (HG.out _ T hn).mono ?_
      rintro e w1 ⟨u, rfl, hu, hb1⟩
      have HU := Lib.hid hu
      have HB1 := Lib.hid hb1
      have HV1 := Lib.hid (HV.out.more hb1)
      have hz1 := hb1.size
      clear hu hb1
      go_wp2
      go_loopw [6, 27] (fun sv iv wr => ∃ k : Nat, k ≤ L.length ∧ iv = .int .i64 k ∧ OwnL wr w.heap.size sv (flat (L.take k)) ∧ Below w.heap.size w wr ∧ w.heap.size ≤ wr.heap.size) (fun _ iv _ => L.length - (intOf iv).toNat)
      case atStart => exact ⟨0, Nat.zero_le _, rfl, HU.out, HB1.out, hz1⟩
      case round =>
        obtain ⟨k, hk, rfl, hown, hb, hz⟩ := hrel
        obtain ⟨As, cs, hsv⟩ := hown.form
        subst hsv
        have HO := Lib.hid hown
        have hfl := flat_len (L.take k)
        by_cases hlt : k < L.length
        · obtain ⟨b, off, hbb, hat⟩ := (HV.out.more hb).cells (by omega)
          subst hbb
          obtain ⟨u2, hc1, hu2, hpr⟩ := hat.2 k hlt
          have HU2 := Lib.hid hu2
          have HPR := Lib.hid hpr
          have HS := Lib.hid (flat_snoc L k hlt)
          have hle := allP_take_le L k hlt
          rw [HT.out] at hle
          have hsum : (flat (L.take k)).length + (L.getD k []).length ≤ 1000 := by omega
          clear hown hat hfl hle hu2 hpr
          generalize L.getD k [] = m at *
          generalize hFL : flat (L.take k) = FL at *
          clear hFL
          go_wp2_with (at_builtin; refine append_rowI rfl (.tmp 31) (.tmp 32) rfl w.heap.size _ _ FL m rfl rfl HO.out HU2.out HPR.out (by omega) hz ?_; intro A9 c9 w9 ho9 hg9 hb9 hz9)
          go_roundw
          case rel =>
            refine ⟨k + 1, by omega, by go_num, ?_, hb.trans hb9, by omega⟩
            rw [HS.out]; exact ho9
          case measure => simp [intOf]; omega
        · obtain rfl : k = L.length := by omega
          have HE : Hid (OwnL wr w.heap.size (.slice As (flat (L.take L.length)).length cs) (flat L)) := Lib.hid (by have := HO.out; rwa [List.take_length] at this ⊢)
          have HBB := Lib.hid hb
          clear hown hb HO
          go_wp2
          go_ret
          exact ⟨_, rfl, HE.out, HBB.out⟩
end Go.Proofs.YthogkhifgkgplaaDoor
