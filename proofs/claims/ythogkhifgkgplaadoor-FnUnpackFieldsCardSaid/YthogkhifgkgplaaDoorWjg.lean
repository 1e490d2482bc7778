/-
  The walks of the functions that join groups and that cut bytes. Conditions: where the lists lie, and the lengths that are typed.
-/
import Derived.Test.YthogkhifgkgplaaDoorWbas
import Derived.Test.YthogkhifgkgplaaDoorFgr
namespace Go.Proofs.YthogkhifgkgplaaDoor
open Go.RowKit
set_option linter.unusedVariables false

theorem jg_drop (l : List Int) (k : Nat) (h : k < l.length) : jg (l.drop k) = jg (l.drop (k + 1)) * 128 + (l.getD k 0).tmod 128 := by
  rw [List.drop_eq_getElem_cons h]
  show jg (l.drop (k + 1)) * 128 + (l[k]).tmod 128 = _
  rw [List.getD_eq_getElem?_getD, List.getElem?_eq_getElem h]; rfl

theorem jg_bd4 (l : List Int) (h : l.length ≤ 4) : -268435456 < jg l ∧ jg l < 268435456 := by
  have ⟨h1, h2⟩ := jg_bd l
  have : 128 ^ l.length ≤ 128 ^ 4 := Nat.pow_le_pow_right (by omega) h
  have e : (128 : Nat) ^ 4 = 268435456 := rfl
  omega

set_option maxHeartbeats 800000 in
theorem jgr_any (w : World) (v : Value) (xs : List Int) (h : Rds w v xs) (hn : xs.length ≤ 4) :
    Calls Tryd.prog 59 #[v] w fun e w' => e = .returned (.int .i64 (jg xs)) ∧ w = w' := by
  obtain ⟨A, c, rfl, hA⟩ := h
  have HA := Lib.hid hA
  clear hA
  go_enter Tryd.func59, Tryd.ntmps59
  go_wp2
  go_loop [3, 4] (fun xv iv => ∃ (k : Nat) (i : Int), k ≤ xs.length ∧ i = (k : Int) - 1 ∧ iv = .int .i64 i ∧ xv = .int .i64 (jg (xs.drop k))) (fun _ iv => (intOf iv + 1).toNat)
  case atStart => exact ⟨xs.length, (xs.length : Int) - 1, Nat.le_refl _, rfl, rfl, by rw [List.drop_length]; rfl⟩
  case round =>
    obtain ⟨k, i, hk, hi, rfl, rfl⟩ := hrel
    cases k with
    | zero =>
      obtain rfl : i = -1 := by omega
      clear hi hk
      go_wp2
      go_ret
      exact ⟨rfl, rfl⟩
    | succ k =>
      obtain rfl : i = (k : Int) := by omega
      clear hi
      have hlt : k < xs.length := by omega
      obtain ⟨b, off, rfl, hat⟩ := HA.out (by omega)
      have hc1 := hat.2 k hlt
      have hE := jg_drop xs k hlt
      have ⟨b1, b2⟩ := jg_bd4 (xs.drop (k + 1)) (by rw [List.length_drop]; omega)
      have ⟨t1, t2⟩ := tmod_bd (xs.getD k 0)
      have HE := Lib.hid hE
      clear hE hat
      generalize jg (xs.drop (k + 1)) = y at *
      generalize xs.getD k 0 = x at *
      obtain ⟨t, ht⟩ : ∃ t, x.tmod 128 = t := ⟨_, rfl⟩
      rw [ht] at t1 t2 HE
      have HT := Lib.hid ht
      clear ht
      go_wp2
      go_round
      case rel => exact ⟨k, (k : Int) - 1, by omega, rfl, by go_num, by rw [HE.out, HT.out, IntWalk.wrap64_in _ (by omega)]⟩
      case measure => simp [intOf] <;> omega

/-- A value that is a list of numbers that can be read, with room for them. -/
def Rdc (w : World) (v : Value) (xs : List Int) : Prop := ∃ A c, v = .slice A xs.length c ∧ xs.length ≤ c ∧ (0 < xs.length → ∃ b off, A = some ⟨b, off, none⟩ ∧ At w b off xs)
theorem Rdc.rds {w : World} {v : Value} {xs : List Int} (h : Rdc w v xs) : Rds w v xs := by
  obtain ⟨A, c, h1, _, h2⟩ := h; exact ⟨A, c, h1, h2⟩
theorem Rdc.drewN {w : World} {v : Value} {xs : List Int} (h : Rdc w v xs) (n : Nat) : Rdc (w.drewN n) v xs := h
theorem Rdc.of_own {w : World} {B : Nat} {v : Value} {xs : List Int} (h : OwnL w B v xs) : Rdc w v xs := by
  obtain ⟨A, c, rfl, h2⟩ := OwnL.rds h
  refine ⟨A, c, rfl, ?_, h2⟩
  rcases h.2 with ⟨hv, h0⟩ | ⟨g, cap, cur, hv, hB, hh, hc, _⟩
  · omega
  · injection hv with e1 e2 e3
    omega
theorem Rdc.below {w w' : World} {B : Nat} {v : Value} {xs : List Int} (h : Rdc w v xs) (hb : Below B w w') (hv : Lies B v xs) : Rdc w' v xs := by
  obtain ⟨A, c, rfl, hc, h1⟩ := h
  refine ⟨A, c, rfl, hc, fun h0 => ?_⟩
  obtain ⟨b, off, rfl, ha⟩ := h1 h0
  exact ⟨b, off, rfl, ha.below hb (hv h0 b rfl)⟩
theorem Rdc.lies {w : World} {v : Value} {xs : List Int} (h : Rdc w v xs) : Lies w.heap.size v xs := by
  obtain ⟨A, c, rfl, hc, h1⟩ := h
  intro h0 g hg
  obtain ⟨b, off, rfl, ha⟩ := h1 h0
  simp [Value.ownBlock] at hg
  subst hg; exact ha.1
theorem at_mid {w : World} {b off : Nat} {xs : List Int} (h : At w b off xs) (fr n : Nat) : At w b (off + fr) ((xs.drop fr).take n) := by
  refine ⟨h.1, fun j hj => ?_⟩
  rw [List.length_take, List.length_drop] at hj
  have h1 := h.2 (fr + j) (by omega)
  rw [Nat.add_assoc, h1]
  rw [List.getD_eq_getElem?_getD, List.getD_eq_getElem?_getD, List.getElem?_take_of_lt (by omega), List.getElem?_drop]

set_option maxHeartbeats 800000 in
theorem cut_short (w : World) (A : Option Addr) (n c fr to : Nat) (ht : n < to) :
    Calls Tryd.prog 51 #[.slice A n c, .int .i64 fr, .int .i64 to] w fun e w' => e = .returned (.tuple #[.slice none 0 0, .iface 43 (.agg #[.int .i64 n])]) ∧ w = w' := by
  have hd : decide ((n : Int) < (to : Int)) = true := decide_eq_true (by omega)
  go_enter Tryd.func51, Tryd.ntmps51
  go_wp2
  go_ret2
  exact ⟨rfl, rfl⟩
set_option maxHeartbeats 800000 in
theorem cut_none (w : World) (A : Option Addr) (n c fr : Nat) (ht : fr ≤ n) (hc : n ≤ c) (hm : n ≤ 1048576) :
    Calls Tryd.prog 51 #[.slice A n c, .int .i64 fr, .int .i64 fr] w fun e w' => (∃ A', e = .returned (.tuple #[.slice A' 0 0, .nilIface])) ∧ w = w' := by
  have hd : decide ((n : Int) < (fr : Int)) = false := decide_eq_false (by omega)
  go_enter Tryd.func51, Tryd.ntmps51
  go_wp2
  go_ret2
  exact ⟨⟨_, rfl⟩, rfl⟩
set_option maxHeartbeats 800000 in
theorem cut_some (w : World) (b off n c fr to : Nat) (hf : fr < to) (ht : to ≤ n) (hc : n ≤ c) (hm : n ≤ 1048576) :
    Calls Tryd.prog 51 #[.slice (some ⟨b, off, none⟩) n c, .int .i64 fr, .int .i64 to] w fun e w' => e = .returned (.tuple #[.slice (some ⟨b, off + fr, none⟩) (to - fr) (to - fr), .nilIface]) ∧ w = w' := by
  have hd : decide ((n : Int) < (to : Int)) = false := decide_eq_false (by omega)
  have hne : ¬ to = fr := by omega
  go_enter Tryd.func51, Tryd.ntmps51
  go_wp2
  go_ret2
  exact ⟨rfl, rfl⟩
/-- Bytes cut out of a list. -/
theorem cut_any (w : World) (v : Value) (xs : List Int) (fr to : Nat) (h : Rdc w v xs) (hf : fr ≤ to) (ht : to ≤ xs.length) (hn : xs.length ≤ 1048576) :
    Calls Tryd.prog 51 #[v, .int .i64 fr, .int .i64 to] w fun e w' => (∃ u, e = .returned (.tuple #[u, .nilIface]) ∧ Rdc w u ((xs.drop fr).take (to - fr)) ∧ ∀ B, Lies B v xs → Lies B u ((xs.drop fr).take (to - fr))) ∧ w = w' := by
  obtain ⟨A, c, rfl, hc, h1⟩ := h
  have hlen : ((xs.drop fr).take (to - fr)).length = to - fr := by rw [List.length_take, List.length_drop]; omega
  by_cases he : fr = to
  · subst he
    refine (cut_none w A xs.length c fr ht hc hn).mono fun e w' ⟨⟨A', e1⟩, e2⟩ => ⟨⟨_, e1, ⟨A', 0, by rw [hlen, Nat.sub_self], by rw [hlen]; omega, fun h0 => by rw [hlen] at h0; omega⟩, fun B _ h0 => by rw [hlen] at h0; omega⟩, e2⟩
  · obtain ⟨b, off, rfl, ha⟩ := h1 (by omega)
    refine (cut_some w b off xs.length c fr to (by omega) ht hc hn).mono fun e w' ⟨e1, e2⟩ => ⟨⟨_, e1, ⟨_, to - fr, by rw [hlen], by rw [hlen]; omega, fun _ => ⟨b, off + fr, rfl, at_mid ha fr (to - fr)⟩⟩, fun B hB h0 g hg => hB (by omega) g hg⟩, e2⟩
end Go.Proofs.YthogkhifgkgplaaDoor
