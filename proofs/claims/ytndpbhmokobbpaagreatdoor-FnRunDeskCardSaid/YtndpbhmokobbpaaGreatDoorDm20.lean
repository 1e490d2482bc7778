/-
  The plain mathematics of divisors as texts: no program is named here. No condition.
  The walks of the functions that say whether a text is a divisor. Conditions: the lengths that are typed.
  The walk of the product that slices.Repeat asks for. Condition: the number is small.
-/
import Derived.Test.YtndpbhmokobbpaaGreatDoorDm19
import Derived.Test.YtndpbhmokobbpaaGreatDoorDm09
import Derived.BigQuiet
import Derived.Deep.QuietTactic
import Derived.IntWalk
namespace Go.Proofs.YtndpbhmokobbpaaGreatDoor

/-- A divisor: at least two bits and at most nine, the first and the last one 1. -/
def polyB (l : List UInt8) : Bool := bitsB 9 l && decide (2 ≤ l.length) && (l.getD 0 0 == 49) && (l.getD (l.length - 1) 0 == 49)
theorem polyB_of {l : List UInt8} (h : polyB l = true) : ∃ Q, l = txt (true :: Q) ∧ 1 ≤ Q.length ∧ Q.length ≤ 8 ∧ Q.getLast? = some true := by
  simp only [polyB, Bool.and_eq_true, decide_eq_true_eq, beq_iff_eq] at h
  obtain ⟨⟨⟨h1, h2⟩, h3⟩, h4⟩ := h
  have hb : l.length ≤ 9 ∧ l.all isBit = true := by simpa [bitsB] using h1
  obtain ⟨B, rfl⟩ := txt_of hb.2
  rw [txt_len] at h2 h4 hb
  match B, h2 with
  | [], h2 => simp at h2
  | b :: Q, h2 =>
    have e1 : b = true := by
      cases b
      · simp [txt] at h3
      · rfl
    subst e1
    have hq : 1 ≤ Q.length := by simp at h2; omega
    refine ⟨Q, rfl, hq, by simp at hb; omega, ?_⟩
    rw [txt_get _ _ (by simp)] at h4
    rw [List.getLast?_eq_getElem?]
    have e2 : (true :: Q).getD ((true :: Q).length - 1) false = true := by
      cases hx : (true :: Q).getD ((true :: Q).length - 1) false
      · rw [hx] at h4; simp at h4
      · rfl
    obtain ⟨m, hm⟩ : ∃ m, Q.length = m + 1 := ⟨Q.length - 1, by omega⟩
    rw [List.length_cons, Nat.add_sub_cancel, hm, List.getD_cons_succ] at e2
    rw [hm, Nat.add_sub_cancel]
    rw [List.getD_eq_getElem?_getD, List.getElem?_eq_getElem (by omega)] at e2
    rw [List.getElem?_eq_getElem (by omega)]
    simpa using e2
theorem polyB_mk {Q : List Bool} (h1 : 1 ≤ Q.length) (h2 : Q.length ≤ 8) (hl : Q.getLast? = some true) : polyB (txt (true :: Q)) = true := by
  simp only [polyB, Bool.and_eq_true, decide_eq_true_eq, beq_iff_eq]
  refine ⟨⟨⟨by rw [txt_bitsB]; simp; omega, by rw [txt_len]; simp; omega⟩, rfl⟩, ?_⟩
  rw [txt_len, txt_get _ _ (by simp)]
  obtain ⟨m, hm⟩ : ∃ m, Q.length = m + 1 := ⟨Q.length - 1, by omega⟩
  rw [List.getLast?_eq_getElem?, hm, Nat.add_sub_cancel, List.getElem?_eq_getElem (by omega)] at hl
  rw [List.length_cons, Nat.add_sub_cancel, hm, List.getD_cons_succ, List.getD_eq_getElem?_getD, List.getElem?_eq_getElem (by omega)]
  simp at hl
  simp [hl]
/-- A divisor turned round is a divisor. -/
theorem polyB_rev {l : List UInt8} (h : polyB l = true) : polyB l.reverse = true := by
  simp only [polyB, Bool.and_eq_true, decide_eq_true_eq, beq_iff_eq] at h ⊢
  obtain ⟨⟨⟨h1, h2⟩, h3⟩, h4⟩ := h
  have hb : l.length ≤ 9 ∧ l.all isBit = true := by simpa [bitsB] using h1
  refine ⟨⟨⟨by simp [bitsB]; exact ⟨hb.1, by simpa using hb.2⟩, by simpa using h2⟩, ?_⟩, ?_⟩
  · rw [List.getD_eq_getElem?_getD, List.getElem?_reverse (by omega)]
    rw [List.getD_eq_getElem?_getD] at h4
    simpa using h4
  · rw [List.getD_eq_getElem?_getD, List.getElem?_reverse (by simp; omega)]
    rw [List.getD_eq_getElem?_getD] at h3
    simp only [List.length_reverse]
    rw [show l.length - 1 - (l.length - 1) = 0 from by omega]
    exact h3
/-- A divisor leaves nothing of itself. -/
theorem remF_self (Q : List Bool) (h1 : 1 ≤ Q.length) : remF Q (true :: Q) = zs Q.length := by
  obtain ⟨Q', x, rfl⟩ : ∃ Q' x, Q = Q' ++ [x] := by
    rcases List.eq_nil_or_concat Q with rfl | ⟨Q', x, rfl⟩
    · simp at h1
    · exact ⟨Q', x, by simp⟩
  rw [show true :: (Q' ++ [x]) = (true :: Q') ++ [x] from rfl, remF_snoc, remF_short _ (true :: Q') h1 (by simp)]
  rw [show (Q' ++ [x]).length - (true :: Q').length = 0 from by simp]
  rw [stq_true _ _ _ rfl]
  exact xorl_self _

/-- What RestOf gives. -/
def restR (p s : List UInt8) : List UInt8 := if polyB p = true ∧ bitsB 40 s = true ∧ p.length - 1 ≤ s.length then remU p s else []
/-- What SealBits gives. -/
def sealR (p s : List UInt8) : List UInt8 := if polyB p = true ∧ bitsB 40 (s ++ List.replicate (p.length - 1) 48) = true then s ++ remU p (s ++ List.replicate (p.length - 1) 48) else []
/-- Whether only noughts are left. -/
def wholeB (p s : List UInt8) : Bool := !((remU p s).any (· == 49))
/-- What IsSealed gives. -/
def sealedB (p s : List UInt8) : Bool := polyB p && bitsB 40 s && decide (p.length - 1 ≤ s.length) && wholeB p s

theorem any_txt (l : List Bool) : (txt l).any (· == 49) = l.any id := by
  induction l with
  | nil => rfl
  | cons b l ih =>
    have e : txt (b :: l) = (if b then 49 else 48) :: txt l := rfl
    rw [e, List.any_cons, List.any_cons, ih]
    cases b <;> rfl
theorem any_zs {l : List Bool} : l.any id = false ↔ l = zs l.length := by
  induction l with
  | nil => simp [zs]
  | cons b l ih =>
    rw [List.any_cons, List.length_cons, zs_succ]
    cases b
    · simp [ih]
    · simp
theorem wholeB_iff (Q S : List Bool) (h1 : 1 ≤ Q.length) (h : Q.length ≤ S.length) : wholeB (txt (true :: Q)) (txt S) = decide (remF Q S = zs Q.length) := by
  unfold wholeB
  rw [remU_txt Q S h1 h, any_txt]
  have := any_zs (l := remF Q S)
  rw [remF_len Q S h1] at this
  cases hx : (remF Q S).any id
  · rw [decide_eq_true (this.1 hx)]; rfl
  · rw [decide_eq_false (fun e => by rw [this.2 e] at hx; cases hx)]; rfl
theorem restR_ok {Q S : List Bool} (h1 : 1 ≤ Q.length) (h2 : Q.length ≤ 8) (hl : Q.getLast? = some true) (h3 : S.length ≤ 40) (h4 : Q.length ≤ S.length) : restR (txt (true :: Q)) (txt S) = txt (remF Q S) := by
  unfold restR
  rw [if_pos ⟨polyB_mk h1 h2 hl, by rw [txt_bitsB]; simpa using h3, by rw [txt_len, txt_len, List.length_cons]; omega⟩, remU_txt Q S h1 h4]
theorem sealedB_ok {Q S : List Bool} (h1 : 1 ≤ Q.length) (h2 : Q.length ≤ 8) (hl : Q.getLast? = some true) (h3 : S.length ≤ 40) (h4 : Q.length ≤ S.length) : sealedB (txt (true :: Q)) (txt S) = decide (remF Q S = zs Q.length) := by
  unfold sealedB
  rw [polyB_mk h1 h2 hl, txt_bitsB, wholeB_iff Q S h1 h4, decide_eq_true h3, txt_len, txt_len, List.length_cons, decide_eq_true (show Q.length + 1 - 1 ≤ S.length by omega)]
  rfl
end Go.Proofs.YtndpbhmokobbpaaGreatDoor

namespace Go.Proofs.YtndpbhmokobbpaaGreatDoor
open Go.RowKit
set_option linter.unusedVariables false

set_option maxHeartbeats 400000 in
theorem inR_any (w : World) (x lo hi : Int) :
    Calls Tryz.prog 36 #[.int .i64 x, .int .i64 lo, .int .i64 hi] w fun e w' => e = .returned (.bool (decide (lo ≤ x) && decide (x ≤ hi))) ∧ w = w' := by
  by_cases h1 : lo ≤ x
  · have h2 : decide (lo ≤ x) = true := by simpa using h1
    go_enter Tryz.func36, Tryz.ntmps36
    go_wp2
    go_ret
    exact ⟨ret_bool (by simp [h1]), rfl⟩
  · have h2 : decide (lo ≤ x) = false := by simpa using h1
    go_enter Tryz.func36, Tryz.ntmps36
    go_wp2
    go_ret
    exact ⟨ret_bool (by simp), rfl⟩

theorem bitsB_more {m n : Nat} {l : List UInt8} (h : bitsB m l = true) (hmn : m ≤ n) : bitsB n l = true := by
  have hb : l.length ≤ m ∧ l.all isBit = true := by simpa [bitsB] using h
  simp only [bitsB, hb.2, Bool.and_true, decide_eq_true_eq]; omega
theorem poly_first (s : ByteArray) (h : 0 < s.size) : s.data.toList.getD 0 0 = s[0] := by
  have h' : 0 < s.data.toList.length := by simpa using h
  rw [List.getD_eq_getElem?_getD, List.getElem?_eq_getElem h']; rfl
theorem poly_last (s : ByteArray) (k : Nat) (h : k < s.size) : s.data.toList.getD k 0 = s[k] := by
  have h' : k < s.data.toList.length := by simpa using h
  rw [List.getD_eq_getElem?_getD, List.getElem?_eq_getElem h']; rfl
theorem beq49 (c : UInt8) : (c == 49) = ((c.toNat : Int) == 49) := by
  by_cases h : c = 49
  · subst h; rfl
  · have : c.toNat ≠ 49 := fun e => h (by rw [← UInt8.toNat_inj]; exact e)
    rw [beq_eq_false_iff_ne.2 h, beq_eq_false_iff_ne.2 (by omega)]
/-- How the walks see a divisor. -/
theorem polyB_eq (s : ByteArray) (k : Nat) (hk : s.size = k + 1) (h2 : 1 ≤ k) (h9 : k ≤ 8) (hb : s.data.toList.all isBit = true) :
    polyB s.data.toList = (((s[0].toNat : Int) == 49) && ((s[k].toNat : Int) == 49)) := by
  have hl : s.data.toList.length = s.size := by simp
  have e1 : bitsB 9 s.data.toList = true := by simp [bitsB, hb]; omega
  have e2 : s.data.toList.length - 1 = k := by omega
  unfold polyB
  rw [e1, e2, poly_first s (by omega), poly_last s k (by omega), beq49, beq49, decide_eq_true (show 2 ≤ s.data.toList.length by omega)]; rfl
theorem polyB_no1 {s : ByteArray} (h : bitsB 9 s.data.toList = false) : polyB s.data.toList = false := by simp [polyB, h]
theorem polyB_no2 {s : ByteArray} (h : s.size < 2) : polyB s.data.toList = false := by
  have hl : s.data.toList.length = s.size := by simp
  have : decide (2 ≤ s.data.toList.length) = false := by simp; omega
  simp [polyB]; omega

set_option maxHeartbeats 800000 in
theorem iVP_any (s : ByteArray) (w : World) (hs : s.size ≤ maxLen) :
    Calls Tryz.prog 71 #[.string s] w fun e w' => e = .returned (.bool (polyB s.data.toList)) ∧ Below w.heap.size w w' := by
  have h1 := iob_any s 9 w hs (by omega)
  cases hb : bitsB 9 s.data.toList
  · rw [polyB_no1 hb]
    rw [hb] at h1
    have H1 := Lib.hid h1
    clear h1 hb
    go_enter Tryz.func71, Tryz.ntmps71
    go_wp2_with (go_at_call 62; refine H1.out.mono ?_; rintro e w' ⟨rfl, hb⟩)
    go_ret
    exact ⟨rfl, hb⟩
  · have hb9 : s.size ≤ 9 ∧ s.data.toList.all isBit = true := by simpa [bitsB] using hb
    rw [hb] at h1
    have H1 := Lib.hid h1
    clear h1 hb
    by_cases h2 : s.size < 2
    · rw [polyB_no2 h2]
      have hg : ¬ (1 : Int) < (s.size : Int) := by omega
      clear hb9
      go_enter Tryz.func71, Tryz.ntmps71
      go_wp2_with (go_at_call 62; refine H1.out.mono ?_; rintro e w' ⟨rfl, hb⟩)
      go_ret
      exact ⟨rfl, hb⟩
    · obtain ⟨k, hk⟩ : ∃ k, s.size = k + 1 := ⟨s.size - 1, by omega⟩
      rw [polyB_eq s k hk (by omega) (by omega) hb9.2]
      have hg : decide ((1 : Int) < (s.size : Int)) = true := by simp; omega
      have hg2 : (1 : Int) < (s.size : Int) := by omega
      have hkk : ((s.size : Int) - 1).toNat = k := by omega
      go_enter Tryz.func71, Tryz.ntmps71
      go_wp2_with (go_at_call 62; refine H1.out.mono ?_; rintro e w' ⟨rfl, hb⟩)
      · have e1 : ((s[0].toNat : Int) == 49) = true := by simp; assumption
        go_ret
        exact ⟨ret_bool (by rw [e1, Bool.true_and]), hb⟩
      · have e1 : ((s[0].toNat : Int) == 49) = false := by simp; assumption
        go_ret
        exact ⟨ret_bool (by rw [e1, Bool.false_and]), hb⟩

set_option maxHeartbeats 800000 in
theorem svP_any (s : ByteArray) (w : World) (hs : s.size ≤ maxLen) :
    Calls Tryz.prog 27 #[.string s] w fun e w' => e = .returned (.bool (polyB s.data.toList)) ∧ w = w' := by
  have h1 := svb_any s w hs
  have h0 := inR_any w (s.size : Int) 2 9
  cases hb : bitsB 40 s.data.toList
  · have hb9 : bitsB 9 s.data.toList = false := by
      cases h9 : bitsB 9 s.data.toList
      · rfl
      · rw [bitsB_more h9 (by omega)] at hb; cases hb
    rw [polyB_no1 hb9]
    rw [hb] at h1
    have H1 := Lib.hid h1
    clear h1 hb hb9 h0
    go_enter Tryz.func27, Tryz.ntmps27
    go_wp2_with (go_at_call 28; refine H1.out.mono ?_; rintro e w' ⟨rfl, rfl⟩)
    go_ret
    exact ⟨rfl, rfl⟩
  · have hb40 : s.size ≤ 40 ∧ s.data.toList.all isBit = true := by simpa [bitsB] using hb
    rw [hb] at h1
    have H1 := Lib.hid h1
    clear h1 hb
    by_cases h29 : 2 ≤ s.size ∧ s.size ≤ 9
    · obtain ⟨k, hk⟩ : ∃ k, s.size = k + 1 := ⟨s.size - 1, by omega⟩
      rw [polyB_eq s k hk (by omega) (by omega) hb40.2]
      rw [decide_eq_true (show (2 : Int) ≤ (s.size : Int) by omega), decide_eq_true (show (s.size : Int) ≤ 9 by omega), Bool.true_and, hk] at h0
      have H0 := Lib.hid h0
      have hkk : ((s.size : Int) - 1).toNat = k := by omega
      obtain ⟨h2, h9⟩ := h29
      clear h0
      go_enter Tryz.func27, Tryz.ntmps27
      go_wp2_with (first | (go_at_call 28; refine H1.out.mono ?_; rintro e w' ⟨rfl, rfl⟩) | (go_at_call 36; refine H0.out.mono ?_; rintro e w' ⟨rfl, rfl⟩))
      · have e1 : ((s[0].toNat : Int) == 49) = true := by simp; assumption
        go_ret
        exact ⟨ret_bool (by rw [e1, Bool.true_and]), rfl⟩
      · have e1 : ((s[0].toNat : Int) == 49) = false := by simp; assumption
        go_ret
        exact ⟨ret_bool (by rw [e1, Bool.false_and]), rfl⟩
    · have hf : (decide ((2 : Int) ≤ (s.size : Int)) && decide ((s.size : Int) ≤ 9)) = false := by simp; omega
      have hp : polyB s.data.toList = false := by
        by_cases h2 : s.size < 2
        · exact polyB_no2 h2
        · refine polyB_no1 ?_
          have hl : s.data.toList.length = s.size := by simp
          have : ¬ s.data.toList.length ≤ 9 := by omega
          simp only [bitsB, decide_eq_false this, Bool.false_and]
      rw [hp]
      rw [hf] at h0
      have H0 := Lib.hid h0
      clear h0 hf hp hb40 h29
      go_enter Tryz.func27, Tryz.ntmps27
      go_wp2_with (first | (go_at_call 28; refine H1.out.mono ?_; rintro e w' ⟨rfl, rfl⟩) | (go_at_call 36; refine H0.out.mono ?_; rintro e w' ⟨rfl, rfl⟩))
      go_ret
      exact ⟨rfl, rfl⟩

end Go.Proofs.YtndpbhmokobbpaaGreatDoor

namespace Go.Proofs.YtndpbhmokobbpaaGreatDoor
open Go.RowKit
set_option linter.unusedVariables false

theorem ofInt_u64 (a : Nat) (ha : a < 18446744073709551616) : (BitVec.ofInt 64 (a : Int)).toNat = a := by
  rw [BitVec.ofInt_natCast, BitVec.toNat_ofNat]; exact Nat.mod_eq_of_lt (by omega)
theorem wrap_u64_nat (a : Nat) (ha : a < 18446744073709551616) : IntKind.u64.wrap (a : Int) = a := by
  have h : IntKind.u64.wrap (a : Int) = (a : Int) % 18446744073709551616 := rfl
  rw [h]; omega
theorem u64_and_low (c : Nat) (hc : c ≤ 1000) : bits .and .u64 (c : Int) 4294967295 = (c : Int) := by
  show IntKind.u64.wrap ((BitVec.ofInt 64 (c : Int) &&& BitVec.ofInt 64 ((4294967295 : Nat) : Int)).toNat : Int) = _
  rw [BitVec.toNat_and, ofInt_u64 c (by omega), ofInt_u64 4294967295 (by omega)]
  have e : c &&& 4294967295 = c := by
    rw [show (4294967295 : Nat) = 2 ^ 32 - 1 from rfl, Nat.and_two_pow_sub_one_eq_mod]; exact Nat.mod_eq_of_lt (by omega)
  rw [e, wrap_u64_nat c (by omega)]

set_option maxHeartbeats 800000 in
theorem mul64_any (c : Nat) (w : World) (hc : c ≤ 1000) :
    Calls Tryz.prog 114 #[.int .u64 1, .int .u64 c] w fun e w' => e = .returned (.tuple #[.int .u64 0, .int .u64 c]) ∧ w = w' := by
  have h1 := u64_and_low c hc
  have h2 : bits .and .u64 1 4294967295 = 1 := u64_and_low 1 (by omega)
  have h3 : bits .and .u64 0 4294967295 = 0 := u64_and_low 0 (by omega)
  have h4 := wrap_u64_nat c (by omega)
  have h5 : IntKind.u64.wrap 0 = 0 := wrap_u64_nat 0 (by omega)
  have h6 : (c : Int) / 4294967296 = 0 := by omega
  go_enter Tryz.func114, Tryz.ntmps114
  go_wp2
  go_ret2
  exact ⟨rfl, rfl⟩
set_option maxHeartbeats 800000 in
theorem mul_any (c : Nat) (w : World) (hc : c ≤ 1000) :
    Calls Tryz.prog 100 #[.int .u64 1, .int .u64 c] w fun e w' => e = .returned (.tuple #[.int .u64 0, .int .u64 c]) ∧ w = w' := by
  have H := Lib.hid (mul64_any c w hc)
  have h4 := wrap_u64_nat c (by omega)
  go_enter Tryz.func100, Tryz.ntmps100
  go_wp2_with (go_at_call 114; refine H.out.mono ?_; rintro e w' ⟨rfl, rfl⟩)
  go_ret2
  exact ⟨rfl, rfl⟩
end Go.Proofs.YtndpbhmokobbpaaGreatDoor
