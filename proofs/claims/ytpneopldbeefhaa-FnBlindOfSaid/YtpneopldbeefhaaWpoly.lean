/-
  The walks of the functions that say whether a text is a divisor. Conditions: the lengths that are typed.
-/
import Derived.Test.YtpneopldbeefhaaWtxt
import Derived.Test.YtpneopldbeefhaaPolyb
import Derived.BigQuiet
import Derived.Deep.QuietTactic
namespace Go.Proofs.Ytpneopldbeefhaa
open Go.RowKit
set_option linter.unusedVariables false

set_option maxHeartbeats 400000 in
theorem inR_any (w : World) (x lo hi : Int) :
    Calls Try.prog 26 #[.int .i64 x, .int .i64 lo, .int .i64 hi] w fun e w' => e = .returned (.bool (decide (lo ≤ x) && decide (x ≤ hi))) ∧ w = w' := by
  by_cases h1 : lo ≤ x
  · have h2 : decide (lo ≤ x) = true := by simpa using h1
    go_enter Try.func26, Try.ntmps26
    go_wp2
    go_ret
    exact ⟨ret_bool (by simp [h1]), rfl⟩
  · have h2 : decide (lo ≤ x) = false := by simpa using h1
    go_enter Try.func26, Try.ntmps26
    go_wp2
    go_ret
    exact ⟨ret_bool (by simp), rfl⟩

theorem bitsB_more {m n : Nat} {l : List UInt8} (h : bitsB m l = true) (hmn : m ≤ n) : bitsB n l = true := by
  have hb : l.length ≤ m ∧ l.all isBit = true := by simpa [bitsB] using h
  simp only [bitsB, hb.2, Bool.and_true, decide_eq_true_eq]; omega
theorem poly_first (s : ByteArray) (h : 0 < s.size) : s.data.toList.getD 0 0 = s[0] := by
  have h' : 0 < s.data.toList.length := by simpa using h
  rw [List.getD_eq_getElem?_getD, List.getElem?_eq_getElem h']; rfl
theorem poly_last (s : ByteArray) (k : Nat) (h : k < s.size) : s.data.toList.getD k 0 = s[k] := by
  have h' : k < s.data.toList.length := by simpa using h
  rw [List.getD_eq_getElem?_getD, List.getElem?_eq_getElem h']; rfl
theorem beq49 (c : UInt8) : (c == 49) = ((c.toNat : Int) == 49) := by
  by_cases h : c = 49
  · subst h; rfl
  · have : c.toNat ≠ 49 := fun e => h (by rw [← UInt8.toNat_inj]; exact e)
    rw [beq_eq_false_iff_ne.2 h, beq_eq_false_iff_ne.2 (by omega)]
/-- How the walks see a divisor. -/
theorem polyB_eq (s : ByteArray) (k : Nat) (hk : s.size = k + 1) (h2 : 1 ≤ k) (h9 : k ≤ 8) (hb : s.data.toList.all isBit = true) :
    polyB s.data.toList = (((s[0].toNat : Int) == 49) && ((s[k].toNat : Int) == 49)) := by
  have hl : s.data.toList.length = s.size := by simp
  have e1 : bitsB 9 s.data.toList = true := by simp [bitsB, hb]; omega
  have e2 : s.data.toList.length - 1 = k := by omega
  unfold polyB
  rw [e1, e2, poly_first s (by omega), poly_last s k (by omega), beq49, beq49, decide_eq_true (show 2 ≤ s.data.toList.length by omega)]; rfl
theorem polyB_no1 {s : ByteArray} (h : bitsB 9 s.data.toList = false) : polyB s.data.toList = false := by simp [polyB, h]
theorem polyB_no2 {s : ByteArray} (h : s.size < 2) : polyB s.data.toList = false := by
  have hl : s.data.toList.length = s.size := by simp
  have : decide (2 ≤ s.data.toList.length) = false := by simp; omega
  simp [polyB]; omega

set_option maxHeartbeats 800000 in
theorem iVP_any (s : ByteArray) (w : World) (hs : s.size ≤ maxLen) :
    Calls Try.prog 16 #[.string s] w fun e w' => e = .returned (.bool (polyB s.data.toList)) ∧ Below w.heap.size w w' := by
  have h1 := iob_any s 9 w hs (by omega)
  cases hb : bitsB 9 s.data.toList
  · rw [polyB_no1 hb]
    rw [hb] at h1
    have H1 := Lib.hid h1
    clear h1 hb
    go_enter Try.func16, Try.ntmps16
    go_wp2_with (go_at_call 33; refine H1.out.mono ?_; rintro e w' ⟨rfl, hb⟩)
    go_ret
    exact ⟨rfl, hb⟩
  · have hb9 : s.size ≤ 9 ∧ s.data.toList.all isBit = true := by simpa [bitsB] using hb
    rw [hb] at h1
    have H1 := Lib.hid h1
    clear h1 hb
    by_cases h2 : s.size < 2
    · rw [polyB_no2 h2]
      have hg : ¬ (1 : Int) < (s.size : Int) := by omega
      clear hb9
      go_enter Try.func16, Try.ntmps16
      go_wp2_with (go_at_call 33; refine H1.out.mono ?_; rintro e w' ⟨rfl, hb⟩)
      go_ret
      exact ⟨rfl, hb⟩
    · obtain ⟨k, hk⟩ : ∃ k, s.size = k + 1 := ⟨s.size - 1, by omega⟩
      rw [polyB_eq s k hk (by omega) (by omega) hb9.2]
      have hg : decide ((1 : Int) < (s.size : Int)) = true := by simp; omega
      have hg2 : (1 : Int) < (s.size : Int) := by omega
      have hkk : ((s.size : Int) - 1).toNat = k := by omega
      go_enter Try.func16, Try.ntmps16
      go_wp2_with (go_at_call 33; refine H1.out.mono ?_; rintro e w' ⟨rfl, hb⟩)
      · have e1 : ((s[0].toNat : Int) == 49) = true := by simp; assumption
        go_ret
        exact ⟨ret_bool (by rw [e1, Bool.true_and]), hb⟩
      · have e1 : ((s[0].toNat : Int) == 49) = false := by simp; assumption
        go_ret
        exact ⟨ret_bool (by rw [e1, Bool.false_and]), hb⟩

set_option maxHeartbeats 800000 in
theorem svP_any (s : ByteArray) (w : World) (hs : s.size ≤ maxLen) :
    Calls Try.prog 21 #[.string s] w fun e w' => e = .returned (.bool (polyB s.data.toList)) ∧ w = w' := by
  have h1 := svb_any s w hs
  have h0 := inR_any w (s.size : Int) 2 9
  cases hb : bitsB 40 s.data.toList
  · have hb9 : bitsB 9 s.data.toList = false := by
      cases h9 : bitsB 9 s.data.toList
      · rfl
      · rw [bitsB_more h9 (by omega)] at hb; cases hb
    rw [polyB_no1 hb9]
    rw [hb] at h1
    have H1 := Lib.hid h1
    clear h1 hb hb9 h0
    go_enter Try.func21, Try.ntmps21
    go_wp2_with (go_at_call 36; refine H1.out.mono ?_; rintro e w' ⟨rfl, rfl⟩)
    go_ret
    exact ⟨rfl, rfl⟩
  · have hb40 : s.size ≤ 40 ∧ s.data.toList.all isBit = true := by simpa [bitsB] using hb
    rw [hb] at h1
    have H1 := Lib.hid h1
    clear h1 hb
    by_cases h29 : 2 ≤ s.size ∧ s.size ≤ 9
    · obtain ⟨k, hk⟩ : ∃ k, s.size = k + 1 := ⟨s.size - 1, by omega⟩
      rw [polyB_eq s k hk (by omega) (by omega) hb40.2]
      rw [decide_eq_true (show (2 : Int) ≤ (s.size : Int) by omega), decide_eq_true (show (s.size : Int) ≤ 9 by omega), Bool.true_and, hk] at h0
      have H0 := Lib.hid h0
      have hkk : ((s.size : Int) - 1).toNat = k := by omega
      obtain ⟨h2, h9⟩ := h29
      clear h0
      go_enter Try.func21, Try.ntmps21
      go_wp2_with (first | (go_at_call 36; refine H1.out.mono ?_; rintro e w' ⟨rfl, rfl⟩) | (go_at_call 26; refine H0.out.mono ?_; rintro e w' ⟨rfl, rfl⟩))
      · have e1 : ((s[0].toNat : Int) == 49) = true := by simp; assumption
        go_ret
        exact ⟨ret_bool (by rw [e1, Bool.true_and]), rfl⟩
      · have e1 : ((s[0].toNat : Int) == 49) = false := by simp; assumption
        go_ret
        exact ⟨ret_bool (by rw [e1, Bool.false_and]), rfl⟩
    · have hf : (decide ((2 : Int) ≤ (s.size : Int)) && decide ((s.size : Int) ≤ 9)) = false := by simp; omega
      have hp : polyB s.data.toList = false := by
        by_cases h2 : s.size < 2
        · exact polyB_no2 h2
        · refine polyB_no1 ?_
          have hl : s.data.toList.length = s.size := by simp
          have : ¬ s.data.toList.length ≤ 9 := by omega
          simp only [bitsB, decide_eq_false this, Bool.false_and]
      rw [hp]
      rw [hf] at h0
      have H0 := Lib.hid h0
      clear h0 hf hp hb40 h29
      go_enter Try.func21, Try.ntmps21
      go_wp2_with (first | (go_at_call 36; refine H1.out.mono ?_; rintro e w' ⟨rfl, rfl⟩) | (go_at_call 26; refine H0.out.mono ?_; rintro e w' ⟨rfl, rfl⟩))
      go_ret
      exact ⟨rfl, rfl⟩

end Go.Proofs.Ytpneopldbeefhaa
