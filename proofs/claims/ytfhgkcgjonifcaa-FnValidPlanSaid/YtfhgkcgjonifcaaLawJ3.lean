/-
  The walk of the law FnValidPlan: it returns true at every list of bytes. No condition.
-/
import Derived.Test.YtfhgkcgjonifcaaWap
namespace Go.Proofs.Ytfhgkcgjonifcaa
open Go.RowKit
set_option linter.unusedVariables false

theorem vpB_less {n a k m : Int} (h : vpB ⟨n, a, k, m⟩ = true) (hm : ¬ m - 1 = 0) : vpB ⟨n, a, k, m - 1⟩ = true := by
  simp [vpB] at h ⊢; omega
set_option maxHeartbeats 1600000 in
theorem fnValidPlan_walk (a : Option Addr) (len cap : Nat) (zs : List Int) (w : World) (h : IsRow .u8 w a len cap zs) : Calls Try.prog 7 #[.slice a len cap] w fun e w' => e = .returned (.bool true) ∧ Below w.heap.size w w' := by
  have HD := Lib.hid (dvp_any w a len cap zs h)
  have hlen : len ≤ 9223372036854775807 := by
    rcases h with ⟨_, rfl, _⟩ | ⟨_, _, h1, h2, _⟩
    · omega
    · unfold maxLen at h2; omega
  clear h
  by_cases hg : (1048576 : Int) < (len : Int)
  · go_enter Try.func7, Try.ntmps7
    go_wp2_with fail
    go_ret
    exact ⟨rfl, Below.refl _ _⟩
  · go_enter Try.func7, Try.ntmps7
    go_wp2_with fail
    refine HD.out.mono ?_
    rintro e w1 ⟨n, a', k, m, rfl, hbd, hb1⟩
    have HB1 := Lib.hid hb1
    clear hb1
    have hz1 := HB1.out.size
    have HI := Lib.hid (fun W => ivp_any n a' k m W)
    have HS := Lib.hid (fun W => sVP_any n a' k m W)
    cases hv : vpB ⟨n, a', k, m⟩
    · rw [hv] at HI HS
      clear hv
      go_wp2_with fail
      refine (HI.out _).mono ?_
      rintro e w2 ⟨rfl, hb2⟩
      have B2 := Lib.hid ((Blk.new w1 25 #[.int .i64 n, .int .i64 a', .int .i64 k, .int .i64 m]).below hb2 (by simp))
      have HB2 := Lib.hid ((HB1.out.alloc hz1 (.cells #[.int .i64 n, .int .i64 a', .int .i64 k, .int .i64 m] 25)).trans (hb2.mono (by simp; omega)))
      have hz2 := HB2.out.size
      obtain ⟨c0, c1, c2, c3⟩ := B2.out.c4
      clear hb2
      go_wp2_with fail
      refine (HS.out _).mono ?_
      rintro e w3 ⟨rfl, hb3⟩
      have B3 := Lib.hid (B2.out.below hb3 B2.out.lt)
      have HB3 := Lib.hid (HB2.out.trans (hb3.mono hz2))
      have hz3 := HB3.out.size
      clear c0 c1 c2 c3 hb3
      obtain ⟨c0, c1, c2, c3⟩ := B3.out.c4
      go_wp2_with fail
      refine (HS.out _).mono ?_
      rintro e w4 ⟨rfl, hb4⟩
      have HB4 := Lib.hid (HB3.out.trans (hb4.mono hz3))
      clear hb4
      go_wp2
      go_ret
      exact ⟨rfl, HB4.out⟩
    · rw [hv] at HI HS
      have HV := Lib.hid hv
      clear hv
      go_wp2_with fail
      refine (HI.out _).mono ?_
      rintro e w2 ⟨rfl, hb2⟩
      have B2 := Lib.hid ((Blk.new w1 25 #[.int .i64 n, .int .i64 a', .int .i64 k, .int .i64 m]).below hb2 (by simp))
      have HB2 := Lib.hid ((HB1.out.alloc hz1 (.cells #[.int .i64 n, .int .i64 a', .int .i64 k, .int .i64 m] 25)).trans (hb2.mono (by simp; omega)))
      have hz2 := HB2.out.size
      obtain ⟨c0, c1, c2, c3⟩ := B2.out.c4
      clear hb2
      go_wp2_with fail
      refine (HS.out _).mono ?_
      rintro e w3 ⟨rfl, hb3⟩
      have B3 := Lib.hid (B2.out.below hb3 B2.out.lt)
      have HB3 := Lib.hid (HB2.out.trans (hb3.mono hz2))
      have hz3 := HB3.out.size
      clear c0 c1 c2 c3 hb3
      obtain ⟨c0, c1, c2, c3⟩ := B3.out.c4
      obtain ⟨f0, f1, f2, f3⟩ := B3.out.f4
      have HB := HB3.out
      by_cases hm : m - 1 = 0
      · have hm' : (m - 1 == 0) = true := by simpa using hm
        clear hm
        go_wp2
        go_ret
        exact ⟨rfl, (by repeat (first | (with_reducible exact Below.refl _ _) | (with_reducible assumption) | ((with_reducible refine Below.setCell ?_ ?_ _); rotate_left; focus (first | (simp; done) | (simp; omega))) | ((with_reducible refine Below.alloc ?_ ?_ _); rotate_left; focus (first | (with_reducible exact Nat.le_refl _) | (simp; done) | (simp; omega))) | (with_reducible refine belowD ?_ _) | (with_reducible refine belowDr ?_)))⟩
      · have hm' : (m - 1 == 0) = false := by simpa using hm
        have HL := Lib.hid (fun W => vpB_less HV.out hm ▸ ivp_any n a' k (m - 1) W)
        have B5 := Lib.hid (B3.out.set_ 3 (.int .i64 (m - 1)))
        clear hm
        go_wp2_with fail
        refine (HL.out _).mono ?_
        rintro e w5 ⟨rfl, hb5⟩
        have HB5 := Lib.hid ((HB3.out.setCell (p := ⟨w1.heap.size, 3, none⟩) hz1 (.int .i64 (m - 1))).trans (hb5.mono (by simp; omega)))
        clear hb5
        go_wp2
        go_ret
        exact ⟨rfl, HB5.out⟩
end Go.Proofs.Ytfhgkcgjonifcaa
