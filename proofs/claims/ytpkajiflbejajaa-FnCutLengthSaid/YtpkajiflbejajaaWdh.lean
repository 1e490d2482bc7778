/-
  The walks of what draws pieces with a length, and three numbers. Condition: the code is a list that can be.
-/
import Derived.Test.YtpkajiflbejajaaWdp
namespace Go.Proofs.Ytpkajiflbejajaa
open Go.RowKit
set_option linter.unusedVariables false

set_option maxHeartbeats 800000 in
theorem dCL_any (w : World) (a : Option Addr) (len cap : Nat) (zs : List Int) (h : IsRow .u8 w a len cap zs) :
    Calls Try.prog 16 #[.slice a len cap] w fun e w' => ∃ L M U : Int, e = .returned (.tuple #[.int .i64 L, .int .i64 M, .int .i64 U]) ∧ Below w.heap.size w w' ∧ (0 ≤ L ∧ L ≤ 61) ∧ (0 ≤ M ∧ M ≤ 60) ∧ 0 ≤ U ∧ U ≤ 9 := by
  have H := Lib.hid (nr_any w a len cap zs h)
  clear h
  go_enter Try.func16, Try.ntmps16
  go_wp2_with fail
  refine H.out.mono ?_
  rintro e w1 ⟨rfl, hr, hb, hz⟩
  have HS0 := Lib.hid (Spw.start hr)
  have HB := Lib.hid hb
  have hlo := hr.lt
  obtain ⟨B1, hB1⟩ : ∃ B1, B1 = w1.heap.size := ⟨_, rfl⟩
  rw [← hB1] at HS0
  clear hr hz hb hB1
  go_wp2_with fail
  refine (HS0.out.one (by omega) 8 [20, 12, 30, 8, 1, 60, 61, 0] rfl (by omega) (by omega)).mono ?_
  rintro e w2 ⟨L, rfl, hL, hs2⟩
  have HS2 := Lib.hid hs2
  have hL2 : 0 ≤ L ∧ L ≤ 61 := by
    simp only [List.mem_cons, List.not_mem_nil, or_false] at hL
    omega
  clear hs2 hL HS0
  go_wp2_with fail
  refine (HS2.out.one (by omega) 7 [4, 8, 6, 3, 12, 60, 0] rfl (by omega) (by omega)).mono ?_
  rintro e w3 ⟨M, rfl, hM, hs3⟩
  have HS3 := Lib.hid hs3
  have hM2 : 0 ≤ M ∧ M ≤ 60 := by
    simp only [List.mem_cons, List.not_mem_nil, or_false] at hM
    omega
  clear hs3 hM HS2
  go_wp2_with fail
  refine (HS3.out.one (by omega) 7 [1, 2, 4, 8, 3, 9, 0] rfl (by omega) (by omega)).mono ?_
  rintro e w4 ⟨U, rfl, hU, hs4⟩
  have HS4 := Lib.hid hs4
  have hU2 : 0 ≤ U ∧ U ≤ 9 := by
    simp only [List.mem_cons, List.not_mem_nil, or_false] at hU
    omega
  clear hs4 hU HS3
  go_wp2_with fail
  go_ret3
  exact ⟨L, M, U, rfl, HB.out.trans HS4.out.bel, hL2, hM2, hU2⟩
end Go.Proofs.Ytpkajiflbejajaa
