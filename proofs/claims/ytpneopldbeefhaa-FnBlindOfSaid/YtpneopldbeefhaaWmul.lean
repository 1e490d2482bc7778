/-
  The walk of the product that slices.Repeat asks for. Condition: the number is small.
-/
import Derived.Test.YtpneopldbeefhaaWpoly
import Derived.IntWalk
namespace Go.Proofs.Ytpneopldbeefhaa
open Go.RowKit
set_option linter.unusedVariables false

theorem ofInt_u64 (a : Nat) (ha : a < 18446744073709551616) : (BitVec.ofInt 64 (a : Int)).toNat = a := by
  rw [BitVec.ofInt_natCast, BitVec.toNat_ofNat]; exact Nat.mod_eq_of_lt (by omega)
theorem wrap_u64_nat (a : Nat) (ha : a < 18446744073709551616) : IntKind.u64.wrap (a : Int) = a := by
  have h : IntKind.u64.wrap (a : Int) = (a : Int) % 18446744073709551616 := rfl
  rw [h]; omega
theorem u64_and_low (c : Nat) (hc : c ≤ 1000) : bits .and .u64 (c : Int) 4294967295 = (c : Int) := by
  show IntKind.u64.wrap ((BitVec.ofInt 64 (c : Int) &&& BitVec.ofInt 64 ((4294967295 : Nat) : Int)).toNat : Int) = _
  rw [BitVec.toNat_and, ofInt_u64 c (by omega), ofInt_u64 4294967295 (by omega)]
  have e : c &&& 4294967295 = c := by
    rw [show (4294967295 : Nat) = 2 ^ 32 - 1 from rfl, Nat.and_two_pow_sub_one_eq_mod]; exact Nat.mod_eq_of_lt (by omega)
  rw [e, wrap_u64_nat c (by omega)]

set_option maxHeartbeats 800000 in
theorem mul64_any (c : Nat) (w : World) (hc : c ≤ 1000) :
    Calls Try.prog 49 #[.int .u64 1, .int .u64 c] w fun e w' => e = .returned (.tuple #[.int .u64 0, .int .u64 c]) ∧ w = w' := by
  have h1 := u64_and_low c hc
  have h2 : bits .and .u64 1 4294967295 = 1 := u64_and_low 1 (by omega)
  have h3 : bits .and .u64 0 4294967295 = 0 := u64_and_low 0 (by omega)
  have h4 := wrap_u64_nat c (by omega)
  have h5 : IntKind.u64.wrap 0 = 0 := wrap_u64_nat 0 (by omega)
  have h6 : (c : Int) / 4294967296 = 0 := by omega
  go_enter Try.func49, Try.ntmps49
  go_wp2
  go_ret2
  exact ⟨rfl, rfl⟩
set_option maxHeartbeats 800000 in
theorem mul_any (c : Nat) (w : World) (hc : c ≤ 1000) :
    Calls Try.prog 47 #[.int .u64 1, .int .u64 c] w fun e w' => e = .returned (.tuple #[.int .u64 0, .int .u64 c]) ∧ w = w' := by
  have H := Lib.hid (mul64_any c w hc)
  have h4 := wrap_u64_nat c (by omega)
  go_enter Try.func47, Try.ntmps47
  go_wp2_with (go_at_call 49; refine H.out.mono ?_; rintro e w' ⟨rfl, rfl⟩)
  go_ret2
  exact ⟨rfl, rfl⟩
end Go.Proofs.Ytpneopldbeefhaa
