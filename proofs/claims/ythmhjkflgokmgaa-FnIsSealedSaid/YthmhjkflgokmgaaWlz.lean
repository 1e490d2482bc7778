/-
  The walks of the laws' own functions on texts of bits. Conditions: the lengths that are typed.
-/
import Derived.Test.YthmhjkflgokmgaaWrem
namespace Go.Proofs.Ythmhjkflgokmgaa
open Go.RowKit
set_option linter.unusedVariables false

set_option maxHeartbeats 400000 in
theorem lze_any (x : Int) (w : World) (h0 : 0 ≤ x) (h1 : x ≤ 1000) :
    Calls Try.prog 24 #[.int .i64 x] w fun e w' => e = .returned (.string ⟨(List.replicate x.toNat 48).toArray⟩) ∧ w = w' := by
  obtain ⟨n, rfl⟩ : ∃ n : Nat, x = n := ⟨x.toNat, by omega⟩
  go_enter Try.func24, Try.ntmps24
  go_wp2
  go_loop [0, 3] (fun i o => ∃ k : Nat, k ≤ n ∧ i = .int .i64 ((n - k : Nat) : Int) ∧ o = .string ⟨(List.replicate k (48 : UInt8)).toArray⟩) (fun i _ => (intOf i).toNat)
  case atStart => exact ⟨0, Nat.zero_le _, rfl, rfl⟩
  case round =>
    obtain ⟨k, hk, rfl, rfl⟩ := hrel
    have hsz : (ByteArray.mk (List.replicate k (48 : UInt8)).toArray).size ≤ 1000 := by rw [mk_size]; simp; omega
    by_cases hlt : k < n
    · obtain ⟨j, hj⟩ : ∃ j, n - k = j + 1 := ⟨n - k - 1, by omega⟩
      have hg : (0 : Int) < ((j + 1 : Nat) : Int) := by omega
      have hj2 : j ≤ 1000 := by omega
      rw [hj]
      have HJ := Lib.hid hj
      clear hj
      go_wp2
      go_round
      case rel => exact ⟨k + 1, by omega, by have := HJ.out; rw [show n - (k + 1) = j from by omega], by rw [app_c]; simp [List.replicate_succ']⟩
      case measure => have := HJ.out; simp [intOf]; try omega
    · obtain rfl : k = n := by omega
      rw [Nat.sub_self]
      go_wp2
      go_ret
      exact ⟨ret_str (by simp), rfl⟩
end Go.Proofs.Ythmhjkflgokmgaa
