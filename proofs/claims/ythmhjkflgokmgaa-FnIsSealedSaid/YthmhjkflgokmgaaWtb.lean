/-
  The walk of the laws' own function that turns a bit. Conditions: the lengths that are typed.
-/
import Derived.Test.YthmhjkflgokmgaaWrem
import Derived.Test.YthmhjkflgokmgaaTurn
namespace Go.Proofs.Ythmhjkflgokmgaa
open Go.RowKit
set_option linter.unusedVariables false

theorem tb_eq (s : ByteArray) (i : Nat) (h : i < s.size) (c : UInt8) (hc : flipU s[i] = c) : s.extract 0 i ++ ByteArray.mk #[c] ++ s.extract (i + 1) s.size = ByteArray.mk (turnU s.data.toList i).toArray := by
  rw [Lib.extract_eq, Lib.extract_eq, show (#[c] : Array UInt8) = [c].toArray from rfl, ByteArray.mk_append_mk, ByteArray.mk_append_mk]
  unfold turnU
  rw [poly_last s i h, hc, List.drop_zero, Nat.sub_zero, List.take_of_length_le (l := s.data.toList.drop (i + 1)) (by simp)]

set_option maxHeartbeats 800000 in
theorem tb_any (s : ByteArray) (i : Nat) (w : World) (h : i < s.size) (hs : s.size ≤ 2000) :
    Calls Try.prog 22 #[.string s, .int .i64 i] w fun e w' => e = .returned (.string ⟨(turnU s.data.toList i).toArray⟩) ∧ ∃ m, w' = w.drewN m := by
  have q1 : IntKind.i64.wrap ((i : Int) + 1) = (i : Int) + 1 := IntWalk.i64_in _ (by omega)
  have q2 : (0 : Int) ≤ (i : Int) + 1 := by omega
  have q3 : ((i : Int) + 1).toNat = i + 1 := by omega
  have q4 : (i : Int) + 1 ≤ (s.size : Int) := by omega
  have q5 : i + 1 ≤ s.size := by omega
  have q6 : i ≤ s.size := by omega
  have q7 : (i : Int) ≤ (s.size : Int) := by omega
  have hb := beq49 s[i]
  cases hc : (s[i] == 49)
  · rw [hc] at hb
    have hb' := hb.symm
    have hf : flipU s[i] = 49 := by unfold flipU; rw [if_neg (by simpa using hc)]
    have he := tb_eq s i h 49 hf
    have HE := Lib.hid he
    clear hb hc he hf
    go_enter Try.func22, Try.ntmps22
    go_wp2
    go_quiet (fail)
    go_wp2
    go_ret
    exact ⟨ret_str HE.out, nq, rfl⟩
  · rw [hc] at hb
    have hb' := hb.symm
    have hf : flipU s[i] = 48 := by unfold flipU; rw [if_pos (by simpa using hc)]
    have he := tb_eq s i h 48 hf
    have HE := Lib.hid he
    clear hb hc he hf
    go_enter Try.func22, Try.ntmps22
    go_wp2
    go_quiet (fail)
    go_wp2
    go_ret
    exact ⟨ret_str HE.out, nq, rfl⟩
end Go.Proofs.Ythmhjkflgokmgaa
