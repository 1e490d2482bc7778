/-
  The walk of the law FnFoldSign: it returns true at every list of bytes. No condition but that the list is one that can be.
-/
import Derived.Test.YtgoafhmmaepcjaaWdn
import Derived.Test.YtgoafhmmaepcjaaWfo
namespace Go.Proofs.Ytgoafhmmaepcjaa
open Go.RowKit
set_option linter.unusedVariables false

set_option maxHeartbeats 1600000 in
theorem fnFoldSign_walk (a : Option Addr) (len cap : Nat) (zs : List Int) (w : World) (h : IsRow .u8 w a len cap zs) :
    Calls Try.prog 5 #[.slice a len cap] w fun e w' => e = .returned (.bool true) ∧ Below w.heap.size w w' := by
  by_cases hg : (1048576 : Int) < (len : Int)
  · go_enter Try.func5, Try.ntmps5
    go_wp2_with fail
    go_ret
    exact ⟨rfl, Below.refl _ _⟩
  · have H := Lib.hid (dfs_any w a len cap zs h)
    clear h
    go_enter Try.func5, Try.ntmps5
    go_wp2_with fail
    refine H.out.mono ?_
    rintro e w1 ⟨x, rfl, hb1⟩
    have HB1 := Lib.hid hb1
    clear hb1 H
    by_cases hx : 0 ≤ fsR x
    · obtain ⟨u1, u2⟩ := un_fs hx
      have HU := Lib.hid (iUN_any (fsR x) w1)
      rw [u1, u2] at HU
      have HI := Lib.hid (iFS_any x w1)
      have HP := Lib.hid (sFS_any x w1)
      generalize fsR x = y at *
      clear u1 u2
      go_wp2_with fail
      refine HI.out.mono ?_
      rintro e w2 ⟨rfl, rfl⟩
      go_wp2_with fail
      refine HP.out.mono ?_
      rintro e w3 ⟨rfl, rfl⟩
      go_wp2_with fail
      refine HU.out.mono ?_
      rintro e w4 ⟨rfl, rfl⟩
      go_wp2
      go_ret
      exact ⟨rfl, HB1.out⟩
    · have HI := Lib.hid (iFS_any x w1)
      have HP := Lib.hid (sFS_any x w1)
      have hn : fsR x < 0 := by omega
      generalize fsR x = y at *
      clear hx
      go_wp2_with fail
      refine HI.out.mono ?_
      rintro e w2 ⟨rfl, rfl⟩
      go_wp2_with fail
      refine HP.out.mono ?_
      rintro e w3 ⟨rfl, rfl⟩
      go_wp2_with fail
      refine HP.out.mono ?_
      rintro e w4 ⟨rfl, rfl⟩
      go_wp2
      go_ret
      exact ⟨rfl, HB1.out⟩
end Go.Proofs.Ytgoafhmmaepcjaa
