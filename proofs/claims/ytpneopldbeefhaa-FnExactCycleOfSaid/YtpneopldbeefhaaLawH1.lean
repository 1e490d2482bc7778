/-
  The walk of the law FnExactCycleOf: it returns true at every text. No condition but that the text's length is one that a text can have.
-/
import Derived.Test.YtpneopldbeefhaaWcyc
namespace Go.Proofs.Ytpneopldbeefhaa
open Go.RowKit
set_option linter.unusedVariables false

set_option maxHeartbeats 400000 in
theorem fnExactCycleOf_walk (s : ByteArray) (w : World) (hs : s.size ≤ maxLen) :
    Calls Try.prog 3 #[.string s] w fun e w' => e = .returned (.bool true) ∧ Below w.heap.size w w' := by
  by_cases hg : (1048576 : Int) < (s.size : Int)
  · go_enter Try.func3, Try.ntmps3
    go_wp2_with fail
    go_ret
    exact ⟨rfl, Below.refl _ _⟩
  · obtain ⟨x, hx⟩ := cycR_some s.data.toList
    have H1 := Lib.hid (fun W => sCY_any s x W (by omega) hx)
    have H2 := Lib.hid (fun W => iCY_any s x W (by omega) hx)
    clear hx
    go_enter Try.func3, Try.ntmps3
    go_wp2_with fail
    refine (H1.out _).mono ?_
    rintro e w1 ⟨rfl, m, rfl⟩
    go_wp2_with (go_at_call 8; refine (H2.out _).mono ?_; rintro e w' ⟨rfl, hb⟩)
    go_ret
    exact ⟨rfl, (below_drewN (Below.refl w.heap.size w) m).trans hb⟩
end Go.Proofs.Ytpneopldbeefhaa
