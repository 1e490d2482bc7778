/-
  The walk of the law FnExactGuardBits: it returns true at every text. Condition: what the two tables hold.
-/
import Derived.Test.YtagjmifpelaopaaDoorWgb
namespace Go.Proofs.YtagjmifpelaopaaDoor
open Go.RowKit
set_option linter.unusedVariables false

set_option maxHeartbeats 800000 in
theorem fnExactGuardBits_walk (s : ByteArray) (w : World) (hs : s.size ≤ maxLen) (ht : Tabs w) :
    Calls Tryd.prog 3 #[.string s] w fun e w' => e = .returned (.bool true) ∧ Below w.heap.size w w' := by
  by_cases hg : (1048576 : Int) < (s.size : Int)
  · go_enter Tryd.func3, Tryd.ntmps3
    go_wp2_with fail
    go_ret
    exact ⟨rfl, Below.refl _ _⟩
  · have H1 := Lib.hid (sGB_any s w hs)
    have H2 := Lib.hid (fun W hT => iGB_any s W hs hT)
    have HT := Lib.hid ht
    clear ht
    go_enter Tryd.func3, Tryd.ntmps3
    go_wp2_with fail
    refine H1.out.mono ?_
    rintro e w1 ⟨rfl, hb1⟩
    have H3 := Lib.hid (H2.out w1 (HT.out.below hb1 HT.out.sz))
    clear H1 H2
    generalize gdR s.data.toList = R at *
    go_wp2_with (go_at_call 8; refine H3.out.mono ?_; rintro e w2 ⟨rfl, hb2⟩)
    go_ret
    exact ⟨rfl, hb1.trans (hb2.mono hb1.size)⟩
end Go.Proofs.YtagjmifpelaopaaDoor
