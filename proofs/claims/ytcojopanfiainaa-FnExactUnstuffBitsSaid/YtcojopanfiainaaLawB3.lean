/-
  The walk of the law FnExactUnstuffBits: it returns true at every text. No condition but that the text's length is one that a text can have.
-/
import Derived.Test.YtcojopanfiainaaWunsI
namespace Go.Proofs.Ytcojopanfiainaa
open Go.RowKit
set_option linter.unusedVariables false

set_option maxHeartbeats 400000 in
theorem fnExactUnstuffBits_walk (s : ByteArray) (w : World) (hs : s.size ≤ maxLen) :
    Calls Try.prog 5 #[.string s] w fun e w' => e = .returned (.bool true) ∧ Below w.heap.size w w' := by
  by_cases hg : (1048576 : Int) < (s.size : Int)
  · go_enter Try.func5, Try.ntmps5
    go_wp2_with fail
    go_ret
    exact ⟨rfl, Below.refl _ _⟩
  · have h1 := fun W => sUB_any s W hs
    have h2 := fun W => iUB_any s W hs
    generalize unsR s.data.toList = v at h1 h2
    unfold pairU at h1 h2
    generalize v.getD [] = t at h1 h2
    generalize v.isSome = b at h1 h2
    have H1 := Lib.hid h1
    have H2 := Lib.hid h2
    clear h1 h2
    cases b
    all_goals
      go_enter Try.func5, Try.ntmps5
      go_wp2_with (first | (go_at_call 13; refine (H1.out _).mono ?_; rintro e w' ⟨rfl, rfl⟩) | (go_at_call 14; refine (H2.out _).mono ?_; rintro e w' ⟨rfl, hb⟩))
      go_ret
      exact ⟨rfl, by assumption⟩
end Go.Proofs.Ytcojopanfiainaa
