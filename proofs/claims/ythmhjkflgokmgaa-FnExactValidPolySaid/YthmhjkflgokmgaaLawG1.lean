/-
  The walk of the law FnExactValidPoly: it returns true at every text. No condition but that the text's length is one that a text can have.
-/
import Derived.Test.YthmhjkflgokmgaaWpoly
namespace Go.Proofs.Ythmhjkflgokmgaa
open Go.RowKit
set_option linter.unusedVariables false

set_option maxHeartbeats 400000 in
theorem fnExactValidPoly_walk (s : ByteArray) (w : World) (hs : s.size ≤ maxLen) :
    Calls Try.prog 3 #[.string s] w fun e w' => e = .returned (.bool true) ∧ Below w.heap.size w w' := by
  by_cases hg : (1048576 : Int) < (s.size : Int)
  · go_enter Try.func3, Try.ntmps3
    go_wp2_with fail
    go_ret
    exact ⟨rfl, Below.refl _ _⟩
  · generalize hv : polyB s.data.toList = v
    have h1 := fun W => sVP_any s W hs
    have h2 := fun W => iVP_any s W hs
    rw [hv] at h1 h2
    clear hv
    have H1 := Lib.hid h1
    have H2 := Lib.hid h2
    clear h1 h2
    cases v <;>
    · go_enter Try.func3, Try.ntmps3
      go_wp2_with (first | (go_at_call 11; refine (H1.out _).mono ?_; rintro e w' ⟨rfl, rfl⟩) | (go_at_call 12; refine (H2.out _).mono ?_; rintro e w' ⟨rfl, hb⟩))
      go_ret
      exact ⟨rfl, by assumption⟩
end Go.Proofs.Ythmhjkflgokmgaa
