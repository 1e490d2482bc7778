/-
  The walk of the law FnExactIsSealed: it returns true at every two texts. No condition but that the texts' lengths are such that texts can have.
-/
import Derived.Test.YthmhjkflgokmgaaWse
namespace Go.Proofs.Ythmhjkflgokmgaa
open Go.RowKit
set_option linter.unusedVariables false

set_option maxHeartbeats 800000 in
theorem fnExactIsSealed_walk (p s : ByteArray) (w : World) (hp : p.size ≤ maxLen) (hs : s.size ≤ maxLen) :
    Calls Try.prog 6 #[.string p, .string s] w fun e w' => e = .returned (.bool true) ∧ Below w.heap.size w w' := by
  by_cases hg : (1048576 : Int) < (p.size : Int)
  · go_enter Try.func6, Try.ntmps6
    go_wp2_with fail
    go_ret
    exact ⟨rfl, Below.refl _ _⟩
  · by_cases hg2 : (1048576 : Int) < (s.size : Int)
    · go_enter Try.func6, Try.ntmps6
      go_wp2_with fail
      go_ret
      exact ⟨rfl, Below.refl _ _⟩
    · have h1 := fun W => sIS_any p s W (by omega) (by omega)
      have h2 := fun W => iIS_any p s W (by omega) (by omega)
      generalize sealedB p.data.toList s.data.toList = v at h1 h2
      have H1 := Lib.hid h1
      have H2 := Lib.hid h2
      clear h1 h2
      cases v
      all_goals
        go_enter Try.func6, Try.ntmps6
        go_wp2_with fail
        refine (H1.out _).mono ?_
        rintro e w1 ⟨rfl, m, rfl⟩
        go_wp2_with (go_at_call 18; refine (H2.out _).mono ?_; rintro e w' ⟨rfl, hb⟩)
        go_ret
        exact ⟨rfl, (below_drewN (Below.refl w.heap.size w) m).trans hb⟩
end Go.Proofs.Ythmhjkflgokmgaa
