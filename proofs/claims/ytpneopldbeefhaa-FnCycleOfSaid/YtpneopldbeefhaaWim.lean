/-
  The walks of the program's RestOf, SealBits and IsSealed. Conditions: the lengths that are typed.
-/
import Derived.Test.YtpneopldbeefhaaWlv
import Derived.Test.YtpneopldbeefhaaWsp
namespace Go.Proofs.Ytpneopldbeefhaa
open Go.RowKit
set_option linter.unusedVariables false

/-- Below B nothing has turned, where what has is a row from B on and new blocks. -/
theorem below_grow8 {B g : Nat} {w w1 w2 : World} (h : Below B w w1) (hg : w1.grownBy w2 (some g)) (hB : B ≤ g) (hB2 : B ≤ w1.heap.size) : Below B w w2 :=
  h.grown hg hB2 (fun k hk => by cases hk; exact hB)

end Go.Proofs.Ytpneopldbeefhaa
