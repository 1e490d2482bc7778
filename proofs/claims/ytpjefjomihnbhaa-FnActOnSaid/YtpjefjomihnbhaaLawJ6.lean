/-
  The walk of the law FnActOn: it returns true at every code. No condition but that the code is a list that can be.
-/
import Derived.Test.YtpjefjomihnbhaaWda
namespace Go.Proofs.Ytpjefjomihnbhaa
open Go.RowKit
set_option linter.unusedVariables false

theorem fnActOn_walk (a : Option Addr) (len cap : Nat) (zs : List Int) (w : World) (h : IsRow .u8 w a len cap zs) :
    Calls Try.prog 3 #[.slice a len cap] w fun e w' => e = .returned (.bool true) ∧ Below w.heap.size w w' :=
  fnActOn_walk0 a len cap w (da_any w a len cap zs h)
end Go.Proofs.Ytpjefjomihnbhaa
