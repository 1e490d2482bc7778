/-
  The walks of what draws the arguments of the laws on pieces. Condition: the code is a list that can be.
-/
import Derived.Test.YtpkajiflbejajaaWspc
namespace Go.Proofs.Ytpkajiflbejajaa
open Go.RowKit
set_option linter.unusedVariables false

set_option maxHeartbeats 400000 in
theorem dJP_any (w : World) (a : Option Addr) (len cap : Nat) (zs : List Int) (h : IsRow .u8 w a len cap zs) :
    Calls Try.prog 13 #[.slice a len cap] w fun e w' => ∃ u l B, e = .returned u ∧ OwnP w' B u l ∧ l.length ≤ 21 ∧ Below w.heap.size w w' := by
  have H := Lib.hid (nr_any w a len cap zs h)
  clear h
  go_enter Try.func13, Try.ntmps13
  go_wp2_with (first | (go_at_call 29; refine H.out.mono ?_; rintro e w1 ⟨rfl, hr, hb, hz⟩; have HR := Lib.hid hr; clear hr hz) | (go_at_call 28; refine (spc_any HR.out (by omega)).mono ?_; rintro e w2 ⟨u, l, p', rfl, ho, hl, hp2⟩; have HO := Lib.hid ho; clear ho))
  go_ret
  exact ⟨u, l, _, rfl, HO.out.own, hl, hb.trans HO.out.bel⟩
end Go.Proofs.Ytpkajiflbejajaa
