/-
  The walks of what draws the arguments of the laws on pieces. Condition: the code is a list that can be.
-/
import Derived.Test.YteililppbnbfhaaWspc
namespace Go.Proofs.Yteililppbnbfhaa
open Go.RowKit
set_option linter.unusedVariables false

set_option maxHeartbeats 400000 in
theorem dIW_any (w : World) (a : Option Addr) (len cap : Nat) (zs : List Int) (h : IsRow .u8 w a len cap zs) :
    Calls Try.prog 23 #[.slice a len cap] w fun e w' => ∃ u l B, e = .returned u ∧ OwnP w' B u l ∧ l.length ≤ 21 ∧ Below w.heap.size w w' := by
  have H := Lib.hid (nr_any w a len cap zs h)
  clear h
  go_enter Try.func23, Try.ntmps23
  go_wp2_with (first | (go_at_call 37; refine H.out.mono ?_; rintro e w1 ⟨rfl, hr, hb, hz⟩; have HR := Lib.hid hr; clear hr hz) | (go_at_call 38; refine (spc_any HR.out (by omega)).mono ?_; rintro e w2 ⟨u, l, p', rfl, ho, hl, hp2⟩; have HO := Lib.hid ho; clear ho))
  go_ret
  exact ⟨u, l, _, rfl, HO.out.own, hl, hb.trans HO.out.bel⟩
set_option maxHeartbeats 400000 in
theorem dWA_any (w : World) (a : Option Addr) (len cap : Nat) (zs : List Int) (h : IsRow .u8 w a len cap zs) :
    Calls Try.prog 24 #[.slice a len cap] w fun e w' => ∃ u l B, e = .returned u ∧ OwnP w' B u l ∧ l.length ≤ 21 ∧ Below w.heap.size w w' := by
  have H := Lib.hid (nr_any w a len cap zs h)
  clear h
  go_enter Try.func24, Try.ntmps24
  go_wp2_with (first | (go_at_call 37; refine H.out.mono ?_; rintro e w1 ⟨rfl, hr, hb, hz⟩; have HR := Lib.hid hr; clear hr hz) | (go_at_call 38; refine (spc_any HR.out (by omega)).mono ?_; rintro e w2 ⟨u, l, p', rfl, ho, hl, hp2⟩; have HO := Lib.hid ho; clear ho))
  go_ret
  exact ⟨u, l, _, rfl, HO.out.own, hl, hb.trans HO.out.bel⟩
end Go.Proofs.Yteililppbnbfhaa
