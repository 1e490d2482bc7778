/-
  The walks of what draws pieces with a length, and three numbers. Condition: the code is a list that can be.
-/
import Derived.Test.YteililppbnbfhaaWdp
namespace Go.Proofs.Yteililppbnbfhaa
open Go.RowKit
set_option linter.unusedVariables false

set_option maxHeartbeats 800000 in
theorem dHO_any (w : World) (a : Option Addr) (len cap : Nat) (zs : List Int) (h : IsRow .u8 w a len cap zs) :
    Calls Try.prog 20 #[.slice a len cap] w fun e w' => ∃ u l B x, e = .returned (.tuple #[u, .int .i64 x]) ∧ OwnP w' B u l ∧ l.length ≤ 21 ∧ Below w.heap.size w w' ∧ 0 ≤ x ∧ x ≤ 61 := by
  have H := Lib.hid (nr_any w a len cap zs h)
  clear h
  go_enter Try.func20, Try.ntmps20
  go_wp2_with fail
  refine H.out.mono ?_
  rintro e w1 ⟨rfl, hr, hb, hz⟩
  have HR := Lib.hid hr
  have HB := Lib.hid hb
  clear hr hz hb
  go_wp2_with fail
  refine (spc_any HR.out (by omega)).mono ?_
  rintro e w2 ⟨u, l, p', rfl, ho, hl, hp2⟩
  have HO := Lib.hid ho
  clear ho
  go_wp2_with fail
  refine (HO.out.one (by omega) 7 [20, 12, 30, 60, 1, 0, 61] rfl (by omega) (by omega)).mono ?_
  rintro e w3 ⟨x, rfl, hx, hs3⟩
  obtain ⟨A, c, rfl⟩ := own_form3 hs3.own
  have HS3 := Lib.hid hs3
  have hx2 : 0 ≤ x ∧ x ≤ 61 := by
    simp only [List.mem_cons, List.not_mem_nil, or_false] at hx
    omega
  clear hs3 hx
  go_wp2_with fail
  go_ret2
  exact ⟨_, l, _, x, rfl, HS3.out.own, hl, HB.out.trans HS3.out.bel, hx2.1, hx2.2⟩

end Go.Proofs.Yteililppbnbfhaa
