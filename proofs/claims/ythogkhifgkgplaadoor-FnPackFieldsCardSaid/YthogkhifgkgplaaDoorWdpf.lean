/-
  The walk of the draw of PackFields. Conditions: the list is one that can be.
-/
import Derived.Test.YthogkhifgkgplaaDoorWsog
namespace Go.Proofs.YthogkhifgkgplaaDoor
open Go.RowKit
set_option linter.unusedVariables false

/-- What a draw of fields leaves. -/
def DpfPost (w : World) (e : Ending) (w' : World) : Prop :=
  ∃ (v : Value) (Q : List (Fd × Value)) (B : Nat), e = .returned v ∧ FOwn w' B v Q ∧ Q.length ≤ 6 ∧ (∀ q ∈ Q, q.1.b.length ≤ 40) ∧ w.heap.size < B ∧ B ≤ w'.heap.size ∧ Below w.heap.size w w'

set_option maxHeartbeats 1600000 in
theorem dpf_any (w : World) (a : Option Addr) (len cap : Nat) (zs : List Int) (h : IsRow .u8 w a len cap zs) :
    Calls Tryd.prog 14 #[.slice a len cap] w (DpfPost w) := by
  have H := Lib.hid (nr_any w a len cap zs h)
  clear h
  go_enter Tryd.func14, Tryd.ntmps14
  go_wp2_with fail
  refine H.out.mono ?_
  rintro e w0 ⟨rfl, hr0, hb0, hsz⟩
  have HR0 := Lib.hid hr0
  have HB0 := Lib.hid hb0
  have HSZ := Lib.hid hsz
  clear hr0 hb0 hsz H
  go_wp2_with fail
  refine (sof_any HR0.out (by omega)).mono ?_
  rintro e w1 ⟨v, Q, p1, rfl, hv, hQ, hQb, hr1, hp1, hb1⟩
  have HV1 := Lib.hid hv
  have HB1 := Lib.hid (HB0.out.trans hb1.b)
  have HZ1 := Lib.hid hb1.k.z
  have HQB := Lib.hid hQb
  obtain ⟨A, c, hvf⟩ := hv.form
  subst hvf
  clear hr1 hv hb1 HR0 HB0 hQb
  go_wp2
  go_ret
  exact ⟨_, Q, w0.heap.size, rfl, HV1.out, hQ, HQB.out, by have := HSZ.out; omega, HZ1.out, HB1.out⟩
end Go.Proofs.YthogkhifgkgplaaDoor
