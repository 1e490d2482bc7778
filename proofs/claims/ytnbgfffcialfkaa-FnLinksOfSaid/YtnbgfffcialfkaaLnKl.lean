/-
  The model's LinksOf, from what its search answers. No condition but that.
-/
import Derived.Test.YtnbgfffcialfkaaLn27
import Derived.Test.YtnbgfffcialfkaaLn28
set_option linter.unusedSimpArgs false
set_option linter.unusedVariables false
namespace Go.Proofs.Ytnbgfffcialfkaa
open Go.RowKit
set_option linter.unusedVariables false

set_option maxHeartbeats 1600000 in
theorem sLO_no (n a k m : Int) (hp : vpB ⟨n, a, k, m⟩ = false) (w : World) : Calls Try.prog 13 #[.agg #[.int .i64 n, .int .i64 a, .int .i64 k, .int .i64 m]] w fun e w' => e = .returned (.int .i64 (-1)) ∧ Below w.heap.size w w' := by
  have H1 := Lib.hid (fun W => svp_any n a k m W)
  rw [hp] at H1
  clear hp
  go_enter Try.func13, Try.ntmps13
  go_wp2_with fail
  refine (H1.out _).mono ?_
  rintro e w1 ⟨rfl, hb1⟩
  have HB := Lib.hid (((Below.refl _ _).alloc (Nat.le_refl _) _).trans (hb1.mono (by simp)))
  clear hb1
  go_wp2
  go_ret
  exact ⟨rfl, HB.out⟩
set_option maxHeartbeats 1600000 in
theorem sLO_yes (n a k m : Int) (B : Bool) (L : Nat) (hp : vpB ⟨n, a, k, m⟩ = true) (hr : ∀ w, Calls Try.prog 26 #[.agg #[.int .i64 n, .int .i64 a, .int .i64 k, .int .i64 m]] w fun e w' => ReaP B L w e w') (w : World) :
    Calls Try.prog 13 #[.agg #[.int .i64 n, .int .i64 a, .int .i64 k, .int .i64 m]] w fun e w' => e = .returned (.int .i64 (if B then (L : Int) else -1)) ∧ Below w.heap.size w w' := by
  have H1 := Lib.hid (fun W => svp_any n a k m W)
  have H2 := Lib.hid hr
  rw [hp] at H1
  clear hp hr
  go_enter Try.func13, Try.ntmps13
  go_wp2_with fail
  refine (H1.out _).mono ?_
  rintro e w1 ⟨rfl, hb1⟩
  have hz : w.heap.size + 1 ≤ w1.heap.size := by have := hb1.size; simpa using this
  obtain ⟨c0, c1, c2, c3⟩ := ((Blk.new w 25 #[.int .i64 n, .int .i64 a, .int .i64 k, .int .i64 m]).below hb1 (by simp)).c4
  have HB := Lib.hid (((Below.refl _ _).alloc (Nat.le_refl _) _).trans (hb1.mono (by simp)))
  clear hb1
  go_wp2_with fail
  refine (H2.out _).mono ?_
  rintro e w2 ⟨g, ln, c, rfl, hln, hb2⟩
  have HB2 := Lib.hid (HB.out.trans (hb2.mono (by omega)))
  clear hb2
  cases B
  · clear hln
    go_wp2
    go_ret
    exact ⟨rfl, HB2.out⟩
  · obtain rfl := hln rfl
    clear hln
    go_wp2
    go_ret
    exact ⟨rfl, HB2.out⟩
/-- What LinksOf answers, the model's and the program's. -/
def loR (p : Pl) (l0 : List Lk) : Int := if l0.all (takR p) then (l0.length : Int) else -1
theorem sLO_any {n a k m : Int} (hp : vpB ⟨n, a, k, m⟩ = true) (l0 : List Lk) (hg : GoodL (Inv ⟨n, a, k, m⟩) l0) (hr : ∀ l, l ∈ l0 ↔ Reach ⟨n, a, k, m⟩ l) (w : World) :
    Calls Try.prog 13 #[.agg #[.int .i64 n, .int .i64 a, .int .i64 k, .int .i64 m]] w fun e w' => e = .returned (.int .i64 (loR ⟨n, a, k, m⟩ l0)) ∧ Below w.heap.size w w' :=
  sLO_yes n a k m _ _ hp (fun w => sre_any n a k m hp l0 hg hr w) w
end Go.Proofs.Ytnbgfffcialfkaa
