/-
  The walk of the model's UnpackFields. Conditions: where the list lies, and the length that is typed.
-/
import Derived.Test.YthogkhifgkgplaaDoorWsup
import Derived.Test.YthogkhifgkgplaaDoorVbyt
set_option linter.unusedSimpArgs false
namespace Go.Proofs.YthogkhifgkgplaaDoor
open Go.RowKit
set_option linter.unusedVariables false

/-- What UnpackFields leaves: the fields, in memory of the call's own, and whether the bytes are fields. -/
def UfPost (xs : List Int) (w : World) (e : Ending) (w' : World) : Prop :=
  ∃ (u : Value) (Q : List (Fd × Value)), e = .returned (.tuple #[u, .bool (unR xs).isSome]) ∧ FOwn w' w.heap.size u Q ∧ Q.map (·.1) = (unR xs).getD [] ∧ Below w.heap.size w w'
theorem unR_yes {xs : List Int} {L : List Fd} (hn : xs.length ≤ 120) (h : unA xs = some L) : unR xs = if L.length ≤ 5 then some L else none := by
  unfold unR
  rw [if_pos hn, h]
theorem unR_no {xs : List Int} (h : unA xs = none) : unR xs = none := by
  unfold unR
  rw [h]
  split <;> rfl
theorem unR_bad {xs : List Int} (h : bytesB 120 xs = false) : unR xs = none := by
  unfold unR
  split
  · rename_i hn
    cases hu : unA xs with
    | none => rfl
    | some L =>
      have := unA_bytes hu
      have : bytesB 120 xs = true := by
        unfold bytesB
        simp only [Bool.and_eq_true, decide_eq_true_eq]
        exact ⟨hn, this⟩
      rw [this] at h
      cases h
  · rfl

set_option maxHeartbeats 1600000 in
theorem sUF_any (w : World) (v : Value) (xs : List Int) (h : Rdc w v xs) (hn : xs.length ≤ 1048576) :
    Calls Tryd.prog 6 #[v] w (UfPost xs w) := by
  have hv : Calls Tryd.prog 20 #[v, .int .i64 120] w fun e w' => e = .returned (.bool (bytesB 120 xs)) ∧ w = w' := svy_any w v xs 120 h.rds hn (by omega)
  cases hb : bytesB 120 xs
  · rw [hb] at hv
    have HV := Lib.hid hv
    have HN := Lib.hid (unR_bad hb)
    obtain ⟨A, c, rfl, _⟩ := h
    clear hv hb
    go_enter Tryd.func6, Tryd.ntmps6
    go_wp2_with fail
    refine HV.out.mono ?_
    rintro e w1 ⟨rfl, rfl⟩
    go_wp2
    go_ret2
    exact ⟨_, [], by rw [HN.out]; rfl, FOwn.none _ _, by rw [HN.out]; rfl, Below.refl _ _⟩
  · rw [hb] at hv
    have HV := Lib.hid hv
    have hb' : xs.length ≤ 120 ∧ xs.all by8 = true := by
      unfold bytesB at hb
      simp only [Bool.and_eq_true, decide_eq_true_eq] at hb
      exact hb
    have HS := Lib.hid (sup_any w v xs h hb'.1 hb'.2)
    have HL := Lib.hid hb'.1
    obtain ⟨A, c, rfl, _⟩ := h
    clear hv hb hb'
    go_enter Tryd.func6, Tryd.ntmps6
    go_wp2_with fail
    refine HV.out.mono ?_
    rintro e w1 ⟨rfl, rfl⟩
    go_wp2_with fail
    refine HS.out.mono ?_
    rintro e w2 ⟨u, Q, b, rfl, hu, hq, hb2, hcase⟩
    obtain ⟨Au, cu, huf⟩ := hu.form
    subst huf
    have HU := Lib.hid hu
    have HB2 := Lib.hid hb2
    have HC := Lib.hid hcase
    have HQL : Hid ((Q.map (·.1)).length = Q.length) := Lib.hid (List.length_map _)
    clear hu hb2 hcase
    cases b
    · go_wp2
      go_ret2
      have HN : unR xs = none := by
        rcases HC.out with ⟨h1, h2⟩ | ⟨h1, _⟩
        · rw [unR_yes HL.out h1, if_neg]
          rw [HQL.out]
          exact of_decide_eq_false h2.symm
        · exact unR_no h1
      exact ⟨_, [], by rw [HN]; rfl, FOwn.none _ _, by rw [HN]; rfl, HB2.out⟩
    · go_wp2
      go_ret2
      have HN : unR xs = some (Q.map (·.1)) := by
        rcases HC.out with ⟨h1, h2⟩ | ⟨_, _, h3⟩
        · rw [unR_yes HL.out h1, if_pos]
          rw [HQL.out]
          exact of_decide_eq_true h2.symm
        · cases h3
      exact ⟨_, Q, by rw [HN]; rfl, HU.out, by rw [HN]; rfl, HB2.out⟩
end Go.Proofs.YthogkhifgkgplaaDoor
