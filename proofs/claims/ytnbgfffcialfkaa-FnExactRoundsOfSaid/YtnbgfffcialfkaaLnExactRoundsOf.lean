/-
  laws.FnExactRoundsOf returns true for every argument, and its arguments read behind the call as they read before. No condition.
-/
import Derived.Test.YtnbgfffcialfkaaLnJn
import Derived.Test.YtnbgfffcialfkaaLn28
import Derived.Test.YtnbgfffcialfkaaLnGa
import Derived.Conc.Holds
import Derived.Conc.LeavingOf
import Derived.SizedLaws
import Derived.Test.YtnbgfffcialfkaaLnWop
import Derived.ProofKit
import Derived.OpenShut
import Derived.ShutString
import Derived.ChangeOld
import Derived.Below
import Derived.Carry
set_option linter.unusedSimpArgs false
set_option linter.unusedVariables false
namespace Go.Proofs.Ytnbgfffcialfkaa.fnExactRoundsOf
open Go.ChangeShapes Go.WideShapes Go.ChangeAt Go.RowKit Go.Conc
open Go.ChangeMaps (open_string shut_string)
open Go.Joins
set_option linter.unusedVariables false

theorem own : ownKnob Try.prog.godebug = none := by kernel_rfl
theorem laidOut : laidOutB Try.prog = true := by kernel_rfl

theorem said (n a k m lost : Int) : ∃ r : Int, (∀ w, Calls Try.prog 15 #[.agg #[.int .i64 n, .int .i64 a, .int .i64 k, .int .i64 m], .int .i64 lost] w fun e w' => e = .returned (.int .i64 r) ∧ Below w.heap.size w w') ∧
    ∀ (Post : Value → World → Prop) (O0 : OwnP) (w0 : World), BaseO 0 none O0 w0 → CallsX Try.prog true PhR PhD (PhF Try.prog (.agg noughts) Post) 16 #[.agg #[.int .i64 n, .int .i64 a, .int .i64 k, .int .i64 m], .int .i64 lost] .front O0 w0 fun s v O' w' => (s = .front ∨ s = .back) ∧ v = .int .i64 r ∧ KeepO 0 none O0 w0 O' w' := by
  cases hp : vpB ⟨n, a, k, m⟩ with
  | false =>
    refine ⟨-1, sRO_no n a k m lost false (sIS_no n a k m hp) (.inl rfl), fun Post O0 w0 hb => ?_⟩
    by_cases hl : 0 ≤ lost ∧ lost ≤ 6
    · exact (callsX_of_callsI (irounds_no Post n a k m lost hp hl O0 w0 hb)).mono fun s v O w h => ⟨.inl h.1, h.2⟩
    · exact (callsX_of_callsI (irounds_far Post n a k m lost hl O0 w0 hb)).mono fun s v O w h => ⟨.inl h.1, h.2⟩
  | true =>
    obtain ⟨K, rfl⟩ : ∃ K : Nat, k = (K : Int) := ⟨k.toNat, by simp [vpB] at hp; omega⟩
    obtain ⟨l0, hf, hg, _, hr⟩ := found hp
    have hIS : ∀ B, l0.all (takR ⟨n, a, K, m⟩) = B → ∀ w, Calls Try.prog 10 #[.agg #[.int .i64 n, .int .i64 a, .int .i64 (K : Int), .int .i64 m]] w fun e w' => e = .returned (.bool B) ∧ Below w.heap.size w w' := by
      intro B hB
      refine sIS_yes n a K m B hp fun w => (sre_any n a K m hp l0 hg hr w).mono ?_
      rintro e w' ⟨g, ln, c, h, _, hb⟩
      exact ⟨_, by rw [← hB]; exact h, hb⟩
    by_cases hl : 0 ≤ lost ∧ lost ≤ 6
    · cases hB : l0.all (takR ⟨n, a, K, m⟩) with
      | false => exact ⟨-1, sRO_no n a K m lost false (hIS _ hB) (.inl rfl), fun Post O0 w0 hb => (irounds_unsafe Post n a m lost K hp l0 hf hg hB hl O0 w0 hb).mono fun s v O w h => ⟨.inr h.1, h.2⟩⟩
      | true =>
        have hs : minS ⟨n, a, K, m⟩ + (K : Int) ≤ n := by
          have := safe_iff hp hr
          rw [hB] at this
          exact of_decide_eq_true this.symm
        obtain ⟨r, hrr, _⟩ := rnds_safe hp hs hl
        exact ⟨r, sRO_yes n a K m lost hp (hIS _ hB) hl r hrr, fun Post O0 w0 hb => (irounds_x Post n a m lost K hp l0 hf hg hB hl r hrr O0 w0 hb).mono fun s v O w h => ⟨.inr h.1, h.2⟩⟩
    · exact ⟨-1, sRO_no n a K m lost _ (hIS _ rfl) (.inr (by simp [wi]; omega)), fun Post O0 w0 hb => (callsX_of_callsI (irounds_far Post n a K m lost hl O0 w0 hb)).mono fun s v O w h => ⟨.inl h.1, h.2⟩⟩
theorem fnExactRoundsOf_runs (n a k m lost : Int) (W : World) : RunsW 5 #[.agg #[.int .i64 n, .int .i64 a, .int .i64 k, .int .i64 m], .int .i64 lost] W := by
  obtain ⟨r, hs, hi⟩ := said n a k m lost
  exact roundsof_runs n a k m lost r hs W (hi _)
set_option maxRecDepth 100000 in
theorem lifted (os : Os) (started : os.Started) (H : Type) (enc : TypeId × Value → H) :
    ReturnsInLeavingWide {} Try.checked os 5 .any (Rows.fnExactRoundsOfSpec.pre6 enc Try.prog Try.f5 Rows.fnExactRoundsOfRow.domain false) (Rows.fnExactRoundsOfSpec.post enc Try.prog Try.f5 false true false false) := by
  refine returnsInLeavingWide_of_change_sized (C := Try.checked) own started Try.func5
    (ChangeSpec.witness6 (enc := enc) (C := Try.checked) false ⟨#[], #[.agg #[.int .i64 0, .int .i64 0, .int .i64 0, .int .i64 0], .int .i64 0], []⟩ 8 (by kernel_rfl) (by kernel_rfl) (by kernel_rfl) (by kernel_rfl)) ?_
  intro W base args ds gs before hval0 hW hcnd _ _
  have hval : ∀ (j : Nat) t v, Try.f5.params[j]? = some t → args[j]? = some v → Value.okWide Try.prog W .any base t v := hval0
  have hW' := hW
  obtain ⟨p, q, hA0, hV, rfl, hfz, hnd⟩ := hW
  have hA : DataW.TrodAll enc Try.prog W 0 (fun _ => true) true Try.f5.params.toList args.toList ds p := hA0
  rw [Try.params5] at hA hval
  obtain ⟨v0, vs0, d0, ds0, p0, q0, hargs, rfl, rfl, h0, r0⟩ := trodAll_cons hA
  obtain ⟨v1, vs1, d1, ds1, p1, q1, hargs1, rfl, rfl, h1, r1⟩ := trodAll_cons r0
  obtain ⟨rfl, rfl, rfl⟩ := trodAll_nil r1
  obtain rfl : args = #[v0, v1] := by cases args; simp_all
  have k0 := h0
  have lt0 : ∀ x ∈ p0, x.block < W.heap.size := by obtain ⟨m, hm⟩ := k0; exact DataW.trod_lt m _ _ _ hm
  have k1 := h1
  have lt1 : ∀ x ∈ p1, x.block < W.heap.size := by obtain ⟨m, hm⟩ := k1; exact DataW.trod_lt m _ _ _ hm
  obtain ⟨rfl, rfl⟩ := trodVars_none hV
  obtain ⟨v0_0, v0_1, v0_2, v0_3, y0_0, y0_1, y0_2, y0_3, n0, rfl, rfl, _, e0_0, e0_1, e0_2, e0_3⟩ := open_agg4 Try.underlying23 (by kernel_rfl) (by kernel_rfl) (hval 0 23 v0 rfl rfl) h0
  obtain ⟨a0_0, q, r, w0_0⟩ := DataW.trod_int Try.underlying3 e0_0
  obtain rfl : v0_0 = .int .i64 a0_0 := by simpa using q
  clear q r
  obtain ⟨a0_1, q, r, w0_1⟩ := DataW.trod_int Try.underlying3 e0_1
  obtain rfl : v0_1 = .int .i64 a0_1 := by simpa using q
  clear q r
  obtain ⟨a0_2, q, r, w0_2⟩ := DataW.trod_int Try.underlying3 e0_2
  obtain rfl : v0_2 = .int .i64 a0_2 := by simpa using q
  clear q r
  obtain ⟨a0_3, q, r, w0_3⟩ := DataW.trod_int Try.underlying3 e0_3
  obtain rfl : v0_3 = .int .i64 a0_3 := by simpa using q
  clear q r
  obtain ⟨a1, rfl, rfl, _, w1⟩ := open_int Try.underlying3 (hval 1 3 v1 rfl rfl) h1
  clear hA0 hval0
  obtain ⟨M, last, o, w', t', g1, g2, g3, g4⟩ := fnExactRoundsOf_runs a0_0 a0_1 a0_2 a0_3 a1 W
  refine ⟨M, last, o, w', t', g1, g2, g3, g4.mono fun v hv => ?_⟩
  obtain ⟨rfl, bel⟩ := hv
  exact ⟨_, _, _, [], _, [], hW', trodAll_mk1 (shut_bool Try.underlying4 _), (trodAll_cons_mk (Below.trod laidOut (by kernel_rfl) (of_decide_eq_true (by kernel_rfl)) k0 bel lt0) (trodAll_cons_mk (Below.trod laidOut (by kernel_rfl) (of_decide_eq_true (by kernel_rfl)) k1 bel lt1) trodAll_mk0)), rfl, bel.frame _, fun h => by cases h⟩

theorem over : Rows.fnExactRoundsOfRow.holds Try.pinned (OpenSpec.ofChange Rows.fnExactRoundsOfSpec) :=
  OpenClaim.holds_of_wide_leaving 5 Try.f5 rfl rfl rfl rfl rfl rfl rfl ⟨rfl, rfl, rfl, rfl, rfl⟩ rfl rfl rfl rfl rfl (by kernel_rfl) Try.func5 (by kernel_rfl)
    (of_decide_eq_true (by kernel_rfl)) (by unfold Func.isWrapper; first | (rw [if_pos (by decide +kernel)]; kernel_rfl) | (rw [if_neg (by decide +kernel)]; exact ⟨rfl, rfl⟩))
    (fun os started H enc _ => lifted os started H enc)

theorem proved : Rows.FnExactRoundsOfSaid := over
end Go.Proofs.Ytnbgfffcialfkaa.fnExactRoundsOf
