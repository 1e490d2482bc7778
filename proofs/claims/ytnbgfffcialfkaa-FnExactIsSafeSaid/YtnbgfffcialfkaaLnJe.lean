/-
  laws.FnExactIsSafe over every plan, from one fact: what the model's IsSafe answers (SisSaid). Still to be shown of it.
-/
import Derived.Test.YtnbgfffcialfkaaLnGa
import Derived.Test.YtnbgfffcialfkaaLnWop
import Derived.Conc.Holds
import Derived.Conc.LeavingOf
import Derived.SizedLaws
import Derived.ProofKit
import Derived.OpenShut
import Derived.ShutString
import Derived.ChangeOld
import Derived.Below
import Derived.Carry
set_option linter.unusedSimpArgs false
set_option linter.unusedVariables false
namespace Go.Proofs.Ytnbgfffcialfkaa.fnExactIsSafe
open Go.ChangeShapes Go.WideShapes Go.ChangeAt Go.RowKit Go.Conc
open Go.ChangeMaps (open_string shut_string)
open Go.Joins
set_option linter.unusedVariables false

theorem own : ownKnob Try.prog.godebug = none := by kernel_rfl
theorem laidOut : laidOutB Try.prog = true := by kernel_rfl
/-- What the model's IsSafe answers: no for what is no plan, else whether all that a search finds is taken rightly. -/
def SisSaid : Prop := ∀ n a k m : Int, ∃ B : Bool, (∀ w, Calls Try.prog 10 #[.agg #[.int .i64 n, .int .i64 a, .int .i64 k, .int .i64 m]] w fun e w' => e = .returned (.bool B) ∧ Below w.heap.size w w') ∧
  (vpB ⟨n, a, k, m⟩ = false → B = false) ∧ (vpB ⟨n, a, k, m⟩ = true → ∀ l0, GoodL (Inv ⟨n, a, k, m⟩) l0 → (∀ l, l ∈ l0 ↔ Reach ⟨n, a, k, m⟩ l) → l0.all (takR ⟨n, a, k, m⟩) = B)
theorem impl_said (n a k m : Int) (B : Bool) (h1 : vpB ⟨n, a, k, m⟩ = false → B = false) (h2 : vpB ⟨n, a, k, m⟩ = true → ∀ l0, GoodL (Inv ⟨n, a, k, m⟩) l0 → (∀ l, l ∈ l0 ↔ Reach ⟨n, a, k, m⟩ l) → l0.all (takR ⟨n, a, k, m⟩) = B) (Post : Value → World → Prop) (O0 : OwnP) (w0 : World) (hb : BaseO 0 none O0 w0) :
    CallsX Try.prog true PhR PhD (PhF Try.prog (.agg noughts) Post) 12 #[.agg #[.int .i64 n, .int .i64 a, .int .i64 k, .int .i64 m]] .front O0 w0 fun s v O' w' => (s = .front ∨ s = .back) ∧ v = .bool B ∧ KeepO 0 none O0 w0 O' w' := by
  cases hp : vpB ⟨n, a, k, m⟩ with
  | false =>
    rw [h1 hp]
    exact (callsX_of_callsI (isafe_no Post n a k m hp O0 w0 hb)).mono fun s v O w h => ⟨.inl h.1, h.2⟩
  | true =>
    obtain ⟨K, rfl⟩ : ∃ K : Nat, k = (K : Int) := ⟨k.toNat, by simp [vpB] at hp; omega⟩
    obtain ⟨l0, hf, hg, _, hr⟩ := found hp
    rw [← h2 hp l0 hg hr]
    exact (isafe_x Post n a m K hp l0 hf hg O0 w0 hb).mono fun s v O w h => ⟨.inr h.1, h.2⟩
set_option maxRecDepth 100000 in
theorem lifted (sis : SisSaid) (os : Os) (started : os.Started) (H : Type) (enc : TypeId × Value → H) :
    ReturnsInLeavingWide {} Try.checked os 3 .any (Rows.fnExactIsSafeSpec.pre6 enc Try.prog Try.f3 Rows.fnExactIsSafeRow.domain false) (Rows.fnExactIsSafeSpec.post enc Try.prog Try.f3 false true false false) := by
  refine returnsInLeavingWide_of_change_sized (C := Try.checked) own started Try.func3
    (ChangeSpec.witness6 (enc := enc) (C := Try.checked) false ⟨#[], #[.agg #[.int .i64 0, .int .i64 0, .int .i64 0, .int .i64 0]], []⟩ 8 (by kernel_rfl) (by kernel_rfl) (by kernel_rfl) (by kernel_rfl)) ?_
  intro W base args ds gs before hval0 hW hcnd _ _
  have hval : ∀ (j : Nat) t v, Try.f3.params[j]? = some t → args[j]? = some v → Value.okWide Try.prog W .any base t v := hval0
  have hW' := hW
  obtain ⟨p, q, hA0, hV, rfl, hfz, hnd⟩ := hW
  have hA : DataW.TrodAll enc Try.prog W 0 (fun _ => true) true Try.f3.params.toList args.toList ds p := hA0
  rw [Try.params3] at hA hval
  obtain ⟨v0, vs0, d0, ds0, p0, q0, hargs, rfl, rfl, h0, r0⟩ := trodAll_cons hA
  obtain ⟨rfl, rfl, rfl⟩ := trodAll_nil r0
  obtain rfl : args = #[v0] := by cases args; simp_all
  have k0 := h0
  have lt0 : ∀ x ∈ p0, x.block < W.heap.size := by obtain ⟨m, hm⟩ := k0; exact DataW.trod_lt m _ _ _ hm
  obtain ⟨rfl, rfl⟩ := trodVars_none hV
  obtain ⟨v0_0, v0_1, v0_2, v0_3, y0_0, y0_1, y0_2, y0_3, n0, rfl, rfl, _, e0_0, e0_1, e0_2, e0_3⟩ := open_agg4 Try.underlying23 (by kernel_rfl) (by kernel_rfl) (hval 0 23 v0 rfl rfl) h0
  obtain ⟨a0_0, q, r, w0_0⟩ := DataW.trod_int Try.underlying3 e0_0
  obtain rfl : v0_0 = .int .i64 a0_0 := by simpa using q
  clear q r
  obtain ⟨a0_1, q, r, w0_1⟩ := DataW.trod_int Try.underlying3 e0_1
  obtain rfl : v0_1 = .int .i64 a0_1 := by simpa using q
  clear q r
  obtain ⟨a0_2, q, r, w0_2⟩ := DataW.trod_int Try.underlying3 e0_2
  obtain rfl : v0_2 = .int .i64 a0_2 := by simpa using q
  clear q r
  obtain ⟨a0_3, q, r, w0_3⟩ := DataW.trod_int Try.underlying3 e0_3
  obtain rfl : v0_3 = .int .i64 a0_3 := by simpa using q
  clear q r
  clear hA0 hval0
  obtain ⟨B, hs, hn, hy⟩ := sis a0_0 a0_1 a0_2 a0_3
  obtain ⟨M, last, o, w', t', g1, g2, g3, g4⟩ := issafe_runs a0_0 a0_1 a0_2 a0_3 B hs W (impl_said a0_0 a0_1 a0_2 a0_3 B hn hy _)
  refine ⟨M, last, o, w', t', g1, g2, g3, g4.mono fun v hv => ?_⟩
  obtain ⟨rfl, bel⟩ := hv
  exact ⟨_, _, _, [], _, [], hW', trodAll_mk1 (shut_bool Try.underlying4 _), (trodAll_cons_mk (Below.trod laidOut (by kernel_rfl) (of_decide_eq_true (by kernel_rfl)) k0 bel lt0) trodAll_mk0), rfl, bel.frame _, fun h => by cases h⟩

theorem over (sis : SisSaid) : Rows.fnExactIsSafeRow.holds Try.pinned (OpenSpec.ofChange Rows.fnExactIsSafeSpec) :=
  OpenClaim.holds_of_wide_leaving 3 Try.f3 rfl rfl rfl rfl rfl rfl rfl ⟨rfl, rfl, rfl, rfl, rfl⟩ rfl rfl rfl rfl rfl (by kernel_rfl) Try.func3 (by kernel_rfl)
    (of_decide_eq_true (by kernel_rfl)) (by unfold Func.isWrapper; first | (rw [if_pos (by decide +kernel)]; kernel_rfl) | (rw [if_neg (by decide +kernel)]; exact ⟨rfl, rfl⟩))
    (fun os started H enc _ => lifted sis os started H enc)
end Go.Proofs.Ytnbgfffcialfkaa.fnExactIsSafe
