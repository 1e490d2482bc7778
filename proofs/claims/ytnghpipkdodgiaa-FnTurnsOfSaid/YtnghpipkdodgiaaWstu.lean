/-
  The walk of the model's TurnsOf. Conditions: where the lists lie, and the lengths that are typed.
-/
import Derived.Test.YtnghpipkdodgiaaWsv
namespace Go.Proofs.Ytnghpipkdodgiaa
open Go.RowKit
set_option linter.unusedVariables false

set_option maxHeartbeats 800000 in
theorem sTu_any (q : Int) (w : World) (v : Value) (L : List (List Int)) (hv : RdsL w v L) (hL : L.length ≤ 1048576) (hn : ∀ k, (L.getD k []).length ≤ 1048576) :
    Calls Try.prog 6 #[.int .i64 q, v] w (RowPost (turR q L) w) := by
  have H1 : Calls Try.prog 17 #[.int .i64 q, .int .i64 1, .int .i64 30] w fun e w' => e = .returned (.bool (quaB q)) ∧ w = w' := inr_any w q 1 30
  have H2 := sVf_any w v L hv hL hn
  have HSV := Lib.hid (fun h1 h2 => srv_any q w v L hv h1 h2)
  have HQB : Hid (quaB q = true → 1 ≤ q ∧ q ≤ 30) := Lib.hid (fun h => by simpa [quaB] using h)
  have HB1 : Hid (quaB q = false → turR q L = []) := Lib.hid (fun h => turR_bad (by simp [turB, h]))
  have HB2 : Hid (okF L = false → turR q L = []) := Lib.hid (fun h => turR_bad (by simp [turB, h]))
  obtain ⟨A, c, hvf⟩ := hv.form
  subst hvf
  clear hv hn
  cases hq : quaB q
  · rw [hq] at H1
    have HR := Lib.hid H1
    have HE := Lib.hid (HB1.out hq)
    clear H1 H2 hq HSV
    go_enter Try.func6, Try.ntmps6
    go_wp2_with (go_at_call 17; refine HR.out.mono ?_; rintro e w' ⟨rfl, rfl⟩)
    go_ret
    exact rowPost_nil HE.out (Below.refl _ _)
  · rw [hq] at H1
    have HR := Lib.hid H1
    cases hf : okF L
    · rw [hf] at H2
      have HF := Lib.hid H2
      have HE := Lib.hid (HB2.out hf)
      clear H1 H2 hq hf HSV
      go_enter Try.func6, Try.ntmps6
      go_wp2_with (first | (go_at_call 17; refine HR.out.mono ?_; rintro e w' ⟨rfl, rfl⟩) | (go_at_call 18; refine HF.out.mono ?_; rintro e w' ⟨rfl, rfl⟩))
      go_ret
      exact rowPost_nil HE.out (Below.refl _ _)
    · rw [hf] at H2
      have HF := Lib.hid H2
      have HS := Lib.hid (HSV.out (HQB.out hq) hf)
      clear H1 H2 hq hf HSV
      go_enter Try.func6, Try.ntmps6
      go_wp2_with (first | (go_at_call 17; refine HR.out.mono ?_; rintro e w' ⟨rfl, rfl⟩) | (go_at_call 18; refine HF.out.mono ?_; rintro e w' ⟨rfl, rfl⟩) | (go_at_call 19; refine HS.out.mono ?_; rintro e w' ⟨u, rfl, ho, hb⟩))
      have HO := Lib.hid ho
      have HBB := Lib.hid hb
      clear ho hb
      go_wp2
      go_ret
      exact ⟨u, rfl, HO.out, HBB.out⟩
end Go.Proofs.Ytnghpipkdodgiaa
