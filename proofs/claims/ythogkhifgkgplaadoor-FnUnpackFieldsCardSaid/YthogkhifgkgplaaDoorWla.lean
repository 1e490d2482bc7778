/-
  The walks of LastOf. Conditions: where the lists lie, and the lengths that are typed.
-/
import Derived.Test.YthogkhifgkgplaaDoorWpf
namespace Go.Proofs.YthogkhifgkgplaaDoor
open Go.RowKit
set_option linter.unusedVariables false

set_option maxHeartbeats 800000 in
theorem iOB_any (w : World) (u : Value) (m : List Int) (h : Rds w u m) (hp : Proper u) (hn : m.length ≤ 1000) :
    Calls Tryd.prog 38 #[u] w (RowPost m w) := by
  have HR := Lib.hid h
  have HP := Lib.hid hp
  obtain ⟨A, c, rfl, _⟩ := h
  have HO := Lib.hid (OwnL.nil w w.heap.size)
  clear hp
  go_enter Tryd.func38, Tryd.ntmps38
  go_wp2_with (at_builtin; refine append_rowV rfl (.const (.slice none 0 0)) (.tmp 3) rfl w.heap.size _ _ [] m rfl rfl HO.out HR.out HP.out (by simp; omega) (Nat.le_refl _) ?_; intro v9 w9 hown9 hg9 hb9 hz9)
  have HW := Lib.hid hown9
  have HB := Lib.hid hb9
  obtain ⟨n9, A9, c9, hf9⟩ : ∃ n A d, v9 = .slice A n d := ⟨_, hown9.form⟩
  subst hf9
  clear hown9 hg9 hb9
  go_wp2
  go_ret
  exact ⟨_, rfl, HW.out, HB.out⟩

theorem laR_no {L : List Fd} {t : Int} (h : vfsB L = false) : laR L t = none := by unfold laR; rw [h]; rfl
theorem laR_yes {L : List Fd} {t : Int} (h : vfsB L = true) : laR L t = laF L t L.length := by unfold laR; rw [if_pos h]

end Go.Proofs.YthogkhifgkgplaaDoor
