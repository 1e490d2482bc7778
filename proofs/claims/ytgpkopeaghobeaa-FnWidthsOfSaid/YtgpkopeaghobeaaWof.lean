/-
  The walk that draws one of several texts. Conditions: where the reader lies, and the bounds that are typed.
-/
import Derived.Test.YtgpkopeaghobeaaWpick
namespace Go.Proofs.Ytgpkopeaghobeaa
open Go.RowKit
set_option linter.unusedVariables false

set_option maxHeartbeats 400000 in
theorem of_any {B : Nat} {w : World} {g p : Nat} (h : Rd B w g p) (hp : p ≤ 1000000) (b len cap : Nat) (xs : List ByteArray) (hx : xs.length = len) (h1 : 1 ≤ len) (h2 : len ≤ 1000) (hbg : b ≠ g)
    (hc : ∀ j, j < len → w.cell? ⟨b, j, none⟩ = some (.string (xs.getD j ByteArray.empty))) :
    Calls Try.prog 18 #[.pointer (some ⟨g, 0, none⟩), .slice (some ⟨b, 0, none⟩) len cap] w
      fun e w' => ∃ (x : ByteArray) (m : Nat), e = .returned (.string x) ∧ x ∈ xs ∧ w' = picked w g p m := by
  have H := Lib.hid (pick_any h hp (len : Int) (by omega) (by omega))
  have HC := Lib.hid hc
  clear hc
  go_enter Try.func18, Try.ntmps18
  go_wp2_with fail
  refine H.out.mono ?_
  rintro e w' ⟨r, m, rfl, hr, rfl⟩
  have hrl : r < len := by omega
  have hcr := (picked_cell w g p m b r hbg).trans (HC.out r hrl)
  have hmem : xs.getD r ByteArray.empty ∈ xs := by
    rw [List.getD_eq_getElem?_getD, List.getElem?_eq_getElem (by omega)]; exact List.getElem_mem _
  generalize xs.getD r ByteArray.empty = x at *
  generalize hW : picked w g p m = W at *
  have HW := Lib.hid hW
  clear hW
  go_wp2
  go_ret
  exact ⟨x, m, rfl, hmem, HW.out.symm⟩
end Go.Proofs.Ytgpkopeaghobeaa
