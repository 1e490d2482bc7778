/-
  What the card gives the walks of the program's one error variable. No condition.
-/
import Derived.Test.YthogkhifgkgplaaDoorRows
import Derived.Test.YthogkhifgkgplaaDoorIrow
import Derived.Stop.LaidErr
import Derived.Stop.Joined
import Derived.LaidMore
namespace Go.Proofs.YthogkhifgkgplaaDoor
open Go.RowKit
set_option linter.unusedVariables false

theorem gE : Tryd.prog.globalNamed "loop.example/linksandframes/impl.errNoForm" = some 1 := by kernel_rfl
theorem tE : (Tryd.prog.globals[1]?).map (·.type) = some 39 := by kernel_rfl
/-- The error variable holds a pointer's value that is not nil. -/
def ErrV (W : World) : Prop := ∃ a : Addr, W.cell? ⟨1, 0, none⟩ = some (.iface 104 (.pointer (some a))) ∧ 1 < W.heap.size
theorem ErrV.lt {W : World} (h : ErrV W) : 1 < W.heap.size := h.elim fun _ h => h.2
theorem ErrV.below {W W' : World} (h : ErrV W) (hb : Below W.heap.size W W') : ErrV W' := by
  obtain ⟨a, h1, h2⟩ := h
  exact ⟨a, (hb.cell (p := ⟨1, 0, none⟩) h2).trans h1, Nat.lt_of_lt_of_le h2 hb.size⟩
theorem ErrV.belowB {W W' : World} {B : Nat} (h : ErrV W) (hB : 1 < B) (hb : Below B W W') : ErrV W' := by
  obtain ⟨a, h1, h2⟩ := h
  exact ⟨a, (hb.cell (p := ⟨1, 0, none⟩) hB).trans h1, Nat.lt_of_lt_of_le h2 hb.size⟩
theorem ErrV.drewN {W : World} (h : ErrV W) (n : Nat) : ErrV (W.drewN n) := h
/-- The error variable holds this pointer's value. -/
def ErrA (W : World) (a : Addr) : Prop := W.cell? ⟨1, 0, none⟩ = some (.iface 104 (.pointer (some a))) ∧ 1 < W.heap.size
theorem ErrA.belowB {W W' : World} {B : Nat} {a : Addr} (h : ErrA W a) (hB : 1 < B) (hb : Below B W W') : ErrA W' a :=
  ⟨(hb.cell (p := ⟨1, 0, none⟩) hB).trans h.1, Nat.lt_of_lt_of_le h.2 hb.size⟩
theorem ErrA.below {W W' : World} {a : Addr} (h : ErrA W a) (hb : Below W.heap.size W W') : ErrA W' a := h.belowB h.2 hb
theorem cells_es : Tryd.prog.cellsOf 126 = 1 := by kernel_rfl
theorem cells_str : Tryd.prog.cellsOf 9 = 1 := by kernel_rfl
theorem star_es : "*" ++ "errors.errorString" = "*errors.errorString" := by decide
theorem row_es (u : TypeId) (h : Tryd.prog.typeName? 3 u = some "*errors.errorString") : u = 104 :=
  typeName_ptr_named (nm := "errors.errorString") (by rw [star_es]; kernel_rfl) (by kernel_rfl) (by decide) u (by rw [star_es]; exact h)
theorem errV_of_laid {W : World} (h : laidMet Tryd.prog [("loop.example/linksandframes/impl.errNoForm", Rows.laid_loop_example_linksandframes_impl_errNoForm)] W) : ErrV W := by
  obtain ⟨a, s, hv, hc, _, _⟩ := laid_sentinel h gE tE Tryd.underlying39 row_es Tryd.underlying104 Tryd.underlying126 rfl rfl Tryd.underlying9 cells_es cells_str
  have hc0 : W.cell? ⟨1, 0, none⟩ = some (.iface 104 (.pointer (some a))) := by simpa using World.var?_cell gE hv 0
  exact ⟨a, hc0, World.block_lt_of_cell? W _ hc0⟩
end Go.Proofs.YthogkhifgkgplaaDoor
