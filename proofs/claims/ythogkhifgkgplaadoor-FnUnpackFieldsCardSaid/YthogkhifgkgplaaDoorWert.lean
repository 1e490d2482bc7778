/-
  What the card gives the walks of the variable that holds the handle of the type of errors. No condition.
-/
import Derived.Test.YthogkhifgkgplaaDoorWas2
import Derived.LaidHandle
set_option linter.unusedSimpArgs false
namespace Go.Proofs.YthogkhifgkgplaaDoor
open Go.RowKit
set_option linter.unusedVariables false

theorem As.et : Tryd.prog.globalNamed "errors.errorType" = some 0 := by kernel_rfl
theorem As.rt : (Tryd.prog.cutTypes.find? (·.1 == "internal/reflectlite.rtype")).map (·.2) = some 89 := by kernel_rfl
theorem As.oneRow : ((List.range 138).filter fun t => Tryd.prog.rowNamed t [101, 114, 114, 111, 114]) = [39] := by kernel_rfl
theorem As.size : Tryd.prog.types.size = 138 := by kernel_rfl
theorem errT_of_handles {W : World} (h : handlesMet Tryd.prog [("errors.errorType", Rows.laid_errors_errorType)] W) : ErrT W := by
  obtain ⟨name, u, ty, e1, e2, e3, e4, e5⟩ := h _ (List.mem_singleton.2 rfl)
  have en : name = [101, 114, 114, 111, 114] := (Option.some.inj e1).symm
  subst en
  obtain rfl := Option.some.inj (As.rt.symm.trans e2)
  have hm : ty ∈ (List.range 138).filter fun t => Tryd.prog.rowNamed t [101, 114, 114, 111, 114] := List.mem_filter.2 ⟨List.mem_range.2 (by rw [← As.size]; exact e3), e4⟩
  rw [As.oneRow] at hm
  obtain rfl := List.mem_singleton.1 hm
  have hh : typeHandle Tryd.prog 39 = .pointer (some ⟨2, 39, none⟩) := by kernel_rfl
  rw [hh] at e5
  have hc : W.cell? ⟨0, 0, none⟩ = some (.iface 89 (.agg #[.pointer (some ⟨2, 39, none⟩)])) := by simpa using World.var?_cell As.et e5 0
  exact ⟨hc, World.block_lt_of_cell? W _ hc⟩
theorem laid_parts {W : World} (h : laidMetH Tryd.prog [("errors.errorType", Rows.laid_errors_errorType), ("loop.example/linksandframes/impl.errNoForm", Rows.laid_loop_example_linksandframes_impl_errNoForm)] W) : ErrV W ∧ ErrT W := by
  have h' : laidMet Tryd.prog [("loop.example/linksandframes/impl.errNoForm", Rows.laid_loop_example_linksandframes_impl_errNoForm)] W ∧ handlesMet Tryd.prog [("errors.errorType", Rows.laid_errors_errorType)] W := h
  exact ⟨errV_of_laid h'.1, errT_of_handles h'.2⟩
end Go.Proofs.YthogkhifgkgplaaDoor
