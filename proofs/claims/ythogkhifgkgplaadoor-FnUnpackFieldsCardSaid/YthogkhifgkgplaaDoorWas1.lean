/-
  The kit's entry that sets a variable by reflectlite, at this program's type of error. Conditions: where the two variables lie.
-/
import Derived.Test.YthogkhifgkgplaaDoorWas0
set_option linter.unusedSimpArgs false
namespace Go.Proofs.YthogkhifgkgplaaDoor
open Go.RowKit Go.Extern.Stop Go.Stop Go.Extern
set_option linter.unusedVariables false

theorem As.setT (ta : Addr) (g : Nat) (n : Int) (old : Value) (W : World) (hb : Blk W g 43 #[.int .i64 n]) (ht : W.cell? ta = some old) (hf : W.frozen? ta = false) :
    (ReflectliteValue.set #[.agg #[.pointer (some ⟨2, 43, none⟩), .pointer (some ta), .int .u64 409], .agg #[.pointer (some ⟨2, 43, none⟩), .pointer (some ⟨g, 0, none⟩), .int .u64 153]]).run Tryd.prog W
      = .ok (.tuple #[]) (W.setCell ta (.int .i64 n)) := by
  have hl := run_loadVar_row W g 43 43 #[.int .i64 n] (0, 0) _ hb Tryd.underlying43 rfl (by kernel_rfl)
  change (bind (ReflectliteValue.parts (.agg #[.pointer (some ⟨2, 43, none⟩), .pointer (some ta), .int .u64 409])) (fun _ => bind (ReflectliteValue.parts (.agg #[.pointer (some ⟨2, 43, none⟩), .pointer (some ⟨g, 0, none⟩), .int .u64 153])) _) : Sem Value).run Tryd.prog W = _
  simp only [Sem.run_bind, As.partsTa, As.partsT, Result.andThen]
  simp [ReflectliteValue.flagAddr, hl, Result.andThen, As.directT, storeVar, Value.cells, storeCells, Addr.add]
  rw [run_store Tryd.prog W ta _ _ (by rfl)]
  simp [ht, hf]
end Go.Proofs.YthogkhifgkgplaaDoor
