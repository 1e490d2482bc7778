/-
  The walk of the least of two numbers, and what a call leaves that gives a row. Conditions: where the rows lie.
-/
import Derived.Test.YtnghpipkdodgiaaWai
import Derived.Test.YtnghpipkdodgiaaWlw
import Derived.Test.YtnghpipkdodgiaaWbk
namespace Go.Proofs.Ytnghpipkdodgiaa
open Go.RowKit
set_option linter.unusedVariables false

theorem run_maxD (a b m : Int) (h : m = max a b) (ts : Array TypeId) (t : TypeId) (W : World) : (Builtin.max_ ts t #[.int .i64 a, .int .i64 b]).run Try.prog W = .ok (.int .i64 m) W := by
  rw [run_max_int2]; subst h; congr 2; omega
theorem run_minD (a b m : Int) (h : m = min a b) (ts : Array TypeId) (t : TypeId) (W : World) : (Builtin.min_ ts t #[.int .i64 a, .int .i64 b]).run Try.prog W = .ok (.int .i64 m) W := by
  rw [run_min_int2]; subst h; congr 2; omega

theorem new1_cell (w : World) (y : Value) (t : TypeId) : (w.alloc (.cells #[y] t)).cell? ⟨w.heap.size, 0, none⟩ = some y := cell_of_row _ _ 0 _ _ (0, 0) (heap_alloc_new w _)
/-- What a call leaves: a row of numbers of the call's own. -/
def RowPost (R : List Int) (w : World) (e : Ending) (w' : World) : Prop := ∃ u, e = .returned u ∧ OwnL w' w.heap.size u R ∧ Below w.heap.size w w'
theorem rowPost_nil {R : List Int} {w w' : World} (h : R = []) (hb : Below w.heap.size w w') : RowPost R w (.returned (.slice none 0 0)) w' := by
  subst h; exact ⟨_, rfl, OwnL.nil _ _, hb⟩
theorem rowPost_mk {R S : List Int} {w w' : World} {v : Value} (h : R = S) (ho : OwnL w' w.heap.size v S) (hb : Below w.heap.size w w') : RowPost R w (.returned v) w' := by
  subst h; exact ⟨_, rfl, ho, hb⟩
/-- What a call leaves: a row of numbers of the call's own, and a number. -/
def RowPostN (R : List Int) (n : Int) (w : World) (e : Ending) (w' : World) : Prop := ∃ u, e = .returned (.tuple #[u, .int .i64 n]) ∧ OwnL w' w.heap.size u R ∧ Below w.heap.size w w'
theorem rowPostN_mk {R S : List Int} {n m : Int} {w w' : World} {v : Value} (h : R = S) (hn : n = m) (ho : OwnL w' w.heap.size v S) (hb : Below w.heap.size w w') : RowPostN R n w (.returned (.tuple #[v, .int .i64 m])) w' := by
  subst h; subst hn; exact ⟨_, rfl, ho, hb⟩
end Go.Proofs.Ytnghpipkdodgiaa
