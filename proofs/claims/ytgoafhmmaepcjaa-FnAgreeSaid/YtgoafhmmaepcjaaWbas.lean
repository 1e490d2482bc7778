/-
  What all walks of the sixth chapter share: the two functions that tell whether a number lies between two, and what a call leaves. No condition.
-/
import Derived.Test.YtgoafhmmaepcjaaWai
namespace Go.Proofs.Ytgoafhmmaepcjaa
open Go.RowKit
set_option linter.unusedVariables false

/-- Whether a number is from the least up to the most one. -/
def btw (x lo hi : Int) : Bool := decide (lo ≤ x) && decide (x ≤ hi)
theorem btw_yes {x lo hi : Int} (h : btw x lo hi = true) : lo ≤ x ∧ x ≤ hi := by simpa [btw] using h
theorem btw_no {x lo hi : Int} (h : btw x lo hi = false) : ¬ (lo ≤ x ∧ x ≤ hi) := by
  intro hc
  have : btw x lo hi = true := by simp [btw, hc.1, hc.2]
  rw [this] at h; cases h
theorem btw_mk {x lo hi : Int} (h : lo ≤ x ∧ x ≤ hi) : btw x lo hi = true := by simp [btw, h.1, h.2]
theorem btw_out {x lo hi : Int} (h : ¬ (lo ≤ x ∧ x ≤ hi)) : btw x lo hi = false := by
  cases hb : btw x lo hi
  · rfl
  · exact absurd (btw_yes hb) h
set_option maxHeartbeats 400000 in
theorem win_any (x lo hi : Int) (w : World) :
    Calls Try.prog 29 #[.int .i64 x, .int .i64 lo, .int .i64 hi] w fun e w' => e = .returned (.bool (btw x lo hi)) ∧ w = w' := by
  by_cases h1 : lo ≤ x
  · have h2 : decide (lo ≤ x) = true := by simpa using h1
    go_enter Try.func29, Try.ntmps29
    go_wp2
    go_ret
    exact ⟨ret_bool (by simp [btw, h1]), rfl⟩
  · have h2 : decide (lo ≤ x) = false := by simpa using h1
    go_enter Try.func29, Try.ntmps29
    go_wp2
    go_ret
    exact ⟨ret_bool (by simp [btw, h2]), rfl⟩
set_option maxHeartbeats 400000 in
theorem inq_any (x lo hi : Int) (w : World) :
    Calls Try.prog 28 #[.int .i64 x, .int .i64 lo, .int .i64 hi] w fun e w' => e = .returned (.bool (btw x lo hi)) ∧ w = w' := by
  by_cases h1 : lo ≤ x
  · have h2 : decide (lo ≤ x) = true := by simpa using h1
    go_enter Try.func28, Try.ntmps28
    go_wp2
    go_ret
    exact ⟨ret_bool (by simp [btw, h1]), rfl⟩
  · have h2 : decide (lo ≤ x) = false := by simpa using h1
    go_enter Try.func28, Try.ntmps28
    go_wp2
    go_ret
    exact ⟨ret_bool (by simp [btw, h2]), rfl⟩

/-- What a call leaves: a row of numbers of the call's own. -/
def RowPost (R : List Int) (w : World) (e : Ending) (w' : World) : Prop := ∃ u, e = .returned u ∧ OwnL w' w.heap.size u R ∧ Below w.heap.size w w'
theorem rowPost_nil {R : List Int} {w w' : World} (h : R = []) (hb : Below w.heap.size w w') : RowPost R w (.returned (.slice none 0 0)) w' := by
  subst h; exact ⟨_, rfl, OwnL.nil _ _, hb⟩
theorem rowPost_mk {R S : List Int} {w w' : World} {v : Value} (h : R = S) (ho : OwnL w' w.heap.size v S) (hb : Below w.heap.size w w') : RowPost R w (.returned v) w' := by
  subst h; exact ⟨_, rfl, ho, hb⟩
end Go.Proofs.Ytgoafhmmaepcjaa
