/-
  The walks of the functions that look for the least number of a way. Conditions: where the lists lie, and the lengths that are typed.
-/
import Derived.Test.YtgoafhmmaepcjaaIrow
namespace Go.Proofs.Ytgoafhmmaepcjaa
open Go.RowKit
set_option linter.unusedVariables false

/-- A number that a part of a way may be. -/
def isHop (x : Int) : Bool := decide (1 ≤ x) && decide (x ≤ 60)
theorem hop_yes {x : Int} (h : isHop x = true) : 1 ≤ x ∧ x ≤ 60 := by simpa [isHop] using h
def lenB (n : Nat) : Bool := decide ((1 : Int) ≤ (n : Int)) && decide ((n : Int) ≤ 8)
def wayB (xs : List Int) : Bool := xs.all isHop && lenB xs.length
theorem take_snoc (xs : List Int) (k : Nat) (h : k < xs.length) : xs.take (k + 1) = xs.take k ++ [xs.getD k 0] := by
  rw [List.take_add_one, List.getElem?_eq_getElem h]
  simp [List.getD_eq_getElem?_getD, List.getElem?_eq_getElem h]
theorem allP_snoc (p : Int → Bool) (xs : List Int) (k : Nat) (h : k < xs.length) (ha : (xs.take k).all p = true) (hb : p (xs.getD k 0) = true) : (xs.take (k + 1)).all p = true := by
  rw [take_snoc xs k h, List.all_append, ha]; simpa using hb
theorem allP_bad (p : Int → Bool) (xs : List Int) (k : Nat) (h : k < xs.length) (hb : p (xs.getD k 0) = false) : xs.all p = false := by
  rw [List.all_eq_false]
  exact ⟨xs.getD k 0, by rw [List.getD_eq_getElem?_getD, List.getElem?_eq_getElem h]; exact List.getElem_mem h, by rw [hb]; simp⟩
theorem allP_end (p : Int → Bool) (xs : List Int) (k : Nat) (h : ¬ k < xs.length) (ha : (xs.take k).all p = true) : xs.all p = true := by
  rwa [List.take_of_length_le (by omega)] at ha
theorem allP_get {p : Int → Bool} {xs : List Int} (h : xs.all p = true) (k : Nat) (hk : k < xs.length) : p (xs.getD k 0) = true := by
  rw [List.getD_eq_getElem?_getD, List.getElem?_eq_getElem hk]
  exact List.all_eq_true.1 h _ (List.getElem_mem hk)

/-- The least of the first numbers, and after how many tries. -/
def lw (xs : List Int) : Nat → Int × Nat
  | 0 => (xs.getD 0 0, 1)
  | k + 1 => if xs.getD k 0 < (lw xs k).1 then (xs.getD k 0, (lw xs k).2 + 1) else lw xs k
theorem lw_tries (xs : List Int) : ∀ k, (lw xs k).2 ≤ k + 1
  | 0 => Nat.le_refl _
  | k + 1 => by
    have := lw_tries xs k
    unfold lw; split
    · show (lw xs k).2 + 1 ≤ k + 1 + 1; omega
    · omega
def leastR (xs : List Int) : Int := if wayB xs = true then (lw xs xs.length).1 else 0
def triesR (xs : List Int) : Int := if wayB xs = true then ((lw xs xs.length).2 : Int) else 0

set_option maxHeartbeats 400000 in
theorem inr_any (w : World) (x lo hi : Int) :
    Calls Try.prog 28 #[.int .i64 x, .int .i64 lo, .int .i64 hi] w fun e w' => e = .returned (.bool (decide (lo ≤ x) && decide (x ≤ hi))) ∧ w = w' := by
  by_cases h1 : lo ≤ x
  · have h2 : decide (lo ≤ x) = true := by simpa using h1
    go_enter Try.func28, Try.ntmps28
    go_wp2
    go_ret
    exact ⟨ret_bool (by simp [h1]), rfl⟩
  · have h2 : decide (lo ≤ x) = false := by simpa using h1
    go_enter Try.func28, Try.ntmps28
    go_wp2
    go_ret
    exact ⟨ret_bool (by simp), rfl⟩
set_option maxHeartbeats 400000 in
theorem wit_any (w : World) (x lo hi : Int) :
    Calls Try.prog 29 #[.int .i64 x, .int .i64 lo, .int .i64 hi] w fun e w' => e = .returned (.bool (decide (lo ≤ x) && decide (x ≤ hi))) ∧ w = w' := by
  by_cases h1 : lo ≤ x
  · have h2 : decide (lo ≤ x) = true := by simpa using h1
    go_enter Try.func29, Try.ntmps29
    go_wp2
    go_ret
    exact ⟨ret_bool (by simp [h1]), rfl⟩
  · have h2 : decide (lo ≤ x) = false := by simpa using h1
    go_enter Try.func29, Try.ntmps29
    go_wp2
    go_ret
    exact ⟨ret_bool (by simp), rfl⟩

theorem wayB_len {xs : List Int} (h : wayB xs = true) : 1 ≤ xs.length ∧ xs.length ≤ 8 := by
  simp only [wayB, lenB, Bool.and_eq_true, decide_eq_true_eq] at h; omega

end Go.Proofs.Ytgoafhmmaepcjaa
