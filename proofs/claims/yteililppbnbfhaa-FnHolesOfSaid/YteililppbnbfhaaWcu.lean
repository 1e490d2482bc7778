/-
  The walks of the program's function that cuts lengths. No condition.
-/
import Derived.Test.YteililppbnbfhaaWvpc
import Derived.Test.YteililppbnbfhaaWes
namespace Go.Proofs.Yteililppbnbfhaa
open Go.RowKit
set_option linter.unusedVariables false

/-- The pieces from a number on. -/
def cutF (L M S : Int) : Nat → Int → List Pc
  | 0, _ => []
  | f + 1, at_ => if M < L - at_ then ⟨at_, S, true⟩ :: cutF L M S f (at_ + S) else [⟨at_, L - at_, false⟩]
def cutL (L M U : Int) : List Pc := cutF L M (M - M % U) 61 0
def cutA (L M U : Int) : Bool := (decide (1 ≤ L) && decide (L ≤ 60)) && ((decide (1 ≤ U) && decide (U ≤ 8)) && (decide (U ≤ M) && decide (M ≤ 60)))
def cutB (L M U : Int) : Bool := cutA L M U && decide ((cutL L M U).length ≤ 20)
def cutR (L M U : Int) : List Pc := if cutB L M U = true then cutL L M U else []
theorem cutF_more (L M S : Int) (f : Nat) (a : Int) (h : M < L - a) : cutF L M S (f + 1) a = ⟨a, S, true⟩ :: cutF L M S f (a + S) := by
  show (if M < L - a then _ else _) = _
  rw [if_pos h]
theorem cutF_last (L M S : Int) (f : Nat) (a : Int) (h : ¬ M < L - a) : cutF L M S (f + 1) a = [⟨a, L - a, false⟩] := by
  show (if M < L - a then _ else _) = _
  rw [if_neg h]
theorem new3 (w : World) (x y : Int) (z : Bool) (t : TypeId) : ∀ j u, (pcs [⟨x, y, z⟩])[j]? = some u → (w.alloc (.cells #[.int .i64 x, .int .i64 y, .bool z] t)).cell? ((⟨w.heap.size, 0, none⟩ : Addr).add j) = some u := by
  intro j u hj
  have hB := Blk.new w t #[.int .i64 x, .int .i64 y, .bool z]
  have e : (⟨w.heap.size, 0, none⟩ : Addr).add j = ⟨w.heap.size, j, none⟩ := by unfold Addr.add; split <;> simp_all
  rw [e, hB.cell j, ← hj]
  match j with
  | 0 => rfl
  | 1 => rfl
  | 2 => rfl
  | j + 3 => simp [pcs]
theorem one3 (x y : Int) (z : Bool) : ∀ u ∈ pcs [⟨x, y, z⟩], u.oneCell' = true := by
  intro u hu
  simp [pcs] at hu
  rcases hu with rfl | rfl | rfl <;> rfl
theorem ownP_snoc {w1 : World} {B : Nat} {v : Value} {l : List Pc} {p : Pc} (h : w1.ownsRow B 38 3 v (l.length + 1) (pcs l ++ pcs [p])) : OwnP w1 B v (l ++ [p]) := by
  unfold OwnP
  rw [pcs_app]
  simpa using h
theorem push3_below {B : Nat} {w W w1 : World} {e n : Nat} {v : Value} {xs : List Value} {o : Obj} (hown : W.ownsRow B e 3 v n xs) (hg : (W.alloc o).grownBy w1 v.ownBlock) (hb : Below B w W) (hB : B ≤ W.heap.size) : Below B w w1 ∧ B ≤ w1.heap.size := by
  refine ⟨(hb.alloc hB o).grown hg (by simp; omega) (fun j hj => (hown.lt j hj).1), ?_⟩
  have := hg.size
  simp at this; omega

/-- What CutLength leaves. -/
def CutPost (b : Bool) (l : List Pc) (w : World) (e : Ending) (w' : World) : Prop :=
  ∃ u, e = .returned (.tuple #[u, .bool b]) ∧ OwnP w' w.heap.size u l ∧ Below w.heap.size w w'

theorem step_bd {M U : Int} (u1 : 1 ≤ U) (m1 : U ≤ M) : 1 ≤ M - M % U ∧ M - M % U ≤ M ∧ M / U * U = M - M % U ∧ 0 ≤ M % U ∧ M % U < U ∧ 0 ≤ M / U ∧ M / U ≤ M := by
  have hr0 := Int.emod_nonneg M (b := U) (by omega)
  have hr1 := Int.emod_lt_of_pos M (b := U) (by omega)
  have hd := Int.mul_ediv_add_emod M U
  have h2 := Int.ediv_nonneg (a := M) (b := U) (by omega) (by omega)
  have h5 := Int.ediv_le_self U (a := M) (by omega)
  have hp : 1 ≤ M / U := by
    rcases Int.lt_or_le (M / U) 1 with h | h
    · exfalso
      have h3 : M / U = 0 := by omega
      rw [h3, Int.mul_zero] at hd
      omega
    · exact h
  have h4 : U * 1 ≤ U * (M / U) := Int.mul_le_mul_of_nonneg_left hp (by omega)
  rw [Int.mul_comm (M / U) U]
  omega

end Go.Proofs.Yteililppbnbfhaa
