/-
  Plain facts on fields that are read one behind the other. No condition.
-/
import Derived.Test.YthogkhifgkgplaaDoorWrf
import Derived.Test.YthogkhifgkgplaaDoorWsog
set_option linter.unusedSimpArgs false
namespace Go.Proofs.YthogkhifgkgplaaDoor
open Go.RowKit
set_option linter.unusedVariables false

theorem oneF_nil : oneF [] = none := by unfold oneF; rw [nf_end (by simp)]
theorem oneF_ne {l : List Int} {p : Fd × Nat} (h : oneF l = some p) : l ≠ [] := fun e => by subst e; rw [oneF_nil] at h; cases h
theorem unA_more {xs ys : List Int} {Q : List (Fd × Value)} {f : Fd} {n : Nat} {u : Value} (h : unA xs = (unA ys).map (Q.map (·.1) ++ ·)) (h1 : oneF ys = some (f, n)) : unA xs = (unA (ys.drop n)).map ((Q ++ [(f, u)]).map (·.1) ++ ·) := by
  rw [h, unA_step (oneF_ne h1), h1]
  simp only [Option.map_map]
  cases unA (ys.drop n) with
  | none => rfl
  | some L => simp
theorem unA_last {xs ys : List Int} {Q : List (Fd × Value)} (h : unA xs = (unA ys).map (Q.map (·.1) ++ ·)) (h1 : oneF ys = none) : unA xs = (if ys = [] then some (Q.map (·.1)) else none) := by
  rw [h]
  by_cases hy : ys = []
  · subst hy; rw [unA_nil, if_pos rfl]; simp
  · rw [if_neg hy, unA_step hy, h1]; rfl
theorem FOwn.none (w : World) (B : Nat) : FOwn w B (.slice none 0 0) [] := ⟨⟨rfl, .inl ⟨rfl, rfl⟩⟩, fun p hp => absurd hp List.not_mem_nil⟩
theorem rdc_drop {w : World} {b off c n : Nat} {ys : List Int} (h : Rdc w (.slice (some ⟨b, off, none⟩) ys.length c) ys) (hn : n ≤ ys.length) : Rdc w (.slice (some ⟨b, off + n, none⟩) (ys.length - n) (c - n)) (ys.drop n) := by
  obtain ⟨A, c', hv, hc, h1⟩ := h
  injection hv with q1 q2 q3
  subst q3
  have hl : (ys.drop n).length = ys.length - n := List.length_drop
  refine ⟨_, _, by rw [hl], by rw [hl]; omega, fun h0 => ?_⟩
  rw [hl] at h0
  obtain ⟨b2, off2, q4, ha⟩ := h1 (by omega)
  rw [q4] at q1
  injection q1 with q1
  injection q1 with q5 q6
  subst q5; subst q6
  have := at_mid ha n (ys.length - n)
  rw [List.take_of_length_le (by rw [hl]; exact Nat.le_refl _)] at this
  exact ⟨b, off + n, rfl, this⟩

end Go.Proofs.YthogkhifgkgplaaDoor
