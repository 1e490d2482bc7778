/-
  Plain facts on lists that can be read. No condition.
-/
import Derived.Test.YtkmnijpiaofdmaaDoorWjg
namespace Go.Proofs.YtkmnijpiaofdmaaDoor
open Go.RowKit
set_option linter.unusedVariables false

theorem Rds.lies6 {w : World} {v : Value} {l : List Int} (h : Rds w v l) : Lies w.heap.size v l := by
  obtain ⟨A, c, rfl, h1⟩ := h
  intro h0 g hg
  obtain ⟨b, off, rfl, hat⟩ := h1 h0
  have e : b = g := by simpa [Value.ownBlock] using hg
  subst e; exact hat.1
theorem Rds.more6 {w w' : World} {v : Value} {l : List Int} (h : Rds w v l) (hb : Below w.heap.size w w') : Rds w' v l := h.below hb h.lies6
theorem Rdc.cap {w : World} {A : Option Addr} {n c : Nat} {l : List Int} (h : Rdc w (.slice A n c) l) : l.length ≤ c := by
  obtain ⟨A', c', e, hc, _⟩ := h
  injection e with e1 e2 e3
  omega
theorem rds_take {w : World} {A : Option Addr} {n c k : Nat} {l : List Int} (h : Rds w (.slice A n c) l) (hk : k ≤ l.length) : Rds w (.slice A k c) (l.take k) := by
  obtain ⟨A', c', e, h1⟩ := h
  injection e with e1 e2 e3
  subst e1
  subst e3
  refine ⟨A, c, by rw [List.length_take, Nat.min_eq_left hk], fun h0 => ?_⟩
  rw [List.length_take, Nat.min_eq_left hk] at h0
  obtain ⟨b, off, rfl, hat⟩ := h1 (by omega)
  have := at_mid hat 0 k
  exact ⟨b, off, rfl, this⟩
end Go.Proofs.YtkmnijpiaofdmaaDoor
