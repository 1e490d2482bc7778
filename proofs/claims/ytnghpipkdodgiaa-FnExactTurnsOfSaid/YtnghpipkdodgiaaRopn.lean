/-
  An argument that is a list of lists of numbers, opened. No condition.
-/
import Derived.Test.YtnghpipkdodgiaaWll
import Derived.Deep.Matrix
namespace Go.Proofs.Ytnghpipkdodgiaa
open Go.RowKit Go.Deep Go.ChangeShapes Go.WideShapes
set_option linter.unusedVariables false

theorem open_rows {H : Type} {enc : TypeId × Value → H} {w : World} {base fuel : Nat} {held : Bool} {a : Option Addr} {len cap : Nat} {x : DataW H × List MemPlace}
    (h : DataW.trod enc Try.prog w base (fun _ => true) held fuel 22 (Value.slice a len cap).cells.toList = some x) :
    ∃ M : List (List Int), RdsL w (.slice a len cap) M ∧ M.length ≤ maxLen ∧ ∀ k, (M.getD k []).length ≤ maxLen := by
  rcases open_int_rows Try.underlying22 Try.underlying24 Try.underlying3 (by kernel_rfl) (by kernel_rfl) h with ⟨hcs, _⟩ | ⟨ad, l, c, A, Ln, C, Z, hcs, _, hl, hm, _, hr⟩
  · simp [Value.cells] at hcs
    obtain ⟨rfl, rfl, rfl⟩ := hcs
    exact ⟨[], ⟨none, 0, rfl, fun h0 => absurd h0 (by simp)⟩, Nat.zero_le _, fun k => by simp⟩
  · simp [Value.cells] at hcs
    obtain ⟨rfl, rfl, rfl⟩ := hcs
    obtain ⟨b, off, spot⟩ := ad
    have hlen : ((List.range len).map fun r => (Z r).take (Ln r)).length = len := by simp
    have hget : ∀ r, r < len → ((List.range len).map fun r => (Z r).take (Ln r)).getD r [] = (Z r).take (Ln r) := by
      intro r h0
      rw [List.getD_eq_getElem?_getD, List.getElem?_map, List.getElem?_range h0]; rfl
    have hrl : ∀ r, r < len → ((Z r).take (Ln r)).length = Ln r := by
      intro r h0
      obtain ⟨_, h2, h3, h4, _⟩ := hr r (by omega)
      rw [List.length_take]; omega
    refine ⟨(List.range len).map fun r => (Z r).take (Ln r), ⟨some ⟨b, off, spot⟩, cap, by rw [hlen], fun h0 => ?_⟩, by rw [hlen]; omega, fun k => ?_⟩
    · rw [hlen] at h0
      have hc0 := (hr 0 (by omega)).1
      have hspot : spot = none := by simpa [Addr.add] using World.cell?_spot hc0
      subst hspot
      have hb : b < w.heap.size := by simpa [Addr.add] using World.block_lt_of_cell? w _ hc0
      refine ⟨b, off, rfl, hb, fun j hj => ?_⟩
      rw [hlen] at hj
      obtain ⟨h1, h2, h3, h4, h5, h6, h7⟩ := hr j (by omega)
      have e : (⟨b, off, none⟩ : Addr).add j = ⟨b, off + j, none⟩ := by unfold Addr.add; split <;> simp_all
      rw [e] at h1
      refine ⟨.slice (A j) (Ln j) (C j), h1, ⟨A j, C j, by rw [hget j hj, hrl j hj], fun h0 => ?_⟩, fun n c e => ?_⟩
      · rw [hget j hj, hrl j hj] at h0
        cases hA : A j with
        | none => have := h6 hA; omega
        | some a' =>
          obtain ⟨_, hcell⟩ := h7 a' hA
          obtain ⟨b', off', spot'⟩ := a'
          have hc0 := hcell 0 (by omega)
          have hspot : spot' = none := by simpa [Addr.add] using World.cell?_spot hc0
          subst hspot
          have hb' : b' < w.heap.size := by simpa [Addr.add] using World.block_lt_of_cell? w _ hc0
          refine ⟨b', off', rfl, hb', fun i hi => ?_⟩
          rw [hget j hj, hrl j hj] at hi
          have := hcell i (by omega)
          have e : (⟨b', off', none⟩ : Addr).add i = ⟨b', off' + i, none⟩ := by unfold Addr.add; split <;> simp_all
          rw [e] at this
          rw [this, hget j hj]
          simp [List.getD_eq_getElem?_getD, hi]
      · injection e with e1 e2 e3
        have h0 := h6 e1
        rw [e1, show Ln j = 0 from by omega, h0]
    · by_cases hk : k < len
      · rw [hget k hk, hrl k hk]
        obtain ⟨_, h2, h3, _⟩ := hr k (by omega)
        omega
      · rw [List.getD_eq_getElem?_getD, List.getElem?_eq_none (by rw [hlen]; omega)]; simp
end Go.Proofs.Ytnghpipkdodgiaa
