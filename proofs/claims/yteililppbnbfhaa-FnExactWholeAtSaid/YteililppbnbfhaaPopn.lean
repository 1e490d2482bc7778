/-
  A list of pieces that came in: read as a list. No condition.
-/
import Derived.Test.YteililppbnbfhaaPrw
import Derived.Deep.Slices
import Derived.ChangeArms
namespace Go.Proofs.Yteililppbnbfhaa
open Go.RowKit Go.Deep Go.ChangeShapes Go.WideShapes
set_option linter.unusedVariables false

theorem cellsLP : Try.prog.cellsOf 43 = 3 := by kernel_rfl
theorem cellsI : Try.prog.cellsOf 3 = 1 := by kernel_rfl
theorem cellsB : Try.prog.cellsOf 4 = 1 := by kernel_rfl
theorem open_pcs {H : Type} {enc : TypeId × Value → H} {w : World} {base : Nat} {spare : Nat → Bool} {held : Bool} {fuel : Nat} {a0 : Option Addr} {len0 cap0 : Nat} {x : DataW H × List MemPlace}
    (h : DataW.trod enc Try.prog w base spare held fuel 22 (Value.slice a0 len0 cap0).cells.toList = some x) : ∃ ps : List Pc, ps.length = len0 ∧ len0 ≤ maxLen ∧ PRds w (.slice a0 len0 cap0) ps := by
  rcases open_slice Try.underlying22 h with ⟨hcs, _⟩ | ⟨a, len, cap, m, n, D, Pl, hcs, _, hl, hm, hmm, _, hx⟩
  · simp [Value.cells] at hcs
    obtain ⟨rfl, rfl, rfl⟩ := hcs
    exact ⟨[], rfl, Nat.zero_le _, none, 0, rfl, fun h0 => absurd h0 (by simp)⟩
  · simp [Value.cells] at hcs
    obtain ⟨rfl, rfl, rfl⟩ := hcs
    have hlm : len0 ≤ m := by rw [hmm]; split <;> omega
    have each : ∀ i, i < len0 → ∃ q : Pc, w.cell? (a.add (i * 3)) = some (.int .i64 q.a) ∧ w.cell? (a.add (i * 3 + 1)) = some (.int .i64 q.s) ∧ w.cell? (a.add (i * 3 + 2)) = some (.bool q.m) := by
      intro i hi
      obtain ⟨cs', h1, h2⟩ := hx i (by omega)
      rw [cellsLP] at h1
      obtain ⟨_, hlen, hcell⟩ := World.cells?_some h1
      obtain ⟨xs, k, hk, hxy, _, hxl, hf⟩ := DataW.trod_struct Try.underlying43 h2
      match cs', hlen with
      | [v0, v1, v2], _ =>
        have g0 := hf 0 _ rfl
        have g1 := hf 1 _ rfl
        have g2 := hf 2 _ rfl
        have hxl' : xs.length = 3 := hxl
        rw [List.getElem?_eq_getElem (by omega)] at g0 g1 g2
        obtain ⟨x0, e0, _⟩ := DataW.trod_int Try.underlying3 g0
        obtain ⟨x1, e1, _⟩ := DataW.trod_int Try.underlying3 g1
        obtain ⟨x2, e2, _⟩ := DataW.trod_bool Try.underlying4 g2
        have e0' : v0 = .int .i64 x0 := by simpa [cellsI] using e0
        have e1' : v1 = .int .i64 x1 := by simpa [cellsI] using e1
        have e2' : v2 = .bool x2 := by simpa [cellsB] using e2
        have k0 := hcell 0 (by omega)
        have k1 := hcell 1 (by omega)
        have k2 := hcell 2 (by omega)
        rw [add_add] at k0 k1 k2
        exact ⟨⟨x0, x1, x2⟩, by simpa [e0'] using k0, by simpa [e1'] using k1, by simpa [e2'] using k2⟩
    haveI : Inhabited Pc := ⟨d0⟩
    obtain ⟨q, hq⟩ := choose_lt each
    have hget : ∀ j, j < len0 → ((List.range len0).map q).getD j d0 = q j := by
      intro j hj; simp [List.getD_eq_getElem?_getD, hj]
    refine ⟨(List.range len0).map q, by simp, by omega, some a, cap0, by simp, fun h0 => ?_⟩
    have h0' : 0 < len0 := by simpa using h0
    obtain ⟨b, off, spot⟩ := a
    have hc0 := (hq 0 h0').1
    have hspot : spot = none := by simpa [Addr.add] using World.cell?_spot hc0
    subst hspot
    have hb : b < w.heap.size := by simpa [Addr.add] using World.block_lt_of_cell? w _ hc0
    refine ⟨b, off, rfl, hb, fun j hj => ?_⟩
    have hj' : j < len0 := by simpa using hj
    rw [hget j hj']
    obtain ⟨k0, k1, k2⟩ := hq j hj'
    have e : ∀ i, (⟨b, off, none⟩ : Addr).add i = ⟨b, off + i, none⟩ := by intro i; unfold Addr.add; split <;> simp_all
    rw [e] at k0 k1 k2
    exact ⟨k0, k1, k2⟩
end Go.Proofs.Yteililppbnbfhaa
