/-
  An argument that is a list of fields, opened. No condition.
-/
import Derived.Test.YthogkhifgkgplaaFlm
import Derived.Deep.SlicePairs
import Derived.ChangeArms
import Derived.ChangeSlices
namespace Go.Proofs.Ythogkhifgkgplaa
open Go.RowKit Go.Deep Go.ChangeShapes Go.WideShapes
set_option linter.unusedVariables false

theorem isRow_max {k : IntKind} {w : World} {a : Option Addr} {len cap : Nat} {zs : List Int} (h : IsRow k w a len cap zs) : len ≤ maxLen := by
  rcases h with ⟨_, rfl, _⟩ | ⟨_, _, h1, h2, _⟩
  · exact Nat.zero_le _
  · omega
theorem open_flds {H : Type} {enc : TypeId × Value → H} {w : World} {base fuel : Nat} {held : Bool} {a0 : Option Addr} {len0 cap0 : Nat} {x : DataW H × List MemPlace}
    (h : DataW.trod enc Try.prog w base (fun _ => true) held fuel 22 (Value.slice a0 len0 cap0).cells.toList = some x) :
    ∃ L : List Fd, FRds w (.slice a0 len0 cap0) L ∧ L.length ≤ maxLen ∧ ∀ k, (L.getD k f0).b.length ≤ maxLen := by
  rcases open_slice_pairs Try.underlying22 Try.underlying43 (by kernel_rfl) rfl rfl (by kernel_rfl) (by kernel_rfl) h with ⟨hcs, _⟩ | ⟨a, len, cap, m, n, V0, V1, D0, D1, P0, P1, hcs, _, hl, hm, hmm, _, hx⟩
  · simp [Value.cells] at hcs
    obtain ⟨rfl, rfl, rfl⟩ := hcs
    exact ⟨[], ⟨none, 0, rfl, fun h0 => absurd h0 (by simp)⟩, Nat.zero_le _, fun k => by simp [f0]⟩
  · simp [Value.cells] at hcs
    obtain ⟨rfl, rfl, rfl⟩ := hcs
    have hlm : len0 ≤ m := by rw [hmm]; split <;> omega
    have each : ∀ i, i < len0 → ∃ q : Fd, w.cell? (a.add (i * 2)) = some (.int .i64 q.t) ∧ (∃ u, w.cell? (a.add (i * 2 + 1)) = some u ∧ Rds w u q.b ∧ Proper u) ∧ q.b.length ≤ maxLen := by
      intro i hi
      obtain ⟨c0, c1, t0, t1⟩ := hx i (by omega)
      obtain ⟨x0, e0, _⟩ := DataW.trod_int Try.underlying3 t0
      have e0' : V0 i = .int .i64 x0 := by simpa using e0
      rw [e0'] at c0
      rcases open_ints Try.underlying24 Try.underlying3 (by kernel_rfl) t1 with ⟨hcs, _⟩ | ⟨y, l, c, zs, hcs, _, hl2, hm2, hz, _, hcell, hwz⟩
      · have e1 : V1 i = .slice none 0 0 := by simpa using hcs
        rw [e1] at c1
        exact ⟨⟨x0, []⟩, c0, ⟨_, c1, ⟨none, 0, rfl, fun h0 => absurd h0 (by simp)⟩, fun n c e => rfl⟩, Nat.zero_le _⟩
      · have e1 : V1 i = .slice (some y) l c := by simpa using hcs
        rw [e1] at c1
        have hrow : IsRow .i64 w (some y) l c zs := .inr ⟨_, rfl, hl2, hm2, by simpa using hz, hcell, hwz⟩
        have hmx := isRow_max hrow
        obtain ⟨xs, rfl, hr, _⟩ := rds_of_row hrow
        exact ⟨⟨x0, xs⟩, c0, ⟨_, c1, hr, fun n c e => by injection e with e1; cases e1⟩, hmx⟩
    haveI : Inhabited Fd := ⟨f0⟩
    obtain ⟨q, hq⟩ := choose_lt each
    have hget : ∀ j, j < len0 → ((List.range len0).map q).getD j f0 = q j := by
      intro j hj; simp [List.getD_eq_getElem?_getD, hj]
    refine ⟨(List.range len0).map q, ⟨some a, cap0, by simp, fun h0 => ?_⟩, by simp; omega, fun k => ?_⟩
    · have h0' : 0 < len0 := by simpa using h0
      obtain ⟨b, off, spot⟩ := a
      have hc0 := (hq 0 h0').1
      have hspot : spot = none := by simpa [Addr.add] using World.cell?_spot hc0
      subst hspot
      have hb : b < w.heap.size := by simpa [Addr.add] using World.block_lt_of_cell? w _ hc0
      refine ⟨b, off, rfl, hb, fun j hj => ?_⟩
      have hj' : j < len0 := by simpa using hj
      rw [hget j hj']
      obtain ⟨k0, ⟨u, k1, k2, k3⟩, _⟩ := hq j hj'
      have e : ∀ i, (⟨b, off, none⟩ : Addr).add i = ⟨b, off + i, none⟩ := by intro i; unfold Addr.add; split <;> simp_all
      rw [e] at k0 k1
      exact ⟨k0, u, k1, k2, k3⟩
    · by_cases hk : k < len0
      · rw [hget k hk]; exact (hq k hk).2.2
      · rw [List.getD_eq_getElem?_getD, List.getElem?_eq_none (by simp; omega)]; simp [f0]
end Go.Proofs.Ythogkhifgkgplaa
