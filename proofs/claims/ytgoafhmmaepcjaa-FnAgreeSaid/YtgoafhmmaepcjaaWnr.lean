/-
  The walk that makes a reader of numbers. Condition: the code is a list that can be.
-/
import Derived.Test.YtgoafhmmaepcjaaWpick
import Derived.OpenShut
namespace Go.Proofs.Ytgoafhmmaepcjaa
open Go.RowKit
set_option linter.unusedVariables false

theorem u8_of_wf {zs : List Int} (h : ∀ n ∈ zs, (Lit.int .u8 n).wf = true) (j : Nat) : 0 ≤ zs.getD j 0 ∧ zs.getD j 0 ≤ 255 := by
  rw [List.getD_eq_getElem?_getD]
  exact range_u8 h j

set_option maxHeartbeats 400000 in
theorem nr_any (w : World) (a : Option Addr) (len cap : Nat) (zs : List Int) (h : IsRow .u8 w a len cap zs) :
    Calls Try.prog 30 #[.slice a len cap] w
      fun e w' => e = .returned (.pointer (some ⟨w.heap.size, 0, none⟩)) ∧ Rd w.heap.size w' w.heap.size 0 ∧ Below w.heap.size w w' ∧ w'.heap.size = w.heap.size + 1 := by
  have fin : ∀ (n c : Nat), n ≤ 2000 → n ≤ len → Rd w.heap.size (w.alloc (.cells #[.slice a n c, .int .i64 0] 55)) w.heap.size 0 := by
    intro n c hn hnl
    refine ⟨Nat.le_refl _, a, n, c, fun j => zs.getD j 0, heap_alloc_new w _, hn, ?_, ?_⟩
    · rcases h with ⟨_, _, _, rfl⟩ | ⟨x, _, _, _, _, _, hwf⟩
      · intro j; simp
      · exact u8_of_wf hwf
    · intro h0
      rcases h with ⟨rfl, rfl, _, _⟩ | ⟨⟨b, off, spot⟩, rfl, hlc, _, hzl, hc, _⟩
      · omega
      · have hc0 := hc 0 (by omega)
        have hspot : spot = none := by simpa [Addr.add] using World.cell?_spot hc0
        subst hspot
        have hb : b < w.heap.size := by simpa [Addr.add] using World.block_lt_of_cell? w _ hc0
        refine ⟨b, off, rfl, hb, fun j hj => ?_⟩
        have := hc j (by omega)
        have e : (⟨b, off, none⟩ : Addr).add j = ⟨b, off + j, none⟩ := by unfold Addr.add; split <;> simp_all
        rw [e] at this
        rw [World.cell?_alloc_past _ _ _ hb]; exact this
  have HF := fun n c h1 h2 => Lib.hid (fin n c h1 h2)
  clear fin
  have hcap : len ≤ cap := by
    rcases h with ⟨_, rfl, rfl, _⟩ | ⟨_, _, h, _⟩ <;> omega
  clear h
  by_cases hg : (2000 : Int) < (len : Int)
  · go_enter Try.func30, Try.ntmps30
    go_wp2
    go_ret
    exact ⟨rfl, (HF 2000 cap (by omega) (by omega)).out, (Below.refl _ _).alloc (Nat.le_refl _) _, by simp⟩
  · go_enter Try.func30, Try.ntmps30
    go_wp2
    go_ret
    exact ⟨rfl, (HF len cap (by omega) (by omega)).out, (Below.refl _ _).alloc (Nat.le_refl _) _, by simp⟩

theorem new_ints (w : World) (xs : List Int) (t : TypeId) (j : Nat) (h : j < xs.length) : (w.alloc (.cells (xs.map (Value.int .i64)).toArray t)).cell? ⟨w.heap.size, j, none⟩ = some (.int .i64 (xs.getD j 0)) := by
  rw [cell_of_row _ w.heap.size j _ t (0, 0) (heap_alloc_new w _)]
  simp [List.getD_eq_getElem?_getD, List.getElem?_eq_getElem h]
theorem new_strs (w : World) (xs : List ByteArray) (t : TypeId) (j : Nat) (h : j < xs.length) : (w.alloc (.cells (xs.map Value.string).toArray t)).cell? ⟨w.heap.size, j, none⟩ = some (.string (xs.getD j ByteArray.empty)) := by
  rw [cell_of_row _ w.heap.size j _ t (0, 0) (heap_alloc_new w _)]
  simp [List.getD_eq_getElem?_getD, List.getElem?_eq_getElem h]

end Go.Proofs.Ytgoafhmmaepcjaa
