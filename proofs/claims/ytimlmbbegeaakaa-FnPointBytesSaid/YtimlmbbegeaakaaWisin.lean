/-
  The walk of the laws' own search in a list, where the number is not there; and that pointed bytes are bytes. Conditions: where the list lies, and its length.
-/
import Derived.Test.YtimlmbbegeaakaaWpntS
import Derived.Test.YtimlmbbegeaakaaWunpI
namespace Go.Proofs.Ytimlmbbegeaakaa
open Go.RowKit
set_option linter.unusedVariables false

set_option maxHeartbeats 400000 in
theorem isin_no (w : World) (b off c n : Nat) (xs : List Int) (y : Int) (hn : xs.length = n) (hn2 : n ≤ 1048576) (h : At w b off xs) (hy : ∀ x ∈ xs, x ≠ y) :
    Calls Try.prog 17 #[.slice (some ⟨b, off, none⟩) n c, .int .i64 y] w fun e w' => e = .returned (.bool false) ∧ w = w' := by
  have HN := Lib.hid hn
  have HC := Lib.hid h.2
  have HY := Lib.hid hy
  clear h hn hy
  go_enter Try.func17, Try.ntmps17
  go_wp2
  go_loop [5] (fun i => ∃ k : Nat, k ≤ n ∧ i = .int .i64 k) (fun i => n - (intOf i).toNat)
  case atStart => exact ⟨0, Nat.zero_le _, rfl⟩
  case round =>
    obtain ⟨k, hk, rfl⟩ := hrel
    by_cases hlt : k < n
    · have hkx : k < xs.length := by have := HN.out; omega
      have hc1 := HC.out k hkx
      have hne : (xs.getD k 0 == y) = false := by
        have := HY.out (xs.getD k 0) (by rw [List.getD_eq_getElem?_getD, List.getElem?_eq_getElem hkx]; exact List.getElem_mem hkx)
        simpa using this
      clear hkx
      generalize xs.getD k 0 = x at *
      go_wp2
      go_round
      case rel => exact ⟨k + 1, by omega, by go_num⟩
      case measure => simp [intOf]; omega
    · go_wp2
      go_ret
      exact ⟨rfl, rfl⟩

theorem pntR_le : ∀ (l g : List Int), (∀ x ∈ g, x ≤ 255) → (∀ x ∈ l, x ≤ 255) → g.length + l.length ≤ 16 → ∀ x ∈ pntR g l, x ≤ 255
  | [], g, hg, _, hl, x, h => by
    rw [pntR] at h
    rcases List.mem_cons.1 h with h | h
    · simp at hl; omega
    · exact hg x h
  | b :: l, g, hg, hb, hl, x, h => by
    have hb' : ∀ x ∈ l, x ≤ 255 := fun x hx => hb x (by simp [hx])
    simp only [List.length_cons] at hl
    rw [pntR] at h
    by_cases h0 : b = 0
    · rw [if_pos h0, List.cons_append] at h
      rcases List.mem_cons.1 h with h | h
      · omega
      · rcases List.mem_append.1 h with h | h
        · exact hg x h
        · exact pntR_le l [] (by simp) hb' (by simp; omega) x h
    · rw [if_neg h0] at h
      exact pntR_le l (g ++ [b]) (by intro y hy; rcases List.mem_append.1 hy with hy | hy; exact hg y hy; simp at hy; rw [hy]; exact hb b (by simp)) hb' (by simp; omega) x h
theorem pnt_bytes {l : List Int} (h : bytesB 16 l = true) : (pnt l).length = l.length + 1 ∧ (∀ x ∈ pnt l, x ≠ 0) ∧ unpR (pnt l) = some l := by
  have h2 : l.length ≤ 16 ∧ l.all isByte = true := by simpa [bytesB] using h
  have hb : ∀ x ∈ l, 0 ≤ x ∧ x ≤ 255 := fun x hx => isByte_yes (List.all_eq_true.1 h2.2 x hx)
  have hlen := pnt_len l
  have hpos := pnt_pos l (fun x hx => (hb x hx).1)
  have hle : ∀ x ∈ pnt l, x ≤ 255 := by
    rw [pnt_eq]
    exact pntR_le l [] (by simp) (fun x hx => (hb x hx).2) (by simp; omega)
  refine ⟨hlen, fun x hx => by have := hpos x hx; omega, unpR_ok (by omega) (by omega) ?_ (unp_pnt l (fun x hx => (hb x hx).1))⟩
  rw [List.all_eq_true]
  intro x hx
  have h1 := hpos x hx
  have h3 := hle x hx
  simp [isByte]; omega
end Go.Proofs.Ytimlmbbegeaakaa
