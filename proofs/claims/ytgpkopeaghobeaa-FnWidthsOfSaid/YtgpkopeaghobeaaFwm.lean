/-
  Plain facts on the widths of a window. No condition.
-/
namespace Go.Proofs.Ytgpkopeaghobeaa
set_option linter.unusedVariables false

def isSign (c : UInt8) : Bool := c == 111 || c == 120 || c == 116
/-- The width and the edge behind one sign more. -/
def wstp (lim : Int) (p : Int × Int) (c : UInt8) : Int × Int :=
  if c = 120 then (max (p.1 / 2) 1, max (p.1 / 2) 1)
  else if c = 116 then (1, max (p.1 / 2) 1)
  else if p.1 < p.2 then (min (2 * p.1) p.2, p.2) else (min (p.1 + 1) lim, p.2)
def wst (lim : Int) (l : List UInt8) : Int × Int := l.foldl (wstp lim) (1, lim)
theorem wst_snoc (lim : Int) (l : List UInt8) (c : UInt8) : wst lim (l ++ [c]) = wstp lim (wst lim l) c := by simp [wst, List.foldl_append]
theorem wst_bd {lim : Int} (h1 : 1 ≤ lim) (l : List UInt8) : (1 ≤ (wst lim l).1 ∧ (wst lim l).1 ≤ lim) ∧ 1 ≤ (wst lim l).2 ∧ (wst lim l).2 ≤ lim := by
  have : ∀ (l : List UInt8) (p : Int × Int), (1 ≤ p.1 ∧ p.1 ≤ lim) → (1 ≤ p.2 ∧ p.2 ≤ lim) → (1 ≤ (l.foldl (wstp lim) p).1 ∧ (l.foldl (wstp lim) p).1 ≤ lim) ∧ 1 ≤ (l.foldl (wstp lim) p).2 ∧ (l.foldl (wstp lim) p).2 ≤ lim := by
    intro l
    induction l with
    | nil => intro p a b; exact ⟨a, b⟩
    | cons c l ih =>
      intro p a b
      refine ih _ ?_ ?_
      · unfold wstp; split
        · simp only []; omega
        · split
          · simp only []; omega
          · split <;> (simp only []; omega)
      · unfold wstp; split
        · simp only []; omega
        · split
          · simp only []; omega
          · split <;> (simp only []; omega)
  exact this l (1, lim) ⟨by simp, by simpa using h1⟩ ⟨by simpa using h1, by simp⟩
/-- The widths, tick by tick. -/
def wlist (lim : Int) (l : List UInt8) : List Int := (List.range (l.length + 1)).map fun k => (wst lim (l.take k)).1
theorem wlist_len (lim : Int) (l : List UInt8) : (wlist lim l).length = l.length + 1 := by simp [wlist]
theorem wlist_nil (lim : Int) : wlist lim [] = [1] := rfl
theorem wlist_snoc (lim : Int) (l : List UInt8) (c : UInt8) : wlist lim (l ++ [c]) = wlist lim l ++ [(wstp lim (wst lim l) c).1] := by
  unfold wlist
  rw [List.length_append, List.length_singleton, List.range_succ, List.map_append, List.map_singleton]
  congr 1
  · apply List.map_congr_left
    intro k hk
    have : k < l.length + 1 := List.mem_range.1 hk
    rw [List.take_append_of_le_length (by omega)]
  · rw [← wst_snoc, List.take_of_length_le (by simp)]
theorem wlist_get (lim : Int) (l : List UInt8) (k : Nat) (h : k ≤ l.length) : (wlist lim l).getD k 0 = (wst lim (l.take k)).1 := by
  have : k < l.length + 1 := by omega
  simp [wlist, List.getD_eq_getElem?_getD, this]
def widB (lim : Int) (l : List UInt8) : Bool := decide (1 ≤ lim) && decide (lim ≤ 30) && decide (l.length ≤ 16) && l.all isSign
def widR (lim : Int) (l : List UInt8) : List Int := if widB lim l = true then wlist lim l else []
theorem widR_len (lim : Int) (l : List UInt8) : (widR lim l).length ≤ 17 := by
  unfold widR
  cases h : widB lim l
  · simp
  · rw [if_pos rfl, wlist_len]
    simp only [widB, Bool.and_eq_true, decide_eq_true_eq] at h
    omega
theorem take_snoc8 (l : List UInt8) (k : Nat) (h : k < l.length) : l.take (k + 1) = l.take k ++ [l[k]] := by
  rw [List.take_succ_eq_append_getElem h]
/-- What the law asks of each step. -/
theorem wlist_step {lim : Int} (h1 : 1 ≤ lim) (l : List UInt8) (k : Nat) (h : k < l.length) (hs : l.all isSign = true) :
    1 ≤ (wlist lim l).getD (k + 1) 0 ∧ (wlist lim l).getD (k + 1) 0 ≤ lim ∧ 0 ≤ (wlist lim l).getD k 0 ∧ (wlist lim l).getD k 0 ≤ lim ∧
    (l[k] = 111 → (wlist lim l).getD k 0 ≤ (wlist lim l).getD (k + 1) 0) ∧ (l[k] ≠ 111 → (wlist lim l).getD (k + 1) 0 ≤ max ((wlist lim l).getD k 0 / 2) 1) := by
  rw [wlist_get lim l k (by omega), wlist_get lim l (k + 1) (by omega), take_snoc8 l k h, wst_snoc]
  have b := wst_bd h1 (l.take k)
  have b2 := wst_bd h1 (l.take k ++ [l[k]])
  rw [wst_snoc] at b2
  have hk : isSign l[k] = true := List.all_eq_true.1 hs _ (List.getElem_mem h)
  refine ⟨b2.1.1, b2.1.2, by omega, b.1.2, ?_, ?_⟩
  · intro e
    rw [e]
    unfold wstp
    rw [if_neg (by decide), if_neg (by decide)]
    split <;> (simp only []; omega)
  · intro e
    have e2 : l[k] = 120 ∨ l[k] = 116 := by
      simp only [isSign, Bool.or_eq_true, beq_iff_eq] at hk
      rcases hk with (hk | hk) | hk
      · exact absurd hk e
      · exact .inl hk
      · exact .inr hk
    rcases e2 with e2 | e2
    · rw [e2]; unfold wstp; rw [if_pos rfl]; exact Int.le_refl _
    · rw [e2]; unfold wstp; rw [if_neg (by decide), if_pos rfl]; simp only []; omega
end Go.Proofs.Ytgpkopeaghobeaa
