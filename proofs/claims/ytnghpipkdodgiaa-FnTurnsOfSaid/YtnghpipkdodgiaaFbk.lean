/-
  Plain facts on buckets and on what waits. No condition.
-/
namespace Go.Proofs.Ytnghpipkdodgiaa
set_option linter.unusedVariables false

/-- The load of a tick: 0 behind the last one. -/
def lg (l : List Int) (k : Nat) : Int := l.getD k 0
def isLoad (x : Int) : Bool := decide (0 ≤ x) && decide (x ≤ 30)
def okL (l : List Int) : Bool := l.all isLoad && decide (l.length ≤ 16)
theorem lg_bd {l : List Int} (h : okL l = true) (k : Nat) : 0 ≤ lg l k ∧ lg l k ≤ 30 := by
  simp only [okL, Bool.and_eq_true] at h
  unfold lg
  rcases Nat.lt_or_ge k l.length with hk | hk
  · rw [List.getD_eq_getElem?_getD, List.getElem?_eq_getElem hk]
    have := List.all_eq_true.1 h.1 _ (List.getElem_mem hk)
    simpa [isLoad] using this
  · rw [List.getD_eq_getElem?_getD, List.getElem?_eq_none hk]; simp
theorem okL_len {l : List Int} (h : okL l = true) : l.length ≤ 16 := by
  simp only [okL, Bool.and_eq_true, decide_eq_true_eq] at h; exact h.2

/-- What is in the bucket behind k loads. -/
def hh (r d : Int) (l : List Int) : Nat → Int
  | 0 => d
  | k + 1 => if lg l k ≤ min (hh r d l k + r) d then min (hh r d l k + r) d - lg l k else min (hh r d l k + r) d
def flag (r d : Int) (l : List Int) (k : Nat) : Bool := decide (lg l k ≤ min (hh r d l k + r) d)
def thr (r d : Int) (l : List Int) (k : Nat) : Int := if lg l k ≤ min (hh r d l k + r) d then lg l k else 0
theorem hh_bd {r d : Int} {l : List Int} (hr : 0 ≤ r) (hd : 0 ≤ d) (hl : okL l = true) : ∀ k, 0 ≤ hh r d l k ∧ hh r d l k ≤ d
  | 0 => ⟨hd, Int.le_refl _⟩
  | k + 1 => by
    have := hh_bd hr hd hl k
    have := lg_bd hl k
    unfold hh; split <;> omega
/-- A load passes just where as much goes through as it is. -/
theorem thr_flag {r d : Int} {l : List Int} (hr : 0 ≤ r) (hd : 0 ≤ d) (hl : okL l = true) (k : Nat) : (thr r d l k == lg l k) = flag r d l k := by
  have := hh_bd hr hd hl k
  have := lg_bd hl k
  unfold thr flag
  by_cases h : lg l k ≤ min (hh r d l k + r) d
  · rw [if_pos h]; simp [h]
  · rw [if_neg h]
    have h1 : ¬ (0 : Int) = lg l k := by omega
    rw [decide_eq_false h]; simpa using h1
def bkL (r d : Int) (l : List Int) (n : Nat) : List Bool := (List.range n).map (flag r d l)
theorem bkL_succ (r d : Int) (l : List Int) (n : Nat) : bkL r d l (n + 1) = bkL r d l n ++ [flag r d l n] := by simp [bkL, List.range_succ]
theorem bkL_len (r d : Int) (l : List Int) (n : Nat) : (bkL r d l n).length = n := by simp [bkL]
def thrL (r d : Int) (l : List Int) (n : Nat) : List Int := (List.range n).map (thr r d l)
theorem thrL_succ (r d : Int) (l : List Int) (n : Nat) : thrL r d l (n + 1) = thrL r d l n ++ [thr r d l n] := by simp [thrL, List.range_succ]
theorem thrL_len (r d : Int) (l : List Int) (n : Nat) : (thrL r d l n).length = n := by simp [thrL]
theorem thrL_get (r d : Int) (l : List Int) (n k : Nat) (h : k < n) : (thrL r d l n).getD k 0 = thr r d l k := by
  simp [thrL, List.getD_eq_getElem?_getD, h]

def rateB (r : Int) : Bool := decide (0 ≤ r) && decide (r ≤ 30)
def depB (d : Int) : Bool := decide (0 ≤ d) && decide (d ≤ 200)
def bokB (r d : Int) (l : List Int) : Bool := rateB r && depB d && okL l
def bokL (r d : Int) (l : List Int) : List Bool := if bokB r d l = true then bkL r d l l.length else []
def bokN (r d : Int) (l : List Int) : Int := if bokB r d l = true then hh r d l l.length else -1
theorem bok_parts {r d : Int} {l : List Int} (h : bokB r d l = true) : (0 ≤ r ∧ r ≤ 30) ∧ (0 ≤ d ∧ d ≤ 200) ∧ okL l = true := by
  simpa only [bokB, rateB, depB, Bool.and_eq_true, decide_eq_true_eq, and_assoc] using h
theorem bokL_len (r d : Int) (l : List Int) : (bokL r d l).length ≤ 16 := by
  unfold bokL
  cases h : bokB r d l
  · simp
  · rw [if_pos rfl, bkL_len]; exact okL_len (bok_parts h).2.2

/-- What a depth must hold behind k loads. -/
def vv (r : Int) (l : List Int) : Nat → Int
  | 0 => 0
  | k + 1 => max (vv r l k - r) 0 + lg l k
theorem vv_bd {r : Int} {l : List Int} (hr : 0 ≤ r) (hl : okL l = true) : ∀ k, 0 ≤ vv r l k ∧ vv r l k ≤ 30 * k
  | 0 => ⟨Int.le_refl _, by simp [vv]⟩
  | k + 1 => by
    have := vv_bd hr hl k
    have := lg_bd hl k
    unfold vv; omega
/-- While all loads pass, what is out of the bucket is what its depth must hold. -/
theorem hh_vv {r d : Int} {l : List Int} (hr : 0 ≤ r) (hd : 0 ≤ d) : ∀ k, (∀ j, j < k → flag r d l j = true) → hh r d l k = d - vv r l k
  | 0, _ => by simp [hh, vv]
  | k + 1, h => by
    have ih := hh_vv hr hd k (fun j hj => h j (by omega))
    have hk := h k (by omega)
    simp only [flag, decide_eq_true_eq] at hk
    unfold hh vv
    rw [if_pos hk, ih]; omega
theorem flag_vv {r d : Int} {l : List Int} (hr : 0 ≤ r) (hd : 0 ≤ d) (k : Nat) (h : ∀ j, j < k → flag r d l j = true) : flag r d l k = true ↔ vv r l (k + 1) ≤ d := by
  have ih := hh_vv hr hd k h
  simp only [flag, decide_eq_true_eq]
  unfold vv
  rw [ih]; omega
theorem fits_vv {r d : Int} {l : List Int} (hr : 0 ≤ r) (hd : 0 ≤ d) (n : Nat) : (∀ j, j < n → flag r d l j = true) ↔ ∀ j, j < n → vv r l (j + 1) ≤ d := by
  induction n with
  | zero => exact ⟨fun _ j hj => absurd hj (by omega), fun _ j hj => absurd hj (by omega)⟩
  | succ n ih =>
    constructor
    · intro h j hj
      have h' := ih.1 (fun i hi => h i (by omega))
      rcases (show j < n ∨ j = n from by omega) with hj | rfl
      · exact h' j hj
      · exact (flag_vv hr hd j (fun i hi => h i (by omega))).1 (h j (by omega))
    · intro h j hj
      have h' := ih.2 (fun i hi => h i (by omega))
      rcases (show j < n ∨ j = n from by omega) with hj | rfl
      · exact h' j hj
      · exact (flag_vv hr hd j h').2 (h j (by omega))
/-- All of them pass. -/
def fitB (r d : Int) (l : List Int) : Bool := (bkL r d l l.length).all id
theorem fitB_iff {r d : Int} {l : List Int} (hr : 0 ≤ r) (hd : 0 ≤ d) : fitB r d l = true ↔ ∀ j, j < l.length → vv r l (j + 1) ≤ d := by
  rw [← fits_vv hr hd]
  simp [fitB, bkL]
theorem fitB_bad {r d : Int} {l : List Int} (k : Nat) (hk : k < l.length) (h : flag r d l k = false) : fitB r d l = false := by
  simp only [fitB, bkL, List.all_eq_false]
  exact ⟨flag r d l k, List.mem_map.2 ⟨k, List.mem_range.2 hk, rfl⟩, by rw [h]; simp⟩

/-- The least depth by which all pass: where it is sought, from d on. -/
def depFrom (r : Int) (l : List Int) : Nat → Nat → Option Nat
  | 0, _ => none
  | n + 1, d => if fitB r d l = true then some d else depFrom r l n (d + 1)
def depOk (r : Int) (l : List Int) : Bool := rateB r && okL l
/-- What DepthFor answers. -/
def depO (r : Int) (l : List Int) : Option Nat := if depOk r l = true then depFrom r l 201 0 else none
def depN (r : Int) (l : List Int) : Int := ((depO r l).getD 0 : Nat)
def depB' (r : Int) (l : List Int) : Bool := (depO r l).isSome
theorem depFrom_some {r : Int} {l : List Int} : ∀ n d e, depFrom r l n d = some e → fitB r e l = true ∧ d ≤ e ∧ e < d + n ∧ ∀ j, d ≤ j → j < e → fitB r j l = false
  | 0, d, e, h => by simp [depFrom] at h
  | n + 1, d, e, h => by
    unfold depFrom at h
    by_cases hf : fitB r d l = true
    · rw [if_pos hf] at h
      simp at h; subst h
      exact ⟨hf, Nat.le_refl _, by omega, fun j h1 h2 => absurd h1 (by omega)⟩
    · rw [if_neg hf] at h
      obtain ⟨h1, h2, h3, h4⟩ := depFrom_some n (d + 1) e h
      refine ⟨h1, by omega, by omega, fun j hj1 hj2 => ?_⟩
      rcases (show j = d ∨ d + 1 ≤ j from by omega) with rfl | hj
      · simpa using hf
      · exact h4 j hj hj2
theorem depFrom_none {r : Int} {l : List Int} : ∀ n d, depFrom r l n d = none → ∀ j, d ≤ j → j < d + n → fitB r j l = false
  | 0, d, _, j, h1, h2 => absurd h2 (by omega)
  | n + 1, d, h, j, h1, h2 => by
    unfold depFrom at h
    by_cases hf : fitB r d l = true
    · rw [if_pos hf] at h; cases h
    · rw [if_neg hf] at h
      rcases (show j = d ∨ d + 1 ≤ j from by omega) with rfl | hj
      · simpa using hf
      · exact depFrom_none n (d + 1) h j hj (by omega)
theorem depFrom_hit {r : Int} {l : List Int} (n d : Nat) (h : fitB r d l = true) : depFrom r l (n + 1) d = some d := by simp [depFrom, h]
theorem depFrom_miss {r : Int} {l : List Int} (n d : Nat) (h : fitB r d l = false) : depFrom r l (n + 1) d = depFrom r l n (d + 1) := by simp [depFrom, h]
end Go.Proofs.Ytnghpipkdodgiaa
