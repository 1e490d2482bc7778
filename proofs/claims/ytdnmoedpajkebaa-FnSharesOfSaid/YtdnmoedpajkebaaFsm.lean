/-
  Plain facts on what waits, and on rows of loads. No condition.
-/
import Derived.Test.YtdnmoedpajkebaaFsh
namespace Go.Proofs.Ytdnmoedpajkebaa
set_option linter.unusedVariables false

theorem lg_past {l : List Int} {k : Nat} (h : l.length ≤ k) : lg l k = 0 := by
  unfold lg; rw [List.getD_eq_getElem?_getD, List.getElem?_eq_none h]; rfl
/-- What is left behind k ticks. -/
def lf (r : Int) (l : List Int) : Nat → Int
  | 0 => 0
  | k + 1 => lf r l k + lg l k - min (lf r l k + lg l k) r
def sm (r : Int) (l : List Int) (k : Nat) : Int := min (lf r l k + lg l k) r
theorem lf_succ (r : Int) (l : List Int) (k : Nat) : lf r l (k + 1) = lf r l k + lg l k - sm r l k := rfl
/-- The most that was left. -/
def ms (r : Int) (l : List Int) : Nat → Int
  | 0 => 0
  | k + 1 => max (ms r l k) (lf r l (k + 1))
def smL (r : Int) (l : List Int) (n : Nat) : List Int := (List.range n).map (sm r l)
theorem smL_succ (r : Int) (l : List Int) (n : Nat) : smL r l (n + 1) = smL r l n ++ [sm r l n] := by simp [smL, List.range_succ]
theorem smL_len (r : Int) (l : List Int) (n : Nat) : (smL r l n).length = n := by simp [smL]
theorem smL_get (r : Int) (l : List Int) (n k : Nat) (h : k < n) : (smL r l n).getD k 0 = sm r l k := by
  simp [smL, List.getD_eq_getElem?_getD, h]
section
variable {r : Int} {l : List Int}
theorem lf_bd (hr : 1 ≤ r) (hl : okL l = true) : ∀ k, 0 ≤ lf r l k ∧ lf r l k ≤ 30 * k
  | 0 => ⟨Int.le_refl _, by simp [lf]⟩
  | k + 1 => by
    have := lf_bd hr hl k
    have := lg_bd hl k
    unfold lf; omega
theorem sm_bd (hr : 1 ≤ r) (hl : okL l = true) (k : Nat) : 0 ≤ sm r l k ∧ sm r l k ≤ r ∧ sm r l k ≤ lf r l k + lg l k := by
  have := lf_bd hr hl k
  have := lg_bd hl k
  unfold sm; omega
theorem ms_bd (hr : 1 ≤ r) (hl : okL l = true) : ∀ k, 0 ≤ ms r l k ∧ ms r l k ≤ 30 * k
  | 0 => ⟨Int.le_refl _, by simp [ms]⟩
  | k + 1 => by
    have := ms_bd hr hl k
    have := lf_bd hr hl (k + 1)
    unfold ms; omega
/-- Nothing is left, and no load comes. -/
def stopB (r : Int) (l : List Int) (k : Nat) : Bool := decide (l.length ≤ k) && decide (lf r l k = 0)
theorem lf_past (hr : 1 ≤ r) (hl : okL l = true) : ∀ j, (∀ i, i < l.length + j → stopB r l i = false) → lf r l (l.length + j) + j ≤ 30 * l.length
  | 0, _ => by have := (lf_bd hr hl l.length).2; simp; omega
  | j + 1, h => by
    have ih := lf_past hr hl j (fun i hi => h i (by omega))
    have h1 := h (l.length + j) (by omega)
    have h2 := (lf_bd hr hl (l.length + j)).1
    have h3 : lg l (l.length + j) = 0 := lg_past (by omega)
    have h4 : ¬ lf r l (l.length + j) = 0 := by
      intro e
      simp [stopB, e] at h1
    rw [show l.length + (j + 1) = (l.length + j) + 1 from by omega, lf_succ, h3]
    unfold sm
    rw [h3]
    omega
theorem ticks_le (hr : 1 ≤ r) (hl : okL l = true) (k : Nat) (h : ∀ i, i < k → stopB r l i = false) : k ≤ 500 := by
  have hn := okL_len hl
  rcases Nat.lt_or_ge k l.length with hk | hk
  · omega
  · obtain ⟨j, rfl⟩ : ∃ j, k = l.length + j := ⟨k - l.length, by omega⟩
    have := lf_past hr hl j h
    have := (lf_bd hr hl (l.length + j)).1
    omega
end
/-- The first tick from k on at which all is done. -/
def stopAt (r : Int) (l : List Int) : Nat → Nat → Nat
  | 0, k => k
  | f + 1, k => if stopB r l k = true then k else stopAt r l f (k + 1)
theorem stopAt_is {r : Int} {l : List Int} {T : Nat} (hT : stopB r l T = true) : ∀ f k, k ≤ T → T < k + f → (∀ i, k ≤ i → i < T → stopB r l i = false) → stopAt r l f k = T
  | 0, k, h1, h2, _ => absurd h2 (by omega)
  | f + 1, k, h1, h2, h => by
    unfold stopAt
    rcases (show k = T ∨ k < T from by omega) with rfl | hk
    · rw [if_pos hT]
    · rw [if_neg (by rw [h k (Nat.le_refl _) hk]; simp)]
      exact stopAt_is hT f (k + 1) hk (by omega) (fun i hi hi2 => h i (by omega) hi2)
def smoT (r : Int) (l : List Int) : Nat := stopAt r l 600 0
theorem smoT_is {r : Int} {l : List Int} {k : Nat} (hk : k ≤ 500) (hT : stopB r l k = true) (h : ∀ i, i < k → stopB r l i = false) : smoT r l = k :=
  stopAt_is hT 600 0 (by omega) (by omega) (fun i _ hi => h i hi)
def smoB (r : Int) (l : List Int) : Bool := decide (1 ≤ r) && decide (r ≤ 30) && okL l
def smoL (r : Int) (l : List Int) : List Int := if smoB r l = true then smL r l (smoT r l) else []
def smoN (r : Int) (l : List Int) : Int := if smoB r l = true then ms r l (smoT r l) else -1
theorem smoB_parts {r : Int} {l : List Int} (h : smoB r l = true) : (1 ≤ r ∧ r ≤ 30) ∧ okL l = true := by
  simpa only [smoB, Bool.and_eq_true, decide_eq_true_eq] using h
theorem smoL_bad {r : Int} {l : List Int} (h : smoB r l = false) : smoL r l = [] := by simp [smoL, h]
theorem smoN_bad {r : Int} {l : List Int} (h : smoB r l = false) : smoN r l = -1 := by simp [smoN, h]
theorem smoL_ok {r : Int} {l : List Int} (h : smoB r l = true) : smoL r l = smL r l (smoT r l) := by simp [smoL, h]
theorem smoN_ok {r : Int} {l : List Int} (h : smoB r l = true) : smoN r l = ms r l (smoT r l) := by simp [smoN, h]
theorem stopAt_le (r : Int) (l : List Int) : ∀ f k, stopAt r l f k ≤ k + f
  | 0, k => Nat.le_refl _
  | f + 1, k => by
    unfold stopAt; split
    · omega
    · have := stopAt_le r l f (k + 1); omega
theorem smoL_len (r : Int) (l : List Int) : (smoL r l).length ≤ 600 := by
  unfold smoL; split
  · rw [smL_len]; have := stopAt_le r l 600 0; unfold smoT; omega
  · simp
/-- There is such a tick. -/
theorem stopAt_stops {r : Int} {l : List Int} (hr : 1 ≤ r) (hl : okL l = true) : stopB r l (smoT r l) = true ∧ ∀ i, i < smoT r l → stopB r l i = false := by
  have : ∀ m, (∃ k, k ≤ m ∧ stopB r l k = true ∧ ∀ i, i < k → stopB r l i = false) ∨ ∀ i, i < m + 1 → stopB r l i = false := by
    intro m
    induction m with
    | zero =>
      cases h : stopB r l 0
      · exact .inr fun i hi => by obtain rfl : i = 0 := by omega
                                  exact h
      · exact .inl ⟨0, Nat.le_refl _, h, fun i hi => absurd hi (by omega)⟩
    | succ m ih =>
      rcases ih with ⟨k, h1, h2, h3⟩ | ih
      · exact .inl ⟨k, by omega, h2, h3⟩
      · cases h : stopB r l (m + 1)
        · exact .inr fun i hi => by
            rcases (show i < m + 1 ∨ i = m + 1 from by omega) with hi | rfl
            · exact ih i hi
            · exact h
        · exact .inl ⟨m + 1, Nat.le_refl _, h, ih⟩
  rcases this 600 with ⟨k, h1, h2, h3⟩ | h
  · have hk := ticks_le hr hl k h3
    have e := smoT_is hk h2 h3
    rw [e]; exact ⟨h2, h3⟩
  · have := ticks_le hr hl 601 h
    omega

/-- Sums of the first loads, and of rows of them less what the rate brings. -/
def ps (l : List Int) : Nat → Int
  | 0 => 0
  | k + 1 => ps l k + lg l k
def seg (r : Int) (l : List Int) (i k : Nat) : Int := ps l (k + 1) - ps l i - r * ((k : Int) - (i : Int))
theorem ps_bd {l : List Int} (hl : okL l = true) : ∀ k, 0 ≤ ps l k ∧ ps l k ≤ 30 * k
  | 0 => ⟨Int.le_refl _, by simp [ps]⟩
  | k + 1 => by
    have := ps_bd hl k
    have := lg_bd hl k
    unfold ps; omega
theorem ps_mono {l : List Int} (hl : okL l = true) (i k : Nat) (h : i ≤ k) : ps l i ≤ ps l k := by
  induction k with
  | zero => obtain rfl : i = 0 := by omega
            exact Int.le_refl _
  | succ k ih =>
    rcases (show i ≤ k ∨ i = k + 1 from by omega) with h | rfl
    · have := ih h; have := lg_bd hl k; show ps l i ≤ ps l k + lg l k; omega
    · exact Int.le_refl _
theorem seg_same (r : Int) (l : List Int) (k : Nat) : seg r l k k = lg l k := by
  unfold seg
  rw [Int.sub_self, Int.mul_zero]
  show ps l k + lg l k - ps l k - 0 = lg l k
  omega
theorem seg_succ (r : Int) (l : List Int) (i k : Nat) : seg r l i (k + 1) = seg r l i k - r + lg l (k + 1) := by
  unfold seg
  have e : ((k + 1 : Nat) : Int) - (i : Int) = ((k : Int) - (i : Int)) + 1 := by omega
  rw [e, Int.mul_add, Int.mul_one]
  show ps l (k + 1) + lg l (k + 1) - ps l i - _ = _
  omega
theorem seg_le (r : Int) (l : List Int) : ∀ k i, i ≤ k → seg r l i k ≤ vv r l (k + 1)
  | 0, i, h => by
    obtain rfl : i = 0 := by omega
    rw [seg_same]; show lg l 0 ≤ max (vv r l 0 - r) 0 + lg l 0; omega
  | k + 1, i, h => by
    rcases (show i ≤ k ∨ i = k + 1 from by omega) with h | rfl
    · have := seg_le r l k i h
      rw [seg_succ]
      show _ ≤ max (vv r l (k + 1) - r) 0 + lg l (k + 1)
      omega
    · rw [seg_same]
      show _ ≤ max (vv r l (k + 1) - r) 0 + lg l (k + 1)
      omega
theorem seg_is (r : Int) (l : List Int) (hr : 0 ≤ r) : ∀ k, ∃ i, i ≤ k ∧ vv r l (k + 1) = seg r l i k
  | 0 => ⟨0, Nat.le_refl _, by
      rw [seg_same]
      show max ((0 : Int) - r) 0 + lg l 0 = lg l 0
      omega⟩
  | k + 1 => by
    obtain ⟨i, hi, h⟩ := seg_is r l hr k
    by_cases hv : r ≤ vv r l (k + 1)
    · refine ⟨i, by omega, ?_⟩
      rw [seg_succ, ← h]
      show max (vv r l (k + 1) - r) 0 + lg l (k + 1) = _
      omega
    · refine ⟨k + 1, Nat.le_refl _, ?_⟩
      rw [seg_same]
      show max (vv r l (k + 1) - r) 0 + lg l (k + 1) = _
      omega
/-- The greatest row of loads. -/
def dv (r : Int) (l : List Int) : Nat → Int
  | 0 => 0
  | k + 1 => max (dv r l k) (vv r l (k + 1))
theorem dv_le (r : Int) (l : List Int) : ∀ n j, j < n → vv r l (j + 1) ≤ dv r l n
  | 0, j, h => absurd h (by omega)
  | n + 1, j, h => by
    rcases (show j < n ∨ j = n from by omega) with h | rfl
    · have := dv_le r l n j h; show _ ≤ max (dv r l n) (vv r l (n + 1)); omega
    · show _ ≤ max (dv r l j) (vv r l (j + 1)); omega
theorem dv_nonneg (r : Int) (l : List Int) : ∀ n, 0 ≤ dv r l n
  | 0 => Int.le_refl _
  | n + 1 => by have := dv_nonneg r l n; unfold dv; omega
theorem dv_is (r : Int) (l : List Int) : ∀ n, dv r l n = 0 ∨ ∃ j, j < n ∧ dv r l n = vv r l (j + 1)
  | 0 => .inl rfl
  | n + 1 => by
    rcases Int.le_total (dv r l n) (vv r l (n + 1)) with h | h
    · exact .inr ⟨n, by omega, by show max (dv r l n) (vv r l (n + 1)) = _; omega⟩
    · have e : dv r l (n + 1) = dv r l n := by show max (dv r l n) (vv r l (n + 1)) = _; omega
      rw [e]
      rcases dv_is r l n with h1 | ⟨j, hj, h1⟩
      · exact .inl h1
      · exact .inr ⟨j, by omega, h1⟩
/-- What is at least each row and at most the greatest one is the greatest one. -/
theorem dv_eq {r : Int} {l : List Int} {n : Nat} {x : Int} (hr : 0 ≤ r) (h0 : 0 ≤ x) (h1 : x ≤ dv r l n) (h2 : ∀ i k, i ≤ k → k < n → seg r l i k ≤ x) : x = dv r l n := by
  rcases dv_is r l n with h | ⟨j, hj, h⟩
  · omega
  · obtain ⟨i, hi, h3⟩ := seg_is r l hr j
    have := h2 i j hi hj
    omega
theorem fit_dv {r : Int} {l : List Int} (d : Nat) (hr : 0 ≤ r) : fitB r d l = true ↔ dv r l l.length ≤ d := by
  rw [fitB_iff hr (by omega)]
  constructor
  · intro h
    rcases dv_is r l l.length with h1 | ⟨j, hj, h1⟩
    · omega
    · rw [h1]; exact h j hj
  · intro h j hj
    have := dv_le r l l.length j hj
    omega
/-- DepthFor is the greatest row of loads. -/
theorem dep_some {r : Int} {l : List Int} {d : Nat} (hr : 0 ≤ r) (h : depFrom r l 201 0 = some d) : (d : Int) = dv r l l.length ∧ d ≤ 200 := by
  obtain ⟨h1, _, h3, h4⟩ := depFrom_some 201 0 d h
  have h5 := (fit_dv d hr).1 h1
  have h6 := dv_nonneg r l l.length
  refine ⟨?_, by omega⟩
  rcases Int.lt_or_le (dv r l l.length) d with hlt | hle
  · have := h4 (dv r l l.length).toNat (by omega) (by omega)
    have h7 := (fit_dv (r := r) (l := l) (dv r l l.length).toNat hr).2 (by omega)
    rw [show (((dv r l l.length).toNat : Nat) : Int) = dv r l l.length from by omega] at this h7
    rw [h7] at this
    cases this
  · omega
theorem dep_none {r : Int} {l : List Int} (hr : 0 ≤ r) (h : depFrom r l 201 0 = none) : 200 < dv r l l.length := by
  have h1 := depFrom_none 201 0 h 200 (by omega) (by omega)
  rcases Int.lt_or_le 200 (dv r l l.length) with h2 | h2
  · exact h2
  · have := (fit_dv (r := r) (l := l) 200 hr).2 (by omega)
    rw [this] at h1; cases h1

/-- What waits is the depth less the rate. -/
theorem lf_vv {r : Int} {l : List Int} (hr : 0 ≤ r) : ∀ k, lf r l k = max (vv r l k - r) 0
  | 0 => by show (0 : Int) = max (0 - r) 0; omega
  | k + 1 => by
    have := lf_vv (l := l) hr k
    show lf r l k + lg l k - min (lf r l k + lg l k) r = max (max (vv r l k - r) 0 + lg l k - r) 0
    omega
theorem ms_dv {r : Int} {l : List Int} (hr : 0 ≤ r) : ∀ k, ms r l k = max (dv r l k - r) 0
  | 0 => by show (0 : Int) = max (0 - r) 0; omega
  | k + 1 => by
    have h1 := ms_dv (l := l) hr k
    have h2 := lf_vv (l := l) hr (k + 1)
    show max (ms r l k) (lf r l (k + 1)) = max (max (dv r l k) (vv r l (k + 1)) - r) 0
    omega
theorem vv_nonneg {r : Int} {l : List Int} (hl : okL l = true) : ∀ k, 0 ≤ vv r l k
  | 0 => Int.le_refl _
  | k + 1 => by have := lg_bd hl k; show 0 ≤ max (vv r l k - r) 0 + lg l k; omega
theorem dv_past {r : Int} {l : List Int} (hr : 0 ≤ r) (hl : okL l = true) (j : Nat) : dv r l (l.length + j) = dv r l l.length ∧ vv r l (l.length + j) ≤ dv r l l.length := by
  induction j with
  | zero =>
    refine ⟨rfl, ?_⟩
    cases hn : l.length with
    | zero => show (0 : Int) ≤ 0; omega
    | succ n => show vv r l (n + 1) ≤ dv r l (n + 1); exact dv_le r l (n + 1) n (by omega)
  | succ j ih =>
    obtain ⟨h1, h2⟩ := ih
    have h3 : lg l (l.length + j) = 0 := lg_past (by omega)
    have h4 : vv r l (l.length + (j + 1)) = max (vv r l (l.length + j) - r) 0 := by
      show max (vv r l (l.length + j) - r) 0 + lg l (l.length + j) = _
      rw [h3]; omega
    have h5 : dv r l (l.length + (j + 1)) = max (dv r l (l.length + j)) (vv r l (l.length + (j + 1))) := rfl
    have h6 := dv_nonneg r l l.length
    constructor
    · rw [h5, h4, h1]; omega
    · rw [h4]; omega
theorem stop_len {r : Int} {l : List Int} {k : Nat} (h : stopB r l k = true) : l.length ≤ k ∧ lf r l k = 0 := by
  simpa [stopB] using h
theorem smo_most {r : Int} {l : List Int} (hr : 1 ≤ r) (hl : okL l = true) : ms r l (smoT r l) = max (dv r l l.length - r) 0 := by
  obtain ⟨h1, _⟩ := stopAt_stops hr hl
  obtain ⟨h2, _⟩ := stop_len h1
  obtain ⟨j, hj⟩ : ∃ j, smoT r l = l.length + j := ⟨smoT r l - l.length, by omega⟩
  rw [ms_dv (by omega), hj, (dv_past (by omega) hl j).1]
theorem sum_ps (l : List Int) : ∀ k, k ≤ l.length → sumI (l.take k) = ps l k
  | 0, _ => rfl
  | k + 1, h => by
    have := sum_ps l k (by omega)
    rw [List.take_add_one, List.getElem?_eq_getElem (by omega : k < l.length), sumI_app, this]
    show ps l k + sumI [l[k]] = ps l k + lg l k
    unfold lg
    rw [List.getD_eq_getElem?_getD, List.getElem?_eq_getElem (by omega : k < l.length)]
    simp [sumI]
theorem ps_past (l : List Int) (j : Nat) : ps l (l.length + j) = ps l l.length := by
  induction j with
  | zero => rfl
  | succ j ih =>
    show ps l (l.length + j) + lg l (l.length + j) = _
    rw [ih, lg_past (by omega)]; omega
theorem smL_sum (r : Int) (l : List Int) : ∀ k, sumI (smL r l k) + lf r l k = ps l k
  | 0 => rfl
  | k + 1 => by
    have := smL_sum r l k
    rw [smL_succ, sumI_app, lf_succ]
    show sumI (smL r l k) + sumI [sm r l k] + _ = ps l k + lg l k
    simp only [sumI, List.foldr] at this ⊢
    omega
/-- All loads leave. -/
theorem smo_sum {r : Int} {l : List Int} (hr : 1 ≤ r) (hl : okL l = true) : sumI (smL r l (smoT r l)) = sumI l ∧ l.length ≤ smoT r l := by
  obtain ⟨h1, _⟩ := stopAt_stops hr hl
  obtain ⟨h2, h3⟩ := stop_len h1
  obtain ⟨j, hj⟩ : ∃ j, smoT r l = l.length + j := ⟨smoT r l - l.length, by omega⟩
  refine ⟨?_, h2⟩
  have e := smL_sum r l (smoT r l)
  rw [h3] at e
  have e2 := sum_ps l l.length (Nat.le_refl _)
  rw [List.take_length] at e2
  rw [e2, ← ps_past l j, ← hj]
  omega
end Go.Proofs.Ytdnmoedpajkebaa
