/-
  The plain mathematics of numbers by seven bits: no program is named here. No condition.
-/
import Init
namespace Go.Proofs.YthogkhifgkgplaaDoor
set_option linter.unusedVariables false

/-- The groups of a number. -/
def gr (n : Nat) : List Int := if n < 128 then [(n : Int)] else (128 + (n : Int) % 128) :: gr (n / 128)
termination_by n
theorem gr_one {n : Nat} (h : n < 128) : gr n = [(n : Int)] := by rw [gr, if_pos h]
theorem gr_more {n : Nat} (h : ¬ n < 128) : gr n = (128 + (n : Int) % 128) :: gr (n / 128) := by rw [gr, if_neg h]
theorem gr_pos (n : Nat) : 0 < (gr n).length := by
  by_cases h : n < 128
  · rw [gr_one h]; simp
  · rw [gr_more h]; simp
theorem gr_len3 {n : Nat} (h : n < 2097152) : (gr n).length ≤ 3 := by
  by_cases h1 : n < 128
  · rw [gr_one h1]; simp
  · rw [gr_more h1, List.length_cons]
    by_cases h2 : n / 128 < 128
    · rw [gr_one h2]; simp
    · rw [gr_more h2, List.length_cons, gr_one (by omega)]; simp
/-- A byte. -/
def by8 (x : Int) : Bool := decide (0 ≤ x) && decide (x ≤ 255)
theorem gr_bytes (n : Nat) : (gr n).all by8 = true := by
  induction n using Nat.strongRecOn with
  | _ n ih =>
    by_cases h : n < 128
    · rw [gr_one h]; simp [by8]; omega
    · rw [gr_more h, List.all_cons, ih _ (by omega)]
      simp [by8]; omega

/-- The number of groups. -/
def jg : List Int → Int
  | [] => 0
  | b :: r => jg r * 128 + b.tmod 128
theorem tmod_bd (b : Int) : -127 ≤ b.tmod 128 ∧ b.tmod 128 ≤ 127 := by
  have := Int.tmod_lt_of_pos b (b := 128) (by omega)
  have h2 := Int.tmod_lt_of_pos (-b) (b := 128) (by omega)
  rw [Int.neg_tmod] at h2
  omega
theorem jg_bd : ∀ (l : List Int), -(128 ^ l.length : Nat) < jg l ∧ jg l < (128 ^ l.length : Nat)
  | [] => by simp [jg]
  | b :: r => by
    have ⟨h1, h2⟩ := jg_bd r
    have ⟨h3, h4⟩ := tmod_bd b
    show -((128 ^ (r.length + 1) : Nat) : Int) < jg r * 128 + b.tmod 128 ∧ jg r * 128 + b.tmod 128 < ((128 ^ (r.length + 1) : Nat) : Int)
    rw [Nat.pow_succ]
    omega
/-- How many of the first ones have another one behind them. -/
def tk : List Int → Nat
  | [] => 0
  | b :: r => if 128 ≤ b then tk r + 1 else 0
theorem tk_le : ∀ l : List Int, tk l ≤ l.length
  | [] => Nat.le_refl _
  | b :: r => by
    have := tk_le r
    unfold tk; split <;> simp <;> omega
theorem tk_lt {l : List Int} {j : Nat} (h : j < tk l) : 128 ≤ l.getD j 0 := by
  induction l generalizing j with
  | nil => simp [tk] at h
  | cons b r ih =>
    unfold tk at h
    split at h <;> rename_i hb
    · cases j with
      | zero => simpa using hb
      | succ j => simpa using ih (by omega)
    · omega
theorem tk_end {l : List Int} (h : tk l < l.length) : l.getD (tk l) 0 < 128 := by
  induction l with
  | nil => simp at h
  | cons b r ih =>
    unfold tk at h ⊢
    split at h <;> rename_i hb
    · rw [if_pos hb]
      simpa using ih (by simpa using h)
    · rw [if_neg hb]
      simpa using hb
theorem tk_eq {l : List Int} {k : Nat} (hk : k ≤ l.length) (h : ∀ j, j < k → 128 ≤ l.getD j 0) (he : k < l.length → l.getD k 0 < 128) : tk l = k := by
  have h1 := tk_le l
  rcases Nat.lt_trichotomy (tk l) k with h2 | h2 | h2
  · have := tk_end (l := l) (by omega)
    have := h _ h2
    omega
  · exact h2
  · have := tk_lt h2
    have := he (by omega)
    omega
/-- The number of the groups at the beginning, and how many they are. -/
def nf (l : List Int) : Option (Nat × Nat) :=
  if tk l < l.length ∧ tk l < 4 ∧ 0 ≤ jg (l.take (tk l + 1)) ∧ jg (l.take (tk l + 1)) ≤ 1000000 ∧ l.take (tk l + 1) = gr (jg (l.take (tk l + 1))).toNat
  then some ((jg (l.take (tk l + 1))).toNat, tk l + 1) else none
theorem nf_some {l : List Int} {x n : Nat} (h : nf l = some (x, n)) : l.take n = gr x ∧ x ≤ 1000000 ∧ n ≤ l.length ∧ n = (gr x).length ∧ tk l + 1 = n := by
  unfold nf at h
  split at h <;> rename_i hc
  · simp only [Option.some.injEq, Prod.mk.injEq] at h
    obtain ⟨rfl, rfl⟩ := h
    obtain ⟨h1, h2, h3, h4, h5⟩ := hc
    refine ⟨h5, by omega, by omega, ?_, rfl⟩
    rw [← h5, List.length_take]; omega
  · cases h
theorem jg_gr (n : Nat) : jg (gr n) = n := by
  induction n using Nat.strongRecOn with
  | _ n ih =>
    by_cases h : n < 128
    · rw [gr_one h]
      show (0 : Int) * 128 + (n : Int).tmod 128 = n
      rw [Int.tmod_eq_emod_of_nonneg (by omega)]; omega
    · rw [gr_more h]
      show jg (gr (n / 128)) * 128 + (128 + (n : Int) % 128).tmod 128 = n
      rw [ih _ (by omega), Int.tmod_eq_emod_of_nonneg (by omega)]
      omega
theorem tk_gr (n : Nat) (r : List Int) : tk (gr n ++ r) + 1 = (gr n).length := by
  induction n using Nat.strongRecOn with
  | _ n ih =>
    by_cases h : n < 128
    · rw [gr_one h]
      show (if (128 : Int) ≤ (n : Int) then tk ([] ++ r) + 1 else 0) + 1 = 1
      rw [if_neg (by omega)]
    · rw [gr_more h, List.cons_append]
      show (if (128 : Int) ≤ 128 + (n : Int) % 128 then tk (gr (n / 128) ++ r) + 1 else 0) + 1 = (gr (n / 128)).length + 1
      rw [if_pos (by omega), ih _ (by omega)]
theorem nf_gr {n : Nat} (h : n ≤ 1000000) (r : List Int) : nf (gr n ++ r) = some (n, (gr n).length) := by
  have h1 := tk_gr n r
  have h2 := gr_len3 (n := n) (by omega)
  have h3 := gr_pos n
  have e : (gr n ++ r).take (tk (gr n ++ r) + 1) = gr n := by rw [h1, List.take_left]
  unfold nf
  rw [e, jg_gr, h1, Int.toNat_natCast, if_pos ⟨by rw [List.length_append]; omega, by omega, by omega, by omega, rfl⟩]

/-! ### how the model reads them -/
/-- Reads on from byte i on, with the number so far and the unit. -/
def rd : List Int → Nat → Int → Int → Option (Int × Nat)
  | [], _, _, _ => none
  | b :: r, i, x, u =>
    if 4 ≤ i then none
    else if b < 128 then (if (0 < i ∧ b = 0) ∨ 1000000 < x + b.tmod 128 * u then none else some (x + b.tmod 128 * u, i + 1))
    else rd r (i + 1) (x + b.tmod 128 * u) (128 * u)
/-- Groups of which the last one counts are their number's. -/
theorem gr_jg : ∀ (l : List Int), l.all by8 = true → tk l + 1 = l.length → (1 < l.length → l.getD (tk l) 0 ≠ 0) → 0 ≤ jg l ∧ gr (jg l).toNat = l ∧ (l.getD (tk l) 0 ≠ 0 → 0 < jg l)
  | [], _, h, _ => by simp [tk] at h
  | b :: r, hb, ht, hz => by
    rw [List.all_cons, Bool.and_eq_true] at hb
    obtain ⟨hb1, hb2⟩ := hb
    simp only [by8, Bool.and_eq_true, decide_eq_true_eq] at hb1
    have ht0 := ht
    unfold tk at ht
    split at ht <;> rename_i hc
    · have hr : tk r + 1 = r.length := by simpa using ht
      have e : (b :: r).getD (tk (b :: r)) 0 = r.getD (tk r) 0 := by
        show (b :: r).getD (if 128 ≤ b then tk r + 1 else 0) 0 = _
        rw [if_pos hc]; simp
      rw [e] at hz ⊢
      have hz' : r.getD (tk r) 0 ≠ 0 := hz (by simp; omega)
      obtain ⟨i1, i2, i3⟩ := gr_jg r hb2 hr (fun _ => hz')
      have i4 := i3 hz'
      have e2 : jg (b :: r) = jg r * 128 + (b - 128) := by
        show jg r * 128 + b.tmod 128 = _
        rw [Int.tmod_eq_emod_of_nonneg (by omega)]; omega
      rw [e2]
      refine ⟨by omega, ?_, fun _ => by omega⟩
      rw [gr_more (by omega)]
      have e3 : (jg r * 128 + (b - 128)).toNat / 128 = (jg r).toNat := by omega
      rw [e3, i2]
      congr 1
      omega
    · have hr : r = [] := List.eq_nil_of_length_eq_zero (by simpa using ht.symm)
      subst hr
      have e2 : jg [b] = b := by
        show (0 : Int) * 128 + b.tmod 128 = b
        rw [Int.tmod_eq_emod_of_nonneg (by omega)]; omega
      have e : [b].getD (tk [b]) 0 = b := by
        show [b].getD (if 128 ≤ b then 0 + 1 else 0) 0 = _
        rw [if_neg hc]; simp
      rw [e2, e]
      refine ⟨by omega, ?_, fun h => by omega⟩
      rw [gr_one (by omega)]
      congr 1
      omega
theorem gr_last {n : Nat} (h : 1 < (gr n).length) : (gr n).getD ((gr n).length - 1) 0 ≠ 0 := by
  induction n using Nat.strongRecOn with
  | _ n ih =>
    by_cases h1 : n < 128
    · rw [gr_one h1] at h; simp at h
    · rw [gr_more h1]
      have hp := gr_pos (n / 128)
      have e : ((128 + (n : Int) % 128) :: gr (n / 128)).getD (((128 + (n : Int) % 128) :: gr (n / 128)).length - 1) 0 = (gr (n / 128)).getD ((gr (n / 128)).length - 1) 0 := by
        rw [List.length_cons, Nat.add_sub_cancel]
        obtain ⟨k, hk⟩ : ∃ k, (gr (n / 128)).length = k + 1 := ⟨(gr (n / 128)).length - 1, by omega⟩
        rw [hk]; simp
      rw [e]
      by_cases h2 : 1 < (gr (n / 128)).length
      · exact ih _ (by omega) h2
      · by_cases h3 : n / 128 < 128
        · rw [gr_one h3]
          simp
          omega
        · rw [gr_more h3, List.length_cons] at h2
          have := gr_pos (n / 128 / 128)
          omega
theorem rd_gen : ∀ (l : List Int) (i : Nat) (x u : Int), l.all by8 = true → 0 ≤ u →
    rd l i x u = if tk l < l.length ∧ tk l + i < 4 ∧ ¬ (0 < tk l + i ∧ l.getD (tk l) 0 = 0) ∧ x + jg (l.take (tk l + 1)) * u ≤ 1000000 then some (x + jg (l.take (tk l + 1)) * u, tk l + 1 + i) else none
  | [], i, x, u, _, _ => by
    show none = if tk [] < ([] : List Int).length ∧ _ then _ else none
    rw [if_neg (by simp)]
  | b :: r, i, x, u, hb, hu => by
    rw [List.all_cons, Bool.and_eq_true] at hb
    obtain ⟨hb1, hb2⟩ := hb
    simp only [by8, Bool.and_eq_true, decide_eq_true_eq] at hb1
    show (if 4 ≤ i then none else if b < 128 then (if (0 < i ∧ b = 0) ∨ 1000000 < x + b.tmod 128 * u then none else some (x + b.tmod 128 * u, i + 1)) else rd r (i + 1) (x + b.tmod 128 * u) (128 * u)) = _
    by_cases h4 : 4 ≤ i
    · rw [if_pos h4, if_neg (by omega)]
    rw [if_neg h4]
    by_cases hc : b < 128
    · have e : tk (b :: r) = 0 := by unfold tk; rw [if_neg (by omega)]
      have e2 : jg ((b :: r).take (0 + 1)) = b.tmod 128 := by
        show (0 : Int) * 128 + b.tmod 128 = _
        omega
      rw [if_pos hc, e, e2]
      have e3 : (b :: r).getD 0 0 = b := rfl
      rw [e3]
      by_cases hh : (0 < i ∧ b = 0) ∨ 1000000 < x + b.tmod 128 * u
      · rw [if_pos hh, if_neg (by
          rintro ⟨h1, h2, h3, h5⟩
          rcases hh with hh | hh
          · exact h3 ⟨by omega, hh.2⟩
          · omega)]
      · rw [if_neg hh, if_pos ⟨by simp, by omega, fun h => hh (.inl ⟨by omega, h.2⟩), by omega⟩]
        congr 2; omega
    · have e : tk (b :: r) = tk r + 1 := by
        show (if 128 ≤ b then tk r + 1 else 0) = _
        rw [if_pos (by omega)]
      have e2 : jg ((b :: r).take (tk r + 1 + 1)) = jg (r.take (tk r + 1)) * 128 + b.tmod 128 := rfl
      have e3 : (b :: r).getD (tk r + 1) 0 = r.getD (tk r) 0 := by simp
      have e4 : x + b.tmod 128 * u + jg (r.take (tk r + 1)) * (128 * u) = x + (jg (r.take (tk r + 1)) * 128 + b.tmod 128) * u := by
        rw [Int.add_mul, Int.mul_assoc]; omega
      rw [if_neg hc, rd_gen r (i + 1) _ _ hb2 (by omega), e, e2, e3, e4]
      by_cases hh : tk r < r.length ∧ tk r + (i + 1) < 4 ∧ ¬ (0 < tk r + (i + 1) ∧ r.getD (tk r) 0 = 0) ∧ x + (jg (r.take (tk r + 1)) * 128 + b.tmod 128) * u ≤ 1000000
      · rw [if_pos hh, if_pos ⟨by simp; omega, by omega, fun h => hh.2.2.1 ⟨by omega, h.2⟩, hh.2.2.2⟩]
        congr 2; omega
      · rw [if_neg hh, if_neg (fun h => hh ⟨by simpa using h.1, by omega, fun h' => h.2.2.1 ⟨by omega, h'.2⟩, h.2.2.2⟩)]
theorem all_takeG {l : List Int} {p : Int → Bool} (h : l.all p = true) (k : Nat) : (l.take k).all p = true := by
  rw [List.all_eq_true] at *
  exact fun x hx => h x (List.mem_of_mem_take hx)
theorem tk_take (l : List Int) : tk (l.take (tk l + 1)) = tk l := by
  have h1 := tk_le l
  refine tk_eq (by rw [List.length_take]; omega) (fun j hj => ?_) (fun hk => ?_)
  · have := tk_lt hj
    rwa [List.getD_eq_getElem?_getD, List.getElem?_take_of_lt (by omega), ← List.getD_eq_getElem?_getD]
  · rw [List.length_take] at hk
    have := tk_end (l := l) (by omega)
    rwa [List.getD_eq_getElem?_getD, List.getElem?_take_of_lt (by omega), ← List.getD_eq_getElem?_getD]
/-- The model reads what the program reads. -/
theorem rd_nf (l : List Int) (h : l.all by8 = true) : rd l 0 0 1 = (nf l).map fun p => ((p.1 : Int), p.2) := by
  rw [rd_gen l 0 0 1 h (by omega)]
  have hG := gr_jg (l.take (tk l + 1)) (all_takeG h _)
  have hT := tk_take l
  rw [hT] at hG
  have hget : (l.take (tk l + 1)).getD (tk l) 0 = l.getD (tk l) 0 := by
    rw [List.getD_eq_getElem?_getD, List.getElem?_take_of_lt (by omega), ← List.getD_eq_getElem?_getD]
  rw [hget] at hG
  unfold nf
  rw [Int.mul_one, Int.zero_add, Nat.add_zero, Nat.add_zero]
  by_cases hl : tk l < l.length
  · have hlen : (l.take (tk l + 1)).length = tk l + 1 := by rw [List.length_take]; omega
    rw [hlen] at hG
    by_cases hz : 0 < tk l ∧ l.getD (tk l) 0 = 0
    · rw [if_neg (fun h => h.2.2.1 hz), if_neg]
      · rfl
      · rintro ⟨_, _, _, _, h5⟩
        have hl2 : (gr (jg (l.take (tk l + 1))).toNat).length = tk l + 1 := by rw [← h5, hlen]
        have := gr_last (n := (jg (l.take (tk l + 1))).toNat) (by omega)
        rw [hl2, ← h5, Nat.add_sub_cancel, hget] at this
        exact this hz.2
    · obtain ⟨g1, g2, _⟩ := hG rfl (fun h h2 => hz ⟨by omega, h2⟩)
      by_cases hh : tk l < 4 ∧ jg (l.take (tk l + 1)) ≤ 1000000
      · rw [if_pos ⟨hl, hh.1, hz, hh.2⟩, if_pos ⟨hl, hh.1, g1, hh.2, g2.symm⟩]
        simp only [Option.map_some]
        congr 2; omega
      · rw [if_neg (fun h => hh ⟨h.2.1, h.2.2.2⟩), if_neg (fun h => hh ⟨h.2.1, h.2.2.2.1⟩)]
        rfl
  · rw [if_neg (fun h => hl h.1), if_neg (fun h => hl h.1)]
    rfl
end Go.Proofs.YthogkhifgkgplaaDoor
