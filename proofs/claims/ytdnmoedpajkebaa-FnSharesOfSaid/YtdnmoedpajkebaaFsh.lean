/-
  Plain facts on shares. No condition.
-/
import Derived.Test.YtdnmoedpajkebaaFbk
namespace Go.Proofs.Ytdnmoedpajkebaa
set_option linter.unusedVariables false

def sumI (l : List Int) : Int := l.foldr (· + ·) 0
theorem sumI_nil : sumI [] = 0 := rfl
theorem sumI_cons (x : Int) (l : List Int) : sumI (x :: l) = x + sumI l := rfl
theorem sumI_app (a b : List Int) : sumI (a ++ b) = sumI a + sumI b := by
  induction a with
  | nil => simp [sumI]
  | cons x a ih => rw [List.cons_append, sumI_cons, sumI_cons, ih]; omega
theorem sumI_perm {a b : List Int} (h : a.Perm b) : sumI a = sumI b := by
  induction h with
  | nil => rfl
  | cons x _ ih => rw [sumI_cons, sumI_cons, ih]
  | swap x y l => simp only [sumI_cons]; omega
  | trans _ _ i1 i2 => exact i1.trans i2
def sumMin (c : Int) (l : List Int) : Int := sumI (l.map fun x => min x c)
def cntM (c : Int) (l : List Int) : Nat := (l.filter fun x => decide (c < x)).length
theorem sumMin_perm {a b : List Int} (c : Int) (h : a.Perm b) : sumMin c a = sumMin c b := sumI_perm (h.map _)
theorem sumMin_mono {c d : Int} (h : c ≤ d) : ∀ l, sumMin c l ≤ sumMin d l
  | [] => Int.le_refl _
  | x :: l => by
    have := sumMin_mono h l
    simp only [sumMin, List.map_cons, sumI_cons] at this ⊢
    omega
theorem sumMin_succ (c : Int) : ∀ l, sumMin (c + 1) l = sumMin c l + (cntM c l : Int)
  | [] => rfl
  | x :: l => by
    have := sumMin_succ c l
    simp only [sumMin, List.map_cons, sumI_cons, cntM, List.filter_cons] at this ⊢
    by_cases hx : c < x
    · rw [if_pos (by simpa using hx), List.length_cons]; omega
    · rw [if_neg (by simpa using hx)]; omega
theorem sumMin_all {c : Int} : ∀ l : List Int, (∀ x ∈ l, x ≤ c) → sumMin c l = sumI l
  | [], _ => rfl
  | x :: l, h => by
    have := sumMin_all l (fun y hy => h y (List.mem_cons_of_mem _ hy))
    have := h x List.mem_cons_self
    simp only [sumMin, List.map_cons, sumI_cons] at *
    omega
theorem sumMin_zero : ∀ l : List Int, (∀ x ∈ l, 0 ≤ x) → sumMin 0 l = 0
  | [], _ => rfl
  | x :: l, h => by
    have := sumMin_zero l (fun y hy => h y (List.mem_cons_of_mem _ hy))
    have := h x List.mem_cons_self
    simp only [sumMin, List.map_cons, sumI_cons] at *
    omega
theorem cntM_zero {c : Int} {l : List Int} (h : ∀ x ∈ l, x ≤ c) : cntM c l = 0 := by
  have : (l.filter fun x => decide (c < x)) = [] := by
    rw [List.filter_eq_nil_iff]; intro x hx; have := h x hx; simp; omega
  simp [cntM, this]

/-- A cap that is fair for the room. -/
def Fair (room c : Int) (l : List Int) : Prop := 0 ≤ c ∧ sumMin c l ≤ room ∧ ((∀ x ∈ l, x ≤ c) ∨ room < sumMin (c + 1) l)
theorem Fair.uniq {room c d : Int} {l : List Int} (h1 : Fair room c l) (h2 : Fair room d l) : (l.map fun x => min x c) = l.map fun x => min x d := by
  have key : ∀ {c d : Int}, Fair room c l → Fair room d l → c ≤ d → (l.map fun x => min x c) = l.map fun x => min x d := by
    intro c d h1 h2 hcd
    obtain ⟨_, _, h3⟩ := h1
    rcases h3 with h3 | h3
    · apply List.map_congr_left
      intro x hx
      have := h3 x hx
      show min x c = min x d
      omega
    · rcases (show c = d ∨ c + 1 ≤ d from by omega) with rfl | h
      · rfl
      · have := sumMin_mono h l
        have := h2.2.1
        omega
  rcases Int.le_total c d with h | h
  · exact key h1 h2 h
  · exact (key h2 h1 h).symm
theorem Fair.perm {room c : Int} {a b : List Int} (h : Fair room c a) (hp : a.Perm b) : Fair room c b := by
  obtain ⟨h0, h1, h2⟩ := h
  refine ⟨h0, by rw [← sumMin_perm c hp]; exact h1, ?_⟩
  rcases h2 with h2 | h2
  · exact .inl fun x hx => h2 x (hp.mem_iff.2 hx)
  · exact .inr (by rw [← sumMin_perm (c + 1) hp]; exact h2)
/-- The greatest cap up to n that the room bears. -/
def capN (room : Int) (l : List Int) : Nat → Int
  | 0 => 0
  | n + 1 => if sumMin ((n : Int) + 1) l ≤ room then (n : Int) + 1 else capN room l n
theorem capN_le (room : Int) (l : List Int) : ∀ n, 0 ≤ capN room l n ∧ capN room l n ≤ n
  | 0 => ⟨Int.le_refl _, by simp [capN]⟩
  | n + 1 => by
    have := capN_le room l n
    unfold capN; split <;> omega
theorem capN_fits {room : Int} {l : List Int} (h0 : sumMin 0 l ≤ room) : ∀ n, sumMin (capN room l n) l ≤ room
  | 0 => h0
  | n + 1 => by
    unfold capN; split
    · assumption
    · exact capN_fits h0 n
theorem capN_last {room : Int} {l : List Int} : ∀ n, capN room l n = n ∨ room < sumMin (capN room l n + 1) l
  | 0 => .inl rfl
  | n + 1 => by
    unfold capN; split
    · exact .inl (by omega)
    · rename_i h
      rcases capN_last (room := room) (l := l) n with h1 | h1
      · rw [h1]; exact .inr (by omega)
      · exact .inr h1
theorem load_of {l : List Int} (h : okL l = true) : ∀ x ∈ l, 0 ≤ x ∧ x ≤ 30 := by
  intro x hx
  simp only [okL, Bool.and_eq_true] at h
  have := List.all_eq_true.1 h.1 x hx
  simpa [isLoad] using this
theorem cap_fair {room : Int} {l : List Int} (hr : 0 ≤ room) (hl : okL l = true) : Fair room (capN room l 30) l := by
  have h30 := load_of hl
  have hz := sumMin_zero l (fun x hx => (h30 x hx).1)
  refine ⟨(capN_le room l 30).1, capN_fits (by omega) 30, ?_⟩
  rcases capN_last (room := room) (l := l) 30 with h | h
  · exact .inl fun x hx => by have := (h30 x hx).2; rw [h]; exact this
  · exact .inr h
def roomB (room : Int) : Bool := decide (0 ≤ room) && decide (room ≤ 200)
def shaB (room : Int) (l : List Int) : Bool := roomB room && okL l
/-- What SharesOf answers. -/
def shaR (room : Int) (l : List Int) : List Int := if shaB room l = true then l.map fun x => min x (capN room l 30) else []
theorem shaR_len (room : Int) (l : List Int) : (shaR room l).length ≤ 16 := by
  unfold shaR
  cases h : shaB room l
  · simp
  · rw [if_pos rfl, List.length_map]
    simp only [shaB, Bool.and_eq_true] at h
    exact okL_len h.2
theorem shaR_bad {room : Int} {l : List Int} (h : shaB room l = false) : shaR room l = [] := by simp [shaR, h]
theorem shaB_parts {room : Int} {l : List Int} (h : shaB room l = true) : (0 ≤ room ∧ room ≤ 200) ∧ okL l = true := by
  simpa only [shaB, roomB, Bool.and_eq_true, decide_eq_true_eq] using h
theorem shaR_fair {room c : Int} {l : List Int} (h : shaB room l = true) (hf : Fair room c l) : (l.map fun x => min x c) = shaR room l := by
  obtain ⟨hr, hl⟩ := shaB_parts h
  rw [shaR, if_pos h]
  exact hf.uniq (cap_fair hr.1 hl)

/-- A sorted list of which the first k are taken out, and the others are above the share. -/
theorem sumMin_split (c : Int) : ∀ (s : List Int) (k : Nat), k ≤ s.length → (∀ x ∈ s.take k, x ≤ c) → (∀ x ∈ s.drop k, c ≤ x) → sumMin c s = sumI (s.take k) + ((s.length - k : Nat) : Int) * c := by
  intro s k hk h1 h2
  have e : s = s.take k ++ s.drop k := (List.take_append_drop k s).symm
  have e2 : sumMin c s = sumMin c (s.take k) + sumMin c (s.drop k) := by
    conv => lhs; rw [e]
    simp only [sumMin, List.map_append, sumI_app]
  have e3 : ∀ t : List Int, (∀ x ∈ t, c ≤ x) → sumMin c t = (t.length : Int) * c := by
    intro t
    induction t with
    | nil => intro _; simp [sumMin, sumI]
    | cons x t ih =>
      intro h
      have i1 := ih (fun y hy => h y (List.mem_cons_of_mem _ hy))
      have i2 := h x List.mem_cons_self
      simp only [sumMin, List.map_cons, sumI_cons, List.length_cons] at i1 ⊢
      rw [i1, Int.natCast_add, Int.add_mul]
      omega
  rw [e2, sumMin_all _ h1, e3 _ h2, List.length_drop]
theorem mul_le_of {a b : Int} {m : Nat} (h : a ≤ b) : a * (m : Int) ≤ b * (m : Int) := Int.mul_le_mul_of_nonneg_right h (by omega)
theorem div_bd (x : Int) (m : Nat) (hm : 0 < m) : (x / (m : Int)) * (m : Int) ≤ x ∧ x < (x / (m : Int) + 1) * (m : Int) :=
  ⟨Int.ediv_mul_le x (by omega), Int.lt_ediv_add_one_mul_self x (by omega)⟩
theorem le_div_of {y x : Int} {m : Nat} (hm : 0 < m) (h : y * (m : Int) ≤ x) : y ≤ x / (m : Int) := (Int.le_ediv_iff_mul_le (by omega)).2 h
theorem mul_le_of_div {y x : Int} {m : Nat} (hm : 0 < m) (h : y ≤ x / (m : Int)) : y * (m : Int) ≤ x := (Int.le_ediv_iff_mul_le (by omega)).1 h

/-- At the first load above its share all is told. -/
theorem fair_at {room : Int} {s : List Int} {k : Nat} (hk : k < s.length) (hroom : 0 ≤ room - sumI (s.take k))
    (h1 : ∀ x ∈ s.take k, x * ((s.length - k : Nat) : Int) ≤ room - sumI (s.take k)) (h2 : ∀ x ∈ s.drop k, (room - sumI (s.take k)) / ((s.length - k : Nat) : Int) < x) :
    Fair room ((room - sumI (s.take k)) / ((s.length - k : Nat) : Int)) s := by
  obtain ⟨d1, d2⟩ := div_bd (room - sumI (s.take k)) (s.length - k) (by omega)
  have t1 : ∀ x ∈ s.take k, x ≤ (room - sumI (s.take k)) / ((s.length - k : Nat) : Int) := fun x hx => le_div_of (by omega) (h1 x hx)
  have h0 : 0 ≤ (room - sumI (s.take k)) / ((s.length - k : Nat) : Int) := Int.ediv_nonneg hroom (by omega)
  generalize (room - sumI (s.take k)) / ((s.length - k : Nat) : Int) = c at *
  refine ⟨h0, ?_, .inr ?_⟩
  · rw [sumMin_split c s k (by omega) t1 (fun x hx => by have := h2 x hx; omega), Int.mul_comm]
    omega
  · rw [sumMin_split (c + 1) s k (by omega) (fun x hx => by have := t1 x hx; omega) (fun x hx => by have := h2 x hx; omega), Int.mul_comm]
    omega
theorem fair_end {room : Int} {s : List Int} (h30 : ∀ x ∈ s, x ≤ 30) (h : 0 ≤ room - sumI s) : Fair room 30 s :=
  ⟨by omega, by rw [sumMin_all s h30]; omega, .inl h30⟩
end Go.Proofs.Ytdnmoedpajkebaa
