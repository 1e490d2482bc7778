/-
  Plain facts on shares by rounds. No condition.
-/
import Derived.Test.YtdnmoedpajkebaaFsh
namespace Go.Proofs.Ytdnmoedpajkebaa
set_option linter.unusedVariables false

def opn (l : List Int) (t : Int) : List Nat := (List.range l.length).filter fun j => decide (t < lg l j)
def clo (l : List Int) (O : List Nat) (e : Int) : Int := sumI ((O.filter fun j => decide (lg l j ≤ e)).map (lg l))
def closed (l : List Int) (t : Int) : Int := clo l (List.range l.length) t
def outF (l : List Int) (t : Int) (j : Nat) : Int := if lg l j ≤ t then lg l j else 0
theorem opn_lt {l : List Int} {t : Int} {j : Nat} (h : j ∈ opn l t) : j < l.length ∧ t < lg l j := by
  simpa [opn] using h
theorem opn_mem {l : List Int} {t : Int} {j : Nat} (h : j < l.length) (h2 : t < lg l j) : j ∈ opn l t := by
  simp [opn, h, h2]
theorem opn_len (l : List Int) (t : Int) : (opn l t).length ≤ l.length := by
  have := List.length_filter_le (fun j => decide (t < lg l j)) (List.range l.length)
  simpa [opn] using this
theorem opn_first {l : List Int} (hl : okL l = true) : opn l (-1) = List.range l.length := by
  unfold opn
  rw [List.filter_eq_self]
  intro j hj
  have := lg_bd hl j
  simp; omega
theorem closed_first {l : List Int} (hl : okL l = true) : closed l (-1) = 0 := by
  have : (List.range l.length).filter (fun j => decide (lg l j ≤ -1)) = [] := by
    rw [List.filter_eq_nil_iff]
    intro j hj
    have := lg_bd hl j
    simp; omega
  simp [closed, clo, this, sumI]
theorem opn_next {l : List Int} {t e : Int} (h : t ≤ e) : (opn l t).filter (fun j => decide (e < lg l j)) = opn l e := by
  unfold opn
  rw [List.filter_filter]
  apply List.filter_congr
  intro j _
  by_cases h1 : e < lg l j
  · have : t < lg l j := by omega
    simp [h1, this]
  · simp [h1]
theorem clo_snoc (l : List Int) (O : List Nat) (j : Nat) (e : Int) : clo l (O ++ [j]) e = clo l O e + if lg l j ≤ e then lg l j else 0 := by
  unfold clo
  rw [List.filter_append, List.map_append, sumI_app]
  by_cases h : lg l j ≤ e
  · simp [h, sumI]
  · simp [h, sumI]
theorem clo_all {l : List Int} {t e : Int} (h : t ≤ e) : ∀ R : List Nat, clo l R e = clo l R t + clo l (R.filter fun j => decide (t < lg l j)) e
  | [] => rfl
  | j :: R => by
    have ih := clo_all (l := l) h R
    unfold clo at *
    by_cases h1 : lg l j ≤ t
    · have h2 : lg l j ≤ e := by omega
      have h3 : ¬ t < lg l j := by omega
      simp only [List.filter_cons, h1, h2, h3, decide_true, decide_false, if_true, List.map_cons, sumI_cons] at ih ⊢
      simp only [Bool.false_eq_true, if_false]
      omega
    · have h3 : t < lg l j := by omega
      by_cases h2 : lg l j ≤ e
      · simp only [List.filter_cons, h1, h2, h3, decide_true, decide_false, if_true, List.map_cons, sumI_cons] at ih ⊢
        simp only [Bool.false_eq_true, if_false, List.filter_cons, h2, decide_true, if_true, List.map_cons, sumI_cons]
        omega
      · simp only [List.filter_cons, h1, h2, h3, decide_true, decide_false, if_true, List.map_cons, sumI_cons] at ih ⊢
        simp only [Bool.false_eq_true, if_false, List.filter_cons, h2, decide_false]
        omega
theorem closed_next {l : List Int} {t e : Int} (h : t ≤ e) : closed l e = closed l t + clo l (opn l t) e := clo_all h _
theorem clo_le (l : List Int) (e : Int) : ∀ O : List Nat, clo l O e + e * ((O.filter fun j => decide (e < lg l j)).length : Int) ≤ e * (O.length : Int)
  | [] => by simp [clo, sumI]
  | j :: O => by
    have ih := clo_le l e O
    unfold clo at *
    by_cases h1 : lg l j ≤ e
    · have h2 : ¬ e < lg l j := by omega
      simp only [List.filter_cons, h1, h2, decide_true, decide_false, if_true, Bool.false_eq_true, if_false, List.map_cons, sumI_cons, List.length_cons, Int.natCast_add, Int.mul_add] at ih ⊢
      omega
    · have h2 : e < lg l j := by omega
      simp only [List.filter_cons, h1, h2, decide_true, decide_false, if_true, Bool.false_eq_true, if_false, List.length_cons, Int.natCast_add, Int.mul_add] at ih ⊢
      omega
theorem clo_nonneg {l : List Int} (hl : okL l = true) (O : List Nat) (e : Int) : 0 ≤ clo l O e := by
  induction O with
  | nil => simp [clo, sumI]
  | cons j O ih =>
    have := lg_bd hl j
    unfold clo at *
    by_cases h1 : lg l j ≤ e
    · simp only [List.filter_cons, h1, decide_true, if_true, List.map_cons, sumI_cons]; omega
    · simp only [List.filter_cons, h1, decide_false, Bool.false_eq_true, if_false]; exact ih

/-- What holds at the head of each round. -/
structure ShInv (room : Int) (l : List Int) (t : Int) : Prop where
  lo : -1 ≤ t
  hi : t ≤ 200
  pos : 0 ≤ room - closed l t
  fits : t * ((opn l t).length : Int) ≤ room - closed l t
theorem ShInv.first {room : Int} {l : List Int} (hr : 0 ≤ room) (hl : okL l = true) : ShInv room l (-1) :=
  ⟨by omega, by omega, by rw [closed_first hl]; omega, by rw [closed_first hl]; omega⟩
section
variable {room t : Int} {l : List Int}
theorem ShInv.each (h : ShInv room l t) (hm : 0 < (opn l t).length) : t ≤ (room - closed l t) / ((opn l t).length : Int) ∧ 0 ≤ (room - closed l t) / ((opn l t).length : Int) :=
  ⟨le_div_of hm h.fits, Int.ediv_nonneg h.pos (by omega)⟩
theorem ShInv.next (h : ShInv room l t) (hm : 0 < (opn l t).length) (h200 : room ≤ 200) (hl : okL l = true) : ShInv room l ((room - closed l t) / ((opn l t).length : Int)) := by
  obtain ⟨h1, h2⟩ := h.each hm
  obtain ⟨d1, d2⟩ := div_bd (room - closed l t) (opn l t).length hm
  have hle := Int.ediv_le_self ((opn l t).length : Int) h.pos
  have hc := clo_nonneg hl (List.range l.length) t
  have hc2 : 0 ≤ closed l t := hc
  generalize hq : (room - closed l t) / ((opn l t).length : Int) = e at *
  have h3 := closed_next (l := l) h1
  have h4 := clo_le l e (opn l t)
  have h4b := clo_nonneg hl (opn l t) e
  rw [opn_next h1] at h4
  have h5 : 0 ≤ e * ((opn l e).length : Int) := Int.mul_nonneg h2 (by omega)
  exact ⟨by omega, by omega, by rw [h3]; omega, by rw [h3]; omega⟩
end
theorem sum_split (f : Nat → Int) (p : Nat → Bool) : ∀ R : List Nat, sumI (R.map f) = sumI ((R.filter p).map f) + sumI ((R.filter fun j => !p j).map f)
  | [] => rfl
  | j :: R => by
    have ih := sum_split f p R
    cases hp : p j
    · simp only [List.filter_cons, hp, List.map_cons, sumI_cons, Bool.false_eq_true, if_false, Bool.not_false, if_true] at ih ⊢; omega
    · simp only [List.filter_cons, hp, List.map_cons, sumI_cons, if_true, Bool.not_true, Bool.false_eq_true, if_false] at ih ⊢; omega
theorem range_map (l : List Int) (f : Int → Int) : l.map f = (List.range l.length).map fun j => f (lg l j) := by
  apply List.ext_getElem (by simp)
  intro j h1 h2
  have hj : j < l.length := by simpa using h1
  simp [lg, List.getD_eq_getElem?_getD, List.getElem?_eq_getElem hj]
theorem sum_const (c : Int) (f : Nat → Int) : ∀ R : List Nat, (∀ j ∈ R, f j = c) → sumI (R.map f) = (R.length : Int) * c
  | [], _ => by simp [sumI]
  | j :: R, h => by
    have ih := sum_const c f R (fun i hi => h i (List.mem_cons_of_mem _ hi))
    rw [List.map_cons, sumI_cons, ih, h j List.mem_cons_self, List.length_cons, Int.natCast_add, Int.add_mul]
    omega
/-- What all get by a cap that is at least the threshold, and at most what is open. -/
theorem sumMin_open {l : List Int} {t c : Int} (h1 : t ≤ c) (h2 : ∀ j ∈ opn l t, c ≤ lg l j) : sumMin c l = closed l t + ((opn l t).length : Int) * c := by
  unfold sumMin
  rw [range_map l (fun x => min x c), sum_split _ (fun j => decide (lg l j ≤ t))]
  congr 1
  · unfold closed clo
    congr 1
    apply List.map_congr_left
    intro j hj
    have : lg l j ≤ t := by simpa using (List.mem_filter.1 hj).2
    show min (lg l j) c = lg l j
    omega
  · have e : (List.range l.length).filter (fun j => !decide (lg l j ≤ t)) = opn l t := by
      unfold opn
      apply List.filter_congr
      intro j _
      by_cases h : lg l j ≤ t
      · have : ¬ t < lg l j := by omega
        simp [h, this]
      · have : t < lg l j := by omega
        simp [h, this]
    rw [e]
    exact sum_const c _ _ (fun j hj => by have := h2 j hj; show min (lg l j) c = c; omega)
theorem all_open {l : List Int} {t e : Int} (h1 : t ≤ e) (h : (opn l e).length = (opn l t).length) : ∀ j ∈ opn l t, e < lg l j := by
  rw [← opn_next h1] at h
  intro j hj
  have := List.length_filter_eq_length_iff.1 h j hj
  simpa using this
theorem fair_open {room : Int} {l : List Int} {t : Int} (hi : ShInv room l t) (hm : 0 < (opn l t).length) (h : (opn l ((room - closed l t) / ((opn l t).length : Int))).length = (opn l t).length) :
    Fair room ((room - closed l t) / ((opn l t).length : Int)) l ∧ ∀ j, j < l.length → (if j ∈ opn l t then (room - closed l t) / ((opn l t).length : Int) else outF l t j) = min (lg l j) ((room - closed l t) / ((opn l t).length : Int)) := by
  obtain ⟨h1, h2⟩ := hi.each hm
  obtain ⟨d1, d2⟩ := div_bd (room - closed l t) (opn l t).length hm
  generalize (room - closed l t) / ((opn l t).length : Int) = e at *
  have ha := all_open h1 h
  refine ⟨⟨h2, ?_, .inr ?_⟩, fun j hj => ?_⟩
  · rw [sumMin_open h1 (fun j hj => by have := ha j hj; omega), Int.mul_comm]; omega
  · rw [sumMin_open (t := t) (c := e + 1) (by omega) (fun j hj => by have := ha j hj; omega), Int.mul_comm]; omega
  · by_cases ho : j ∈ opn l t
    · rw [if_pos ho]; have := ha j ho; omega
    · rw [if_neg ho]
      have : lg l j ≤ t := by
        rcases Int.lt_or_le t (lg l j) with h | h
        · exact absurd (opn_mem hj h) ho
        · exact h
      unfold outF; rw [if_pos this]; omega
theorem fair_done {room : Int} {l : List Int} {t : Int} (hl : okL l = true) (hi : ShInv room l t) (hm : opn l t = []) : Fair room 30 l ∧ ∀ j, j < l.length → outF l t j = min (lg l j) 30 := by
  have ha : ∀ j, j < l.length → lg l j ≤ t := fun j hj => by
    rcases Int.lt_or_le t (lg l j) with h | h
    · have := opn_mem hj h; rw [hm] at this; cases this
    · exact h
  have h30 := load_of hl
  refine ⟨⟨by omega, ?_, .inl fun x hx => (h30 x hx).2⟩, fun j hj => ?_⟩
  · have e1 := sumMin_all l (fun x hx => (h30 x hx).2)
    have e2 : sumMin (max t 30) l = sumI l := sumMin_all l (fun x hx => by have := (h30 x hx).2; omega)
    have e3 := sumMin_open (l := l) (t := t) (c := max t 30) (by omega) (fun j hj => by rw [hm] at hj; cases hj)
    rw [hm] at e3
    simp only [List.length_nil, Int.natCast_zero, Int.zero_mul] at e3
    have := hi.pos
    rw [e1]; omega
  · unfold outF; rw [if_pos (ha j hj)]
    have := (lg_bd hl j).2; omega
theorem ext_map {l X : List Int} {f : Int → Int} (hX : X.length = l.length) (h : ∀ j, j < l.length → X.getD j 0 = f (lg l j)) : X = l.map f := by
  rw [range_map l f]
  apply List.ext_getElem (by simpa using hX)
  intro j h1 h2
  have := h j (by omega)
  simpa [List.getD_eq_getElem?_getD, List.getElem?_eq_getElem h1] using this
end Go.Proofs.Ytdnmoedpajkebaa
