/-
  Plain facts on flows that leave by turns. No condition.
-/
import Derived.Test.YtnghpipkdodgiaaFbk
namespace Go.Proofs.Ytnghpipkdodgiaa
set_option linter.unusedVariables false

/-- How far a flow comes with a credit, and what is left of it. -/
def adv (l : List Int) : Nat → Nat → Int → Nat × Int
  | 0, p, c => (p, c)
  | f + 1, p, c => if p < l.length ∧ lg l p ≤ c then adv l f (p + 1) (c - lg l p) else (p, c)
def go (l : List Int) (p : Nat) (c : Int) : Nat × Int := adv l (l.length - p) p c
theorem go_on {l : List Int} {p : Nat} {c : Int} (h1 : p < l.length) (h2 : lg l p ≤ c) : go l p c = go l (p + 1) (c - lg l p) := by
  unfold go
  rw [show l.length - p = (l.length - (p + 1)) + 1 from by omega]
  show (if p < l.length ∧ lg l p ≤ c then _ else _) = _
  rw [if_pos ⟨h1, h2⟩]
theorem go_end {l : List Int} {p : Nat} {c : Int} (h : ¬ (p < l.length ∧ lg l p ≤ c)) : go l p c = (p, c) := by
  unfold go
  cases h1 : l.length - p with
  | zero => rfl
  | succ n => show (if p < l.length ∧ lg l p ≤ c then _ else _) = _; rw [if_neg h]
/-- Where it comes to: the credit is less by what has left, and the next packet is longer. -/
theorem go_spec {l : List Int} (hl : ∀ k, 0 ≤ lg l k ∧ lg l k ≤ 30) : ∀ (n p : Nat) (c : Int), l.length - p = n → p ≤ l.length → 0 ≤ c →
    p ≤ (go l p c).1 ∧ (go l p c).1 ≤ l.length ∧ 0 ≤ (go l p c).2 ∧ (go l p c).2 ≤ c ∧ c - 30 * (((go l p c).1 : Int) - p) ≤ (go l p c).2 ∧ ((go l p c).1 < l.length → (go l p c).2 < lg l (go l p c).1)
  | 0, p, c, hn, hp, hc => by
    have e : go l p c = (p, c) := go_end (by omega)
    rw [e]
    exact ⟨Nat.le_refl _, hp, hc, Int.le_refl _, by simp, fun h => absurd h (by simp only []; omega)⟩
  | n + 1, p, c, hn, hp, hc => by
    by_cases h : lg l p ≤ c
    · have hx := hl p
      obtain ⟨a, b, d, e, f, g⟩ := go_spec hl n (p + 1) (c - lg l p) (by omega) (by omega) (by omega)
      rw [go_on (by omega) h]
      exact ⟨by omega, b, d, by omega, by omega, g⟩
    · have e : go l p c = (p, c) := go_end (fun h' => h h'.2)
      rw [e]
      exact ⟨Nat.le_refl _, hp, hc, Int.le_refl _, by simp, fun _ => by simp only []; omega⟩
/-- Where a flow stands behind r turns, and its credit. -/
def stt (q : Int) (l : List Int) : Nat → Nat × Int
  | 0 => (0, 0)
  | r + 1 => go l (stt q l r).1 ((stt q l r).2 + q)
def cnt (q : Int) (l : List Int) (r : Nat) : Nat := (stt q l (r + 1)).1 - (stt q l r).1
section
variable {q : Int} {l : List Int}
theorem stt_bd (hq : 1 ≤ q ∧ q ≤ 30) (hl : okL l = true) : ∀ r, (stt q l r).1 ≤ l.length ∧ 0 ≤ (stt q l r).2 ∧ (stt q l r).2 ≤ 30 * (r : Int) ∧ ((stt q l r).1 < l.length → (stt q l r).2 ≤ 30)
  | 0 => ⟨Nat.zero_le _, Int.le_refl _, by simp [stt], fun _ => by simp [stt]⟩
  | r + 1 => by
    obtain ⟨h1, h2, h3, h4⟩ := stt_bd hq hl r
    obtain ⟨a, b, c, d, e, f⟩ := go_spec (lg_bd hl) _ (stt q l r).1 ((stt q l r).2 + q) rfl h1 (by omega)
    refine ⟨b, c, ?_, fun h => ?_⟩
    · show (go l (stt q l r).1 ((stt q l r).2 + q)).2 ≤ _
      omega
    · have := f h
      have := (lg_bd hl (go l (stt q l r).1 ((stt q l r).2 + q)).1).2
      show (go l (stt q l r).1 ((stt q l r).2 + q)).2 ≤ 30
      omega
theorem stt_mono (hq : 1 ≤ q ∧ q ≤ 30) (hl : okL l = true) (r : Nat) : (stt q l r).1 ≤ (stt q l (r + 1)).1 := by
  obtain ⟨h1, h2, h3, h4⟩ := stt_bd hq hl r
  exact (go_spec (lg_bd hl) _ (stt q l r).1 ((stt q l r).2 + q) rfl h1 (by omega)).1
theorem cnt_add (hq : 1 ≤ q ∧ q ≤ 30) (hl : okL l = true) (r : Nat) : (stt q l (r + 1)).1 = (stt q l r).1 + cnt q l r := by
  have := stt_mono hq hl r
  unfold cnt; omega
/-- How much is to come of a flow. -/
def mes (q : Int) (l : List Int) (r : Nat) : Nat := if (stt q l r).1 < l.length then (31 * ((l.length - (stt q l r).1 : Nat) : Int) - (stt q l r).2).toNat else 0
theorem mes_bd (hq : 1 ≤ q ∧ q ≤ 30) (hl : okL l = true) (r : Nat) : mes q l r ≤ 31 * l.length ∧ ((stt q l r).1 < l.length → 1 ≤ mes q l r) := by
  obtain ⟨h1, h2, h3, h4⟩ := stt_bd hq hl r
  unfold mes
  split
  · rename_i h
    have := h4 h
    exact ⟨by omega, fun _ => by omega⟩
  · exact ⟨Nat.zero_le _, fun h => absurd h (by assumption)⟩
theorem mes_less (hq : 1 ≤ q ∧ q ≤ 30) (hl : okL l = true) (r : Nat) : mes q l (r + 1) ≤ mes q l r ∧ ((stt q l r).1 < l.length → mes q l (r + 1) < mes q l r) := by
  obtain ⟨h1, h2, h3, h4⟩ := stt_bd hq hl r
  obtain ⟨a, b, c, d, e, f⟩ := go_spec (lg_bd hl) _ (stt q l r).1 ((stt q l r).2 + q) rfl h1 (by omega)
  have hm := (mes_bd hq hl r).2
  have key : (stt q l r).1 < l.length → mes q l (r + 1) < mes q l r := fun h => by
    have h5 := h4 h
    have h6 := hm h
    have e1 : mes q l r = (31 * ((l.length - (stt q l r).1 : Nat) : Int) - (stt q l r).2).toNat := by unfold mes; rw [if_pos h]
    by_cases hn : (stt q l (r + 1)).1 < l.length
    · have e2 : mes q l (r + 1) = (31 * ((l.length - (stt q l (r + 1)).1 : Nat) : Int) - (stt q l (r + 1)).2).toNat := by unfold mes; rw [if_pos hn]
      rw [e1, e2]
      have g1 : (stt q l (r + 1)) = go l (stt q l r).1 ((stt q l r).2 + q) := rfl
      rw [g1] at hn ⊢
      omega
    · have e2 : mes q l (r + 1) = 0 := by unfold mes; rw [if_neg hn]
      omega
  refine ⟨?_, key⟩
  by_cases h : (stt q l r).1 < l.length
  · exact Nat.le_of_lt (key h)
  · have h7 := stt_mono hq hl r
    have e2 : mes q l (r + 1) = 0 := by unfold mes; rw [if_neg (by omega)]
    omega
end
/-- Flows: at most four, of at most six packets. -/
def okP (l : List Int) : Bool := okL l && decide (l.length ≤ 6)
def okF (L : List (List Int)) : Bool := L.all okP && decide (L.length ≤ 4)
theorem okP_parts {l : List Int} (h : okP l = true) : okL l = true ∧ l.length ≤ 6 := by simpa [okP] using h
theorem okF_at {L : List (List Int)} (h : okF L = true) (f : Nat) : okP (L.getD f []) = true := by
  simp only [okF, Bool.and_eq_true] at h
  rcases Nat.lt_or_ge f L.length with hf | hf
  · rw [List.getD_eq_getElem?_getD, List.getElem?_eq_getElem hf]
    exact List.all_eq_true.1 h.1 _ (List.getElem_mem hf)
  · rw [List.getD_eq_getElem?_getD, List.getElem?_eq_none hf]; rfl
theorem okF_len {L : List (List Int)} (h : okF L = true) : L.length ≤ 4 := by
  simp only [okF, Bool.and_eq_true, decide_eq_true_eq] at h; exact h.2
/-- Sums over the flows. -/
def sumF (g : List Int → Nat) : List (List Int) → Nat
  | [] => 0
  | l :: L => g l + sumF g L
theorem sumF_app (g : List Int → Nat) : ∀ A B, sumF g (A ++ B) = sumF g A + sumF g B
  | [], B => by simp [sumF]
  | l :: A, B => by simp only [List.cons_append, sumF, sumF_app g A B]; omega
theorem sumF_take (g : List Int → Nat) (L : List (List Int)) (f : Nat) (h : f < L.length) : sumF g (L.take (f + 1)) = sumF g (L.take f) + g (L.getD f []) := by
  rw [List.take_add_one, List.getElem?_eq_getElem h, sumF_app]
  simp [sumF, List.getD_eq_getElem?_getD, List.getElem?_eq_getElem h]
theorem sumF_le {g h : List Int → Nat} : ∀ {L : List (List Int)}, (∀ l ∈ L, g l ≤ h l) → sumF g L ≤ sumF h L
  | [], _ => Nat.le_refl _
  | l :: L, H => by
    have := H l List.mem_cons_self
    have := sumF_le (L := L) (fun x hx => H x (List.mem_cons_of_mem _ hx))
    simp only [sumF]; omega
theorem sumF_lt {g h : List Int → Nat} : ∀ {L : List (List Int)}, (∀ l ∈ L, g l ≤ h l) → (∃ l ∈ L, g l < h l) → sumF g L < sumF h L
  | [], _, hex => by obtain ⟨l, hl, _⟩ := hex; cases hl
  | l :: L, H, hex => by
    have h1 := H l List.mem_cons_self
    have h2 := sumF_le (L := L) (fun x hx => H x (List.mem_cons_of_mem _ hx))
    obtain ⟨x, hx, hlt⟩ := hex
    rcases List.mem_cons.1 hx with rfl | hx
    · simp only [sumF]; omega
    · have := sumF_lt (L := L) (fun y hy => H y (List.mem_cons_of_mem _ hy)) ⟨x, hx, hlt⟩
      simp only [sumF]; omega
theorem sumF_eq_zero {g : List Int → Nat} : ∀ {L : List (List Int)}, sumF g L = 0 → ∀ l ∈ L, g l = 0
  | [], _, l, h => by cases h
  | x :: L, h0, l, h => by
    simp only [sumF] at h0
    rcases List.mem_cons.1 h with rfl | h
    · omega
    · exact sumF_eq_zero (by omega) l h
/-- What has left of all flows behind r turns, and what has not. -/
def gone (q : Int) (L : List (List Int)) (r : Nat) : Nat := sumF (fun l => (stt q l r).1) L
def allP (L : List (List Int)) : Nat := sumF List.length L
def left (q : Int) (L : List (List Int)) (r : Nat) : Nat := sumF (fun l => l.length - (stt q l r).1) L
theorem mem_ok {L : List (List Int)} (h : okF L = true) : ∀ l ∈ L, okL l = true ∧ l.length ≤ 6 := fun l hl => by
  simp only [okF, Bool.and_eq_true] at h
  exact okP_parts (List.all_eq_true.1 h.1 l hl)
theorem gone_left {q : Int} {L : List (List Int)} (hq : 1 ≤ q ∧ q ≤ 30) (h : okF L = true) (r : Nat) : gone q L r + left q L r = allP L := by
  have hm := mem_ok h
  unfold gone left allP
  clear h
  induction L with
  | nil => rfl
  | cons l L ih =>
    have := ih (fun x hx => hm x (List.mem_cons_of_mem _ hx))
    have := (stt_bd hq (hm l List.mem_cons_self).1 r).1
    simp only [sumF]; omega
theorem allP_le {L : List (List Int)} (h : okF L = true) : allP L ≤ 24 := by
  have hm := mem_ok h
  have h4 := okF_len h
  have : ∀ L : List (List Int), (∀ l ∈ L, l.length ≤ 6) → sumF List.length L ≤ 6 * L.length := by
    intro L
    induction L with
    | nil => intro _; exact Nat.le_refl _
    | cons l L ih =>
      intro H
      have := ih (fun x hx => H x (List.mem_cons_of_mem _ hx))
      have := H l List.mem_cons_self
      simp only [sumF, List.length_cons]; omega
  have := this L (fun l hl => (hm l hl).2)
  unfold allP; omega
theorem turns_le {q : Int} {L : List (List Int)} (hq : 1 ≤ q ∧ q ≤ 30) (h : okF L = true) : ∀ r, (∀ i, i < r → left q L i ≠ 0) → sumF (fun l => mes q l r) L + r ≤ 744
  | 0, _ => by
    have hm := mem_ok h
    have h1 : sumF (fun l => mes q l 0) L ≤ sumF (fun l => 31 * l.length) L := sumF_le (fun l hl => (mes_bd hq (hm l hl).1 0).1)
    have h2 : ∀ L : List (List Int), sumF (fun l => 31 * l.length) L = 31 * sumF List.length L := by
      intro L
      induction L with
      | nil => rfl
      | cons l L ih => simp only [sumF, ih]; omega
    have h3 := allP_le h
    unfold allP at h3
    rw [h2] at h1
    omega
  | r + 1, hst => by
    have ih := turns_le hq h r (fun i hi => hst i (by omega))
    have hm := mem_ok h
    have hl := hst r (by omega)
    have hex : ∃ l ∈ L, mes q l (r + 1) < mes q l r := by
      have : ¬ ∀ l ∈ L, l.length - (stt q l r).1 = 0 := fun hall => hl (by
        unfold left
        have : ∀ L : List (List Int), (∀ l ∈ L, l.length - (stt q l r).1 = 0) → sumF (fun l => l.length - (stt q l r).1) L = 0 := by
          intro L
          induction L with
          | nil => intro _; rfl
          | cons l L ih => intro H; simp only [sumF]; rw [H l List.mem_cons_self, ih (fun x hx => H x (List.mem_cons_of_mem _ hx))]
        exact this L hall)
      obtain ⟨l, hl2⟩ := Classical.not_forall.1 this
      obtain ⟨hl3, hl4⟩ := Classical.not_imp.1 hl2
      exact ⟨l, hl3, (mes_less hq (hm l hl3).1 r).2 (by omega)⟩
    have := sumF_lt (g := fun l => mes q l (r + 1)) (h := fun l => mes q l r) (fun l hl => (mes_less hq (hm l hl).1 r).1) hex
    omega
theorem turns_bd {q : Int} {L : List (List Int)} (hq : 1 ≤ q ∧ q ≤ 30) (h : okF L = true) (r : Nat) (hst : ∀ i, i < r → left q L i ≠ 0) : r ≤ 744 := by
  have := turns_le hq h r hst; omega

/-- What leaves in a turn: of the first f flows. -/
def part (q : Int) (L : List (List Int)) (r : Nat) : Nat → List Int
  | 0 => []
  | f + 1 => part q L r f ++ List.replicate (cnt q (L.getD f []) r) (f : Int)
def turns (q : Int) (L : List (List Int)) : Nat → List Int
  | 0 => []
  | r + 1 => turns q L r ++ part q L r L.length
theorem part_len {q : Int} {L : List (List Int)} (hq : 1 ≤ q ∧ q ≤ 30) (h : okF L = true) (r : Nat) : ∀ f, f ≤ L.length → (part q L r f).length + sumF (fun l => (stt q l r).1) (L.take f) = sumF (fun l => (stt q l (r + 1)).1) (L.take f)
  | 0, _ => rfl
  | f + 1, hf => by
    have ih := part_len hq h r f (by omega)
    have e := cnt_add hq (okP_parts (okF_at h f)).1 r
    rw [sumF_take _ L f (by omega), sumF_take _ L f (by omega)]
    show (part q L r f ++ List.replicate (cnt q (L.getD f []) r) (f : Int)).length + _ = _
    rw [List.length_append, List.length_replicate]
    omega
theorem turns_len {q : Int} {L : List (List Int)} (hq : 1 ≤ q ∧ q ≤ 30) (h : okF L = true) : ∀ r, (turns q L r).length = gone q L r
  | 0 => by
    unfold gone
    have : ∀ L : List (List Int), sumF (fun l => (stt q l 0).1) L = 0 := by
      intro L
      induction L with
      | nil => rfl
      | cons l L ih => simp only [sumF, ih]; rfl
    rw [this]; rfl
  | r + 1 => by
    have ih := turns_len hq h r
    have h1 := part_len hq h r L.length (Nat.le_refl _)
    rw [List.take_length] at h1
    show (turns q L r ++ part q L r L.length).length = gone q L (r + 1)
    rw [List.length_append, ih]
    unfold gone at *
    omega
/-- The first turn behind which all have left. -/
def endAt (q : Int) (L : List (List Int)) : Nat → Nat → Nat
  | 0, r => r
  | f + 1, r => if left q L r = 0 then r else endAt q L f (r + 1)
theorem endAt_is {q : Int} {L : List (List Int)} {T : Nat} (hT : left q L T = 0) : ∀ f k, k ≤ T → T < k + f → (∀ i, k ≤ i → i < T → left q L i ≠ 0) → endAt q L f k = T
  | 0, k, h1, h2, _ => absurd h2 (by omega)
  | f + 1, k, h1, h2, h => by
    unfold endAt
    rcases (show k = T ∨ k < T from by omega) with rfl | hk
    · rw [if_pos hT]
    · rw [if_neg (h k (Nat.le_refl _) hk)]
      exact endAt_is hT f (k + 1) hk (by omega) (fun i hi hi2 => h i (by omega) hi2)
def turT (q : Int) (L : List (List Int)) : Nat := endAt q L 800 0
theorem turT_is {q : Int} {L : List (List Int)} {k : Nat} (hk : k ≤ 744) (hT : left q L k = 0) (h : ∀ i, i < k → left q L i ≠ 0) : turT q L = k :=
  endAt_is hT 800 0 (by omega) (by omega) (fun i _ hi => h i hi)
def quaB (q : Int) : Bool := decide (1 ≤ q) && decide (q ≤ 30)
def turB (q : Int) (L : List (List Int)) : Bool := quaB q && okF L
/-- What TurnsOf answers. -/
def turR (q : Int) (L : List (List Int)) : List Int := if turB q L = true then turns q L (turT q L) else []
theorem turB_parts {q : Int} {L : List (List Int)} (h : turB q L = true) : (1 ≤ q ∧ q ≤ 30) ∧ okF L = true := by
  simpa only [turB, quaB, Bool.and_eq_true, decide_eq_true_eq] using h
theorem turR_bad {q : Int} {L : List (List Int)} (h : turB q L = false) : turR q L = [] := by simp [turR, h]
theorem turR_ok {q : Int} {L : List (List Int)} (h : turB q L = true) : turR q L = turns q L (turT q L) := by simp [turR, h]
theorem turR_len (q : Int) (L : List (List Int)) : (turR q L).length ≤ 24 := by
  cases h : turB q L
  · rw [turR_bad h]; simp
  · obtain ⟨hq, hf⟩ := turB_parts h
    rw [turR_ok h, turns_len hq hf]
    have := gone_left hq hf (turT q L)
    have := allP_le hf
    omega
end Go.Proofs.Ytnghpipkdodgiaa
