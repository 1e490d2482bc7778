/-
  Plain facts on a round of turns. No condition.
-/
import Derived.Test.YtnghpipkdodgiaaFtu
namespace Go.Proofs.Ytnghpipkdodgiaa
set_option linter.unusedVariables false

/-- What has left behind r turns and of f flows of the next. -/
def outA (q : Int) (L : List (List Int)) (r f : Nat) : List Int := turns q L r ++ part q L r f
/-- The credit of a flow that has packets left. -/
def crd (q : Int) (l : List Int) (r : Nat) : Int := if (stt q l r).1 < l.length then (stt q l r).2 else 0
section
variable {q : Int} {L : List (List Int)} {l : List Int}
theorem outA_zero (r : Nat) : outA q L r 0 = turns q L r := by simp [outA, part]
theorem outA_end (r : Nat) : outA q L r L.length = turns q L (r + 1) := rfl
theorem outA_succ (r f : Nat) : outA q L r (f + 1) = outA q L r f ++ List.replicate (cnt q (L.getD f []) r) (f : Int) := by simp [outA, part]
theorem sumF_takele (g : List Int → Nat) (L : List (List Int)) (f : Nat) : sumF g (L.take f) ≤ sumF g L := by
  have := sumF_app g (L.take f) (L.drop f)
  rw [List.take_append_drop] at this
  omega
theorem outA_len (hq : 1 ≤ q ∧ q ≤ 30) (h : okF L = true) (r f : Nat) (hf : f ≤ L.length) : (outA q L r f).length ≤ 48 := by
  have h1 := turns_len hq h r
  have h2 := part_len hq h r f hf
  have h3 := gone_left hq h r
  have h4 := allP_le h
  have h5 := gone_left hq h (r + 1)
  have h6 := sumF_takele (fun l => (stt q l (r + 1)).1) L f
  unfold gone at h5
  unfold outA
  rw [List.length_append]
  omega
theorem left_eq (hq : 1 ≤ q ∧ q ≤ 30) (h : okF L = true) (r : Nat) : ((allP L : Nat) : Int) - ((outA q L r 0).length : Int) = (left q L r : Nat) := by
  rw [outA_zero, turns_len hq h r]
  have := gone_left hq h r
  omega
theorem left_next (hq : 1 ≤ q ∧ q ≤ 30) (h : okF L = true) (r : Nat) : ((allP L : Nat) : Int) - ((outA q L r L.length).length : Int) = (left q L (r + 1) : Nat) := by
  rw [outA_end, ← outA_zero (L := L) (r + 1)]; exact left_eq hq h (r + 1)
theorem stt_succ (r : Nat) : stt q l (r + 1) = go l (stt q l r).1 ((stt q l r).2 + q) := rfl
theorem stt_full (r : Nat) (h : (stt q l r).1 = l.length) : (stt q l (r + 1)).1 = l.length ∧ cnt q l r = 0 := by
  have e : stt q l (r + 1) = ((stt q l r).1, (stt q l r).2 + q) := by rw [stt_succ]; exact go_end (by omega)
  have e1 : (stt q l (r + 1)).1 = l.length := by rw [e]; exact h
  exact ⟨e1, by unfold cnt; omega⟩
theorem crd_full (r : Nat) (h : (stt q l r).1 = l.length) : crd q l r = 0 := by unfold crd; rw [if_neg (by omega)]
theorem crd_less (r : Nat) (h : (stt q l r).1 ≠ l.length) (h2 : (stt q l r).1 ≤ l.length) : crd q l r = (stt q l r).2 := by unfold crd; rw [if_pos (by omega)]
theorem left_some (hF : okF L = true) (r : Nat) (h : left q L r = 0) (f : Nat) (hf : f < L.length) : (L.getD f []).length - (stt q (L.getD f []) r).1 = 0 := by
  have := sumF_eq_zero h (L.getD f []) (by rw [List.getD_eq_getElem?_getD, List.getElem?_eq_getElem hf]; exact List.getElem_mem hf)
  exact this
end
/-- Where a flow stands in the middle of a turn: it came there from the turn's begin. -/
structure Mid (q : Int) (l : List Int) (r p : Nat) (c : Int) : Prop where
  same : go l p c = stt q l (r + 1)
  lo : (stt q l r).1 ≤ p
  hi : p ≤ l.length
  nn : 0 ≤ c
  up : c ≤ 100000
section
variable {q c : Int} {l : List Int} {r p : Nat}
theorem Mid.start (hq : 1 ≤ q ∧ q ≤ 30) (hl : okL l = true) (hr : r ≤ 744) : Mid q l r (stt q l r).1 ((stt q l r).2 + q) := by
  obtain ⟨h1, h2, h3, h4⟩ := stt_bd hq hl r
  exact ⟨rfl, Nat.le_refl _, h1, by omega, by omega⟩
theorem Mid.next (hl : okL l = true) (h : Mid q l r p c) (hp : p < l.length) (hc : lg l p ≤ c) : Mid q l r (p + 1) (c - lg l p) := by
  have := lg_bd hl p
  have := h.lo
  have := h.up
  exact ⟨by rw [← h.same, go_on hp hc], by omega, by omega, by omega, by omega⟩
theorem Mid.stop (h : Mid q l r p c) (hs : ¬ (p < l.length ∧ lg l p ≤ c)) : stt q l (r + 1) = (p, c) ∧ cnt q l r = p - (stt q l r).1 := by
  have e : stt q l (r + 1) = (p, c) := by rw [← h.same]; exact go_end hs
  exact ⟨e, by unfold cnt; rw [e]⟩
theorem Mid.crdStop (h : Mid q l r p c) (hs : ¬ (p < l.length ∧ lg l p ≤ c)) : crd q l (r + 1) = if p = l.length then 0 else c := by
  have e := (h.stop hs).1
  have := h.hi
  unfold crd
  rw [e]
  by_cases hp : p = l.length
  · rw [if_pos hp, if_neg (by simp only []; omega)]
  · rw [if_neg hp, if_pos (by simp only []; omega)]
end
/-- A list of numbers, one for each flow, of which f are a turn further. -/
def KOf (F : List Int → Nat → Int) (L : List (List Int)) (r f : Nat) (T : List Int) : Prop := ∀ j, j < L.length → T.getD j 0 = F (L.getD j []) (if j < f then r + 1 else r)
section
variable {F : List Int → Nat → Int} {L : List (List Int)} {r f : Nat} {T U : List Int}
theorem KOf.here (h : KOf F L r f T) (hf : f < L.length) : T.getD f 0 = F (L.getD f []) r := by rw [h f hf, if_neg (Nat.lt_irrefl f)]
theorem KOf.step (h : KOf F L r f T) (h1 : U.getD f 0 = F (L.getD f []) (r + 1)) (h2 : ∀ j, j ≠ f → U.getD j 0 = T.getD j 0) : KOf F L r (f + 1) U := by
  intro j hj
  by_cases hjf : j = f
  · subst hjf; rw [h1, if_pos (by omega)]
  · rw [h2 j hjf, h j hj]
    by_cases hlt : j < f
    · rw [if_pos hlt, if_pos (by omega)]
    · rw [if_neg hlt, if_neg (by omega)]
theorem KOf.wrap (h : KOf F L r L.length T) : KOf F L (r + 1) 0 T := by
  intro j hj
  rw [h j hj, if_pos hj, if_neg (by omega)]
end
theorem sumF_congr {g h : List Int → Nat} {L : List (List Int)} (H : ∀ l ∈ L, g l = h l) : sumF g L = sumF h L :=
  Nat.le_antisymm (sumF_le (fun l hl => Nat.le_of_eq (H l hl))) (sumF_le (fun l hl => Nat.le_of_eq (H l hl).symm))
theorem mes_step {q : Int} {L : List (List Int)} (hq : 1 ≤ q ∧ q ≤ 30) (h : okF L = true) (r : Nat) (hl : left q L r ≠ 0) : sumF (fun l => mes q l (r + 1)) L < sumF (fun l => mes q l r) L := by
  have hm := mem_ok h
  have hex : ∃ l ∈ L, mes q l (r + 1) < mes q l r := by
    have : ¬ ∀ l ∈ L, l.length - (stt q l r).1 = 0 := fun hall => hl (by
      unfold left
      have : ∀ L : List (List Int), (∀ l ∈ L, l.length - (stt q l r).1 = 0) → sumF (fun l => l.length - (stt q l r).1) L = 0 := by
        intro L
        induction L with
        | nil => intro _; rfl
        | cons l L ih => intro H; simp only [sumF]; rw [H l List.mem_cons_self, ih (fun x hx => H x (List.mem_cons_of_mem _ hx))]
      exact this L hall)
    obtain ⟨l, hl2⟩ := Classical.not_forall.1 this
    obtain ⟨hl3, hl4⟩ := Classical.not_imp.1 hl2
    exact ⟨l, hl3, (mes_less hq (hm l hl3).1 r).2 (by omega)⟩
  exact sumF_lt (g := fun l => mes q l (r + 1)) (h := fun l => mes q l r) (fun l hl => (mes_less hq (hm l hl).1 r).1) hex
/-- How much is to come of a flow, told by where it stands and its credit. -/
def mesV (l : List Int) (t c : Int) : Nat := if t < (l.length : Int) then (31 * ((l.length : Int) - t) - c).toNat else 0
theorem mesV_is (q : Int) (l : List Int) (r : Nat) : mesV l ((stt q l r).1 : Nat) (crd q l r) = mes q l r := by
  unfold mesV mes crd
  by_cases h : (stt q l r).1 < l.length
  · rw [if_pos (by omega), if_pos h, if_pos h]
    congr 2
    omega
  · rw [if_neg (by omega), if_neg h]
end Go.Proofs.Ytnghpipkdodgiaa
