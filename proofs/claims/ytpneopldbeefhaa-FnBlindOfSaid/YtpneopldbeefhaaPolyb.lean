/-
  The plain mathematics of divisors as texts: no program is named here. No condition.
-/
import Derived.Test.YtpneopldbeefhaaPoly
namespace Go.Proofs.Ytpneopldbeefhaa

/-- A divisor: at least two bits and at most nine, the first and the last one 1. -/
def polyB (l : List UInt8) : Bool := bitsB 9 l && decide (2 ≤ l.length) && (l.getD 0 0 == 49) && (l.getD (l.length - 1) 0 == 49)
theorem polyB_of {l : List UInt8} (h : polyB l = true) : ∃ Q, l = txt (true :: Q) ∧ 1 ≤ Q.length ∧ Q.length ≤ 8 ∧ Q.getLast? = some true := by
  simp only [polyB, Bool.and_eq_true, decide_eq_true_eq, beq_iff_eq] at h
  obtain ⟨⟨⟨h1, h2⟩, h3⟩, h4⟩ := h
  have hb : l.length ≤ 9 ∧ l.all isBit = true := by simpa [bitsB] using h1
  obtain ⟨B, rfl⟩ := txt_of hb.2
  rw [txt_len] at h2 h4 hb
  match B, h2 with
  | [], h2 => simp at h2
  | b :: Q, h2 =>
    have e1 : b = true := by
      cases b
      · simp [txt] at h3
      · rfl
    subst e1
    have hq : 1 ≤ Q.length := by simp at h2; omega
    refine ⟨Q, rfl, hq, by simp at hb; omega, ?_⟩
    rw [txt_get _ _ (by simp)] at h4
    rw [List.getLast?_eq_getElem?]
    have e2 : (true :: Q).getD ((true :: Q).length - 1) false = true := by
      cases hx : (true :: Q).getD ((true :: Q).length - 1) false
      · rw [hx] at h4; simp at h4
      · rfl
    obtain ⟨m, hm⟩ : ∃ m, Q.length = m + 1 := ⟨Q.length - 1, by omega⟩
    rw [List.length_cons, Nat.add_sub_cancel, hm, List.getD_cons_succ] at e2
    rw [hm, Nat.add_sub_cancel]
    rw [List.getD_eq_getElem?_getD, List.getElem?_eq_getElem (by omega)] at e2
    rw [List.getElem?_eq_getElem (by omega)]
    simpa using e2
theorem polyB_mk {Q : List Bool} (h1 : 1 ≤ Q.length) (h2 : Q.length ≤ 8) (hl : Q.getLast? = some true) : polyB (txt (true :: Q)) = true := by
  simp only [polyB, Bool.and_eq_true, decide_eq_true_eq, beq_iff_eq]
  refine ⟨⟨⟨by rw [txt_bitsB]; simp; omega, by rw [txt_len]; simp; omega⟩, rfl⟩, ?_⟩
  rw [txt_len, txt_get _ _ (by simp)]
  obtain ⟨m, hm⟩ : ∃ m, Q.length = m + 1 := ⟨Q.length - 1, by omega⟩
  rw [List.getLast?_eq_getElem?, hm, Nat.add_sub_cancel, List.getElem?_eq_getElem (by omega)] at hl
  rw [List.length_cons, Nat.add_sub_cancel, hm, List.getD_cons_succ, List.getD_eq_getElem?_getD, List.getElem?_eq_getElem (by omega)]
  simp at hl
  simp [hl]
/-- A divisor turned round is a divisor. -/
theorem polyB_rev {l : List UInt8} (h : polyB l = true) : polyB l.reverse = true := by
  simp only [polyB, Bool.and_eq_true, decide_eq_true_eq, beq_iff_eq] at h ⊢
  obtain ⟨⟨⟨h1, h2⟩, h3⟩, h4⟩ := h
  have hb : l.length ≤ 9 ∧ l.all isBit = true := by simpa [bitsB] using h1
  refine ⟨⟨⟨by simp [bitsB]; exact ⟨hb.1, by simpa using hb.2⟩, by simpa using h2⟩, ?_⟩, ?_⟩
  · rw [List.getD_eq_getElem?_getD, List.getElem?_reverse (by omega)]
    rw [List.getD_eq_getElem?_getD] at h4
    simpa using h4
  · rw [List.getD_eq_getElem?_getD, List.getElem?_reverse (by simp; omega)]
    rw [List.getD_eq_getElem?_getD] at h3
    simp only [List.length_reverse]
    rw [show l.length - 1 - (l.length - 1) = 0 from by omega]
    exact h3
/-- A divisor leaves nothing of itself. -/
theorem remF_self (Q : List Bool) (h1 : 1 ≤ Q.length) : remF Q (true :: Q) = zs Q.length := by
  obtain ⟨Q', x, rfl⟩ : ∃ Q' x, Q = Q' ++ [x] := by
    rcases List.eq_nil_or_concat Q with rfl | ⟨Q', x, rfl⟩
    · simp at h1
    · exact ⟨Q', x, by simp⟩
  rw [show true :: (Q' ++ [x]) = (true :: Q') ++ [x] from rfl, remF_snoc, remF_short _ (true :: Q') h1 (by simp)]
  rw [show (Q' ++ [x]).length - (true :: Q').length = 0 from by simp]
  rw [stq_true _ _ _ rfl]
  exact xorl_self _

/-- What RestOf gives. -/
def restR (p s : List UInt8) : List UInt8 := if polyB p = true ∧ bitsB 40 s = true ∧ p.length - 1 ≤ s.length then remU p s else []
/-- What SealBits gives. -/
def sealR (p s : List UInt8) : List UInt8 := if polyB p = true ∧ bitsB 40 (s ++ List.replicate (p.length - 1) 48) = true then s ++ remU p (s ++ List.replicate (p.length - 1) 48) else []
/-- Whether only noughts are left. -/
def wholeB (p s : List UInt8) : Bool := !((remU p s).any (· == 49))
/-- What IsSealed gives. -/
def sealedB (p s : List UInt8) : Bool := polyB p && bitsB 40 s && decide (p.length - 1 ≤ s.length) && wholeB p s

theorem any_txt (l : List Bool) : (txt l).any (· == 49) = l.any id := by
  induction l with
  | nil => rfl
  | cons b l ih =>
    have e : txt (b :: l) = (if b then 49 else 48) :: txt l := rfl
    rw [e, List.any_cons, List.any_cons, ih]
    cases b <;> rfl
theorem any_zs {l : List Bool} : l.any id = false ↔ l = zs l.length := by
  induction l with
  | nil => simp [zs]
  | cons b l ih =>
    rw [List.any_cons, List.length_cons, zs_succ]
    cases b
    · simp [ih]
    · simp
theorem wholeB_iff (Q S : List Bool) (h1 : 1 ≤ Q.length) (h : Q.length ≤ S.length) : wholeB (txt (true :: Q)) (txt S) = decide (remF Q S = zs Q.length) := by
  unfold wholeB
  rw [remU_txt Q S h1 h, any_txt]
  have := any_zs (l := remF Q S)
  rw [remF_len Q S h1] at this
  cases hx : (remF Q S).any id
  · rw [decide_eq_true (this.1 hx)]; rfl
  · rw [decide_eq_false (fun e => by rw [this.2 e] at hx; cases hx)]; rfl
theorem restR_ok {Q S : List Bool} (h1 : 1 ≤ Q.length) (h2 : Q.length ≤ 8) (hl : Q.getLast? = some true) (h3 : S.length ≤ 40) (h4 : Q.length ≤ S.length) : restR (txt (true :: Q)) (txt S) = txt (remF Q S) := by
  unfold restR
  rw [if_pos ⟨polyB_mk h1 h2 hl, by rw [txt_bitsB]; simpa using h3, by rw [txt_len, txt_len, List.length_cons]; omega⟩, remU_txt Q S h1 h4]
theorem sealedB_ok {Q S : List Bool} (h1 : 1 ≤ Q.length) (h2 : Q.length ≤ 8) (hl : Q.getLast? = some true) (h3 : S.length ≤ 40) (h4 : Q.length ≤ S.length) : sealedB (txt (true :: Q)) (txt S) = decide (remF Q S = zs Q.length) := by
  unfold sealedB
  rw [polyB_mk h1 h2 hl, txt_bitsB, wholeB_iff Q S h1 h4, decide_eq_true h3, txt_len, txt_len, List.length_cons, decide_eq_true (show Q.length + 1 - 1 ≤ S.length by omega)]
  rfl
end Go.Proofs.Ytpneopldbeefhaa
