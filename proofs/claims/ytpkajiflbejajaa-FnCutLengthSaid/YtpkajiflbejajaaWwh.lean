/-
  The walks of the functions that say whether pieces are a whole, and from which piece on. Conditions: where the list lies, its length and its room.
-/
import Derived.Test.YtpkajiflbejajaaWho
import Derived.Test.YtpkajiflbejajaaWsho
namespace Go.Proofs.Ytpkajiflbejajaa
open Go.RowKit
set_option linter.unusedVariables false

theorem okE_parts' {ps : List Pc} (h : okE ps = true) : vpB ps = true ∧ ps.all pcB = true ∧ ps.length ≤ 20 ∧ endR ps = fE ps := by
  have h' := h
  simp only [okE, vpB, lpB, Bool.and_eq_true, decide_eq_true_eq] at h'
  exact ⟨by simp only [okE, Bool.and_eq_true] at h; exact h.1, h'.1.1, by omega, by simp [endR, h]⟩
/-- Whether the pieces have all numbers below N. -/
def fulB (ps : List Pc) (N : Nat) : Bool := (List.range N).all fun j => inI ps (j : Int)
theorem fulB_iff (ps : List Pc) (N : Nat) : fulB ps N = true ↔ ∀ k, mis ps N k = false := by
  unfold fulB
  rw [List.all_eq_true]
  constructor
  · intro h k
    cases hm : mis ps N k
    · rfl
    · have hb := mis_bd k hm
      have h1 := h k.toNat (by rw [List.mem_range]; omega)
      rw [show ((k.toNat : Nat) : Int) = k from by omega] at h1
      unfold mis at hm
      rw [h1] at hm
      simp at hm
  · intro h j hj
    have h1 := h j
    have hj' : j < N := List.mem_range.1 hj
    unfold mis at h1
    rw [show (decide ((0 : Int) ≤ (j : Int)) && decide ((j : Int) < (N : Int))) = true from by simp; omega] at h1
    simpa using h1
/-- No holes are there where all numbers are. -/
theorem HP.full {ps R : List Pc} {N : Nat} (h : HP ps N R) (ho : okH ps N = true) : ((R.length : Int) == 0) = fulB ps N := by
  obtain ⟨hn, hi, _⟩ := h.1 ho
  have e : ((N : Int)).toNat = N := by omega
  cases hf : fulB ps N
  · rw [beq_eq_false_iff_ne]
    intro h0
    have hR : R = [] := List.eq_nil_of_length_eq_zero (by omega)
    have : fulB ps N = true := (fulB_iff ps N).2 (fun k => by
      cases hm : mis ps N k
      · rfl
      · have := (hi k).2 (by rw [e]; exact hm)
        rw [hR] at this
        exact absurd this (inn_nil k))
    rw [hf] at this; cases this
  · rw [beq_iff_eq]
    cases R with
    | nil => rfl
    | cons p t =>
      exfalso
      have h1 := hn.2 p (by simp)
      have h2 := (hi p.a).1 ⟨p, by simp, by omega, by unfold Pc.e; omega⟩
      rw [e, (fulB_iff ps N).1 hf p.a] at h2; cases h2
/-- Whether pieces are a whole. -/
def wholeB (ps : List Pc) : Bool := okE ps && (decide (1 ≤ fE ps) && fulB ps (fE ps).toNat)
theorem whole_okH {ps : List Pc} (h : okE ps = true) (h1 : 1 ≤ fE ps) : ∃ N : Nat, fE ps = N ∧ 1 ≤ N ∧ N ≤ 60 ∧ okH ps N = true ∧ wholeB ps = fulB ps N := by
  obtain ⟨hv, hall, h20, _⟩ := okE_parts' h
  have hb := fE_bd hall
  obtain ⟨N, hN⟩ : ∃ N : Nat, fE ps = N := ⟨(fE ps).toNat, by omega⟩
  refine ⟨N, hN, by omega, by omega, ?_, ?_⟩
  · unfold okH; rw [hv]; simp; omega
  · unfold wholeB
    rw [h, hN]
    have : decide ((1 : Int) ≤ (N : Int)) = true := by simp; omega
    rw [this]; simp

set_option maxHeartbeats 1600000 in
theorem iIW_any (w : World) (v : Value) (ps : List Pc) (h : PRds w v ps) (hn : ps.length ≤ 1048576) :
    Calls Try.prog 20 #[v] w fun e w' => e = .returned (.bool (wholeB ps)) ∧ Below w.heap.size w w' := by
  have hE := iEO_any w v ps h hn
  have HR0 := Lib.hid h
  cases hok : okE ps
  · rw [hok] at hE
    rw [show wholeB ps = false from by unfold wholeB; rw [hok]; rfl]
    have HE := Lib.hid hE
    clear hE hok
    generalize endR ps = E at *
    obtain ⟨A, c, rfl, _⟩ := h
    go_enter Try.func20, Try.ntmps20
    go_wp2_with (go_at_call 19; refine HE.out.mono ?_; rintro e w' ⟨rfl, hb⟩; have HB := Lib.hid hb; clear hb)
    go_ret
    exact ⟨rfl, HB.out⟩
  · obtain ⟨hv, hall, h20, hend⟩ := okE_parts' hok
    rw [hok, hend] at hE
    rcases fE_bd hall with h1 | ⟨h1, h2⟩
    · rw [show wholeB ps = false from by unfold wholeB; rw [hok, h1]; rfl]
      rw [h1] at hE
      have HE := Lib.hid hE
      clear hE hok hend hall hv h1
      obtain ⟨A, c, rfl, _⟩ := h
      go_enter Try.func20, Try.ntmps20
      go_wp2_with (go_at_call 19; refine HE.out.mono ?_; rintro e w' ⟨rfl, hb⟩; have HB := Lib.hid hb; clear hb)
      go_ret
      exact ⟨rfl, HB.out⟩
    · obtain ⟨N, hN, hN1, hN2, hoh, hw⟩ := whole_okH hok h1
      rw [hw]
      rw [hN] at hE
      have HE := Lib.hid hE
      have HH := Lib.hid (fun W h => iHO_any W v ps N h hn)
      have HF := Lib.hid (fun R hp => HP.full (R := R) hp hoh)
      have hne : ((N : Int) != -1) = true := by rw [bne_iff_ne]; omega
      clear hE hok hend hall hv h1 h2 hN hoh hw
      generalize fulB ps N = b at *
      obtain ⟨A, c, rfl, _⟩ := h
      go_enter Try.func20, Try.ntmps20
      go_wp2_with (first | (go_at_call 19; refine HE.out.mono ?_; rintro e w1 ⟨rfl, hb⟩; have HB := Lib.hid hb; have HR1 := Lib.hid (HR0.out.more hb); clear hb) | (go_at_call 15; refine (HH.out _ HR1.out).mono ?_; rintro e w2 ⟨u, R, rfl, hp, ho, hb2⟩; have hfl := HF.out R hp; obtain ⟨A9, c9, rfl⟩ := own_form3 ho; have HB2 := Lib.hid (HB.out.trans (hb2.mono HB.out.size)); clear hp ho hb2))
      go_ret
      exact ⟨rfl, HB2.out⟩

theorem PRds.fore {w : World} {A : Option Addr} {n c : Nat} {ps : List Pc} (h : PRds w (.slice A n c) ps) (k : Nat) (hk : k ≤ ps.length) (c' : Nat) : PRds w (.slice A k c') (ps.take k) := by
  obtain ⟨A', c2, hv, h1⟩ := h
  simp only [Value.slice.injEq] at hv
  obtain ⟨rfl, rfl, rfl⟩ := hv
  have hl : (ps.take k).length = k := by rw [List.length_take]; omega
  refine ⟨A, c', by rw [hl], fun h0 => ?_⟩
  obtain ⟨b, off, rfl, ha⟩ := h1 (by omega)
  refine ⟨b, off, rfl, ha.1, fun j hj => ?_⟩
  have e : (ps.take k).getD j d0 = ps.getD j d0 := by
    rw [List.getD_eq_getElem?_getD, List.getD_eq_getElem?_getD, List.getElem?_take, if_pos (by omega)]
  rw [e]
  exact ha.2 j (by omega)
/-- From which piece on pieces are a whole. -/
def WA (ps : List Pc) (r : Int) (b : Bool) : Prop :=
  (∃ k, k < ps.length ∧ vpB ps = true ∧ r = (k : Int) + 1 ∧ b = true ∧ wholeB (ps.take (k + 1)) = true ∧ ∀ j, j < k → wholeB (ps.take (j + 1)) = false) ∨
  ((vpB ps = true → ∀ j, j < ps.length → wholeB (ps.take (j + 1)) = false) ∧ r = 0 ∧ b = false)
theorem WA.uniq {ps : List Pc} {r r' : Int} {b b' : Bool} (h : WA ps r b) (h' : WA ps r' b') : r = r' ∧ b = b' := by
  rcases h with ⟨k, h1, hv, rfl, rfl, h2, h3⟩ | ⟨h1, rfl, rfl⟩
  · rcases h' with ⟨k', h1', hv', rfl, rfl, h2', h3'⟩ | ⟨h1', rfl, rfl⟩
    · have : k = k' := by
        rcases Nat.lt_trichotomy k k' with h | h | h
        · have := h3' k h; rw [h2] at this; cases this
        · exact h
        · have := h3 k' h; rw [h2'] at this; cases this
      subst this
      exact ⟨rfl, rfl⟩
    · have := h1' hv k h1; rw [h2] at this; cases this
  · rcases h' with ⟨k', h1', hv', rfl, rfl, h2', h3'⟩ | ⟨h1', rfl, rfl⟩
    · have := h1 hv' k' h1'; rw [h2'] at this; cases this
    · exact ⟨rfl, rfl⟩
theorem WA.bad {ps : List Pc} (h : vpB ps = false) : WA ps 0 false := .inr ⟨fun h' => absurd h' (by simp [h]), rfl, rfl⟩

end Go.Proofs.Ytpkajiflbejajaa
