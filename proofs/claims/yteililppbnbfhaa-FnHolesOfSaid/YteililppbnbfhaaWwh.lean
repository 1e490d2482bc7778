/-
  The walks of the functions that say whether pieces are a whole, and from which piece on. Conditions: where the list lies, its length and its room.
-/
import Derived.Test.YteililppbnbfhaaWho
import Derived.Test.YteililppbnbfhaaWsho
namespace Go.Proofs.Yteililppbnbfhaa
open Go.RowKit
set_option linter.unusedVariables false

theorem okE_parts' {ps : List Pc} (h : okE ps = true) : vpB ps = true ∧ ps.all pcB = true ∧ ps.length ≤ 20 ∧ endR ps = fE ps := by
  have h' := h
  simp only [okE, vpB, lpB, Bool.and_eq_true, decide_eq_true_eq] at h'
  exact ⟨by simp only [okE, Bool.and_eq_true] at h; exact h.1, h'.1.1, by omega, by simp [endR, h]⟩
/-- Whether the pieces have all numbers below N. -/
def fulB (ps : List Pc) (N : Nat) : Bool := (List.range N).all fun j => inI ps (j : Int)
theorem fulB_iff (ps : List Pc) (N : Nat) : fulB ps N = true ↔ ∀ k, mis ps N k = false := by
  unfold fulB
  rw [List.all_eq_true]
  constructor
  · intro h k
    cases hm : mis ps N k
    · rfl
    · have hb := mis_bd k hm
      have h1 := h k.toNat (by rw [List.mem_range]; omega)
      rw [show ((k.toNat : Nat) : Int) = k from by omega] at h1
      unfold mis at hm
      rw [h1] at hm
      simp at hm
  · intro h j hj
    have h1 := h j
    have hj' : j < N := List.mem_range.1 hj
    unfold mis at h1
    rw [show (decide ((0 : Int) ≤ (j : Int)) && decide ((j : Int) < (N : Int))) = true from by simp; omega] at h1
    simpa using h1
/-- No holes are there where all numbers are. -/
theorem HP.full {ps R : List Pc} {N : Nat} (h : HP ps N R) (ho : okH ps N = true) : ((R.length : Int) == 0) = fulB ps N := by
  obtain ⟨hn, hi, _⟩ := h.1 ho
  have e : ((N : Int)).toNat = N := by omega
  cases hf : fulB ps N
  · rw [beq_eq_false_iff_ne]
    intro h0
    have hR : R = [] := List.eq_nil_of_length_eq_zero (by omega)
    have : fulB ps N = true := (fulB_iff ps N).2 (fun k => by
      cases hm : mis ps N k
      · rfl
      · have := (hi k).2 (by rw [e]; exact hm)
        rw [hR] at this
        exact absurd this (inn_nil k))
    rw [hf] at this; cases this
  · rw [beq_iff_eq]
    cases R with
    | nil => rfl
    | cons p t =>
      exfalso
      have h1 := hn.2 p (by simp)
      have h2 := (hi p.a).1 ⟨p, by simp, by omega, by unfold Pc.e; omega⟩
      rw [e, (fulB_iff ps N).1 hf p.a] at h2; cases h2
/-- Whether pieces are a whole. -/
def wholeB (ps : List Pc) : Bool := okE ps && (decide (1 ≤ fE ps) && fulB ps (fE ps).toNat)
theorem whole_okH {ps : List Pc} (h : okE ps = true) (h1 : 1 ≤ fE ps) : ∃ N : Nat, fE ps = N ∧ 1 ≤ N ∧ N ≤ 60 ∧ okH ps N = true ∧ wholeB ps = fulB ps N := by
  obtain ⟨hv, hall, h20, _⟩ := okE_parts' h
  have hb := fE_bd hall
  obtain ⟨N, hN⟩ : ∃ N : Nat, fE ps = N := ⟨(fE ps).toNat, by omega⟩
  refine ⟨N, hN, by omega, by omega, ?_, ?_⟩
  · unfold okH; rw [hv]; simp; omega
  · unfold wholeB
    rw [h, hN]
    have : decide ((1 : Int) ≤ (N : Int)) = true := by simp; omega
    rw [this]; simp

set_option maxHeartbeats 1600000 in
theorem iIW_any (w : World) (v : Value) (ps : List Pc) (h : PRds w v ps) (hn : ps.length ≤ 1048576) :
    Calls Try.prog 17 #[v] w fun e w' => e = .returned (.bool (wholeB ps)) ∧ Below w.heap.size w w' := by
  have hE := iEO_any w v ps h hn
  have HR0 := Lib.hid h
  cases hok : okE ps
  · rw [hok] at hE
    rw [show wholeB ps = false from by unfold wholeB; rw [hok]; rfl]
    have HE := Lib.hid hE
    clear hE hok
    generalize endR ps = E at *
    obtain ⟨A, c, rfl, _⟩ := h
    go_enter Try.func17, Try.ntmps17
    go_wp2_with (go_at_call 36; refine HE.out.mono ?_; rintro e w' ⟨rfl, hb⟩; have HB := Lib.hid hb; clear hb)
    go_ret
    exact ⟨rfl, HB.out⟩
  · obtain ⟨hv, hall, h20, hend⟩ := okE_parts' hok
    rw [hok, hend] at hE
    rcases fE_bd hall with h1 | ⟨h1, h2⟩
    · rw [show wholeB ps = false from by unfold wholeB; rw [hok, h1]; rfl]
      rw [h1] at hE
      have HE := Lib.hid hE
      clear hE hok hend hall hv h1
      obtain ⟨A, c, rfl, _⟩ := h
      go_enter Try.func17, Try.ntmps17
      go_wp2_with (go_at_call 36; refine HE.out.mono ?_; rintro e w' ⟨rfl, hb⟩; have HB := Lib.hid hb; clear hb)
      go_ret
      exact ⟨rfl, HB.out⟩
    · obtain ⟨N, hN, hN1, hN2, hoh, hw⟩ := whole_okH hok h1
      rw [hw]
      rw [hN] at hE
      have HE := Lib.hid hE
      have HH := Lib.hid (fun W h => iHO_any W v ps N h hn)
      have HF := Lib.hid (fun R hp => HP.full (R := R) hp hoh)
      have hne : ((N : Int) != -1) = true := by rw [bne_iff_ne]; omega
      clear hE hok hend hall hv h1 h2 hN hoh hw
      generalize fulB ps N = b at *
      obtain ⟨A, c, rfl, _⟩ := h
      go_enter Try.func17, Try.ntmps17
      go_wp2_with (first | (go_at_call 36; refine HE.out.mono ?_; rintro e w1 ⟨rfl, hb⟩; have HB := Lib.hid hb; have HR1 := Lib.hid (HR0.out.more hb); clear hb) | (go_at_call 12; refine (HH.out _ HR1.out).mono ?_; rintro e w2 ⟨u, R, rfl, hp, ho, hb2⟩; have hfl := HF.out R hp; obtain ⟨A9, c9, rfl⟩ := own_form3 ho; have HB2 := Lib.hid (HB.out.trans (hb2.mono HB.out.size)); clear hp ho hb2))
      go_ret
      exact ⟨rfl, HB2.out⟩

set_option maxHeartbeats 1600000 in
theorem sIW_any (w : World) (v : Value) (ps : List Pc) (h : PRds w v ps) (hn : ps.length ≤ 1048576) :
    Calls Try.prog 16 #[v] w fun e w' => e = .returned (.bool (wholeB ps)) ∧ Below w.heap.size w w' := by
  have hE := sEO_any w v ps h hn
  have HR0 := Lib.hid h
  cases hok : okE ps
  · rw [hok] at hE
    rw [show wholeB ps = false from by unfold wholeB; rw [hok]; rfl]
    have HE := Lib.hid hE
    clear hE hok
    generalize endR ps = E at *
    obtain ⟨A, c, rfl, _⟩ := h
    go_enter Try.func16, Try.ntmps16
    go_wp2_with (go_at_call 35; refine HE.out.mono ?_; rintro e w' ⟨rfl, m, rfl⟩)
    go_ret
    exact ⟨rfl, below_drewN (Below.refl _ _) m⟩
  · obtain ⟨hv, hall, h20, hend⟩ := okE_parts' hok
    rw [hok, hend] at hE
    rcases fE_bd hall with h1 | ⟨h1, h2⟩
    · rw [show wholeB ps = false from by unfold wholeB; rw [hok, h1]; rfl]
      rw [h1] at hE
      have HE := Lib.hid hE
      clear hE hok hend hall hv h1
      obtain ⟨A, c, rfl, _⟩ := h
      go_enter Try.func16, Try.ntmps16
      go_wp2_with (go_at_call 35; refine HE.out.mono ?_; rintro e w' ⟨rfl, m, rfl⟩)
      go_ret
      exact ⟨rfl, below_drewN (Below.refl _ _) m⟩
    · obtain ⟨N, hN, hN1, hN2, hoh, hw⟩ := whole_okH hok h1
      rw [hw]
      rw [hN] at hE
      have HE := Lib.hid hE
      have HH := Lib.hid (fun m => sho_any (w.drewN m) v ps N (h.drewN m) (by omega) hall hN1 hN2)
      have HF := Lib.hid (fun R hp => HP.full (R := R) (HP.of_run hoh hp) hoh)
      have hne : decide ((1 : Int) ≤ (N : Int)) = true := by simp; omega
      clear hE hok hend hall hv h1 h2 hN hoh hw
      generalize fulB ps N = b at *
      generalize hasB ps = f at *
      obtain ⟨A, c, rfl, _⟩ := h
      go_enter Try.func16, Try.ntmps16
      go_wp2_with (first | (go_at_call 35; refine HE.out.mono ?_; rintro e w' ⟨rfl, m, rfl⟩) | (go_at_call 27; refine (HH.out _).mono ?_; rintro e w2 ⟨u, R, rfl, hp, ho, hb2⟩; have hfl := HF.out R hp; obtain ⟨A9, c9, rfl⟩ := own_form3 ho; have HB2 := Lib.hid (show Below w.heap.size w w2 from (below_drewN (Below.refl _ _) _).trans hb2); clear hp ho hb2))
      go_ret
      exact ⟨rfl, HB2.out⟩

theorem PRds.fore {w : World} {A : Option Addr} {n c : Nat} {ps : List Pc} (h : PRds w (.slice A n c) ps) (k : Nat) (hk : k ≤ ps.length) (c' : Nat) : PRds w (.slice A k c') (ps.take k) := by
  obtain ⟨A', c2, hv, h1⟩ := h
  simp only [Value.slice.injEq] at hv
  obtain ⟨rfl, rfl, rfl⟩ := hv
  have hl : (ps.take k).length = k := by rw [List.length_take]; omega
  refine ⟨A, c', by rw [hl], fun h0 => ?_⟩
  obtain ⟨b, off, rfl, ha⟩ := h1 (by omega)
  refine ⟨b, off, rfl, ha.1, fun j hj => ?_⟩
  have e : (ps.take k).getD j d0 = ps.getD j d0 := by
    rw [List.getD_eq_getElem?_getD, List.getD_eq_getElem?_getD, List.getElem?_take, if_pos (by omega)]
  rw [e]
  exact ha.2 j (by omega)
/-- From which piece on pieces are a whole. -/
def WA (ps : List Pc) (r : Int) (b : Bool) : Prop :=
  (∃ k, k < ps.length ∧ vpB ps = true ∧ r = (k : Int) + 1 ∧ b = true ∧ wholeB (ps.take (k + 1)) = true ∧ ∀ j, j < k → wholeB (ps.take (j + 1)) = false) ∨
  ((vpB ps = true → ∀ j, j < ps.length → wholeB (ps.take (j + 1)) = false) ∧ r = 0 ∧ b = false)
theorem WA.uniq {ps : List Pc} {r r' : Int} {b b' : Bool} (h : WA ps r b) (h' : WA ps r' b') : r = r' ∧ b = b' := by
  rcases h with ⟨k, h1, hv, rfl, rfl, h2, h3⟩ | ⟨h1, rfl, rfl⟩
  · rcases h' with ⟨k', h1', hv', rfl, rfl, h2', h3'⟩ | ⟨h1', rfl, rfl⟩
    · have : k = k' := by
        rcases Nat.lt_trichotomy k k' with h | h | h
        · have := h3' k h; rw [h2] at this; cases this
        · exact h
        · have := h3 k' h; rw [h2'] at this; cases this
      subst this
      exact ⟨rfl, rfl⟩
    · have := h1' hv k h1; rw [h2] at this; cases this
  · rcases h' with ⟨k', h1', hv', rfl, rfl, h2', h3'⟩ | ⟨h1', rfl, rfl⟩
    · have := h1 hv' k' h1'; rw [h2'] at this; cases this
    · exact ⟨rfl, rfl⟩
theorem WA.bad {ps : List Pc} (h : vpB ps = false) : WA ps 0 false := .inr ⟨fun h' => absurd h' (by simp [h]), rfl, rfl⟩

set_option maxHeartbeats 1600000 in
theorem iWA_any (w : World) (A : Option Addr) (c n : Nat) (ps : List Pc) (hl : ps.length = n) (hc : n ≤ c) (h : PRds w (.slice A n c) ps) (hn : n ≤ 1048576) :
    Calls Try.prog 19 #[.slice A n c] w fun e w' => ∃ r b, e = .returned (.tuple #[.int .i64 r, .bool b]) ∧ WA ps r b ∧ Below w.heap.size w w' := by
  have hV := iVP_any w _ ps h (by omega)
  have HL := Lib.hid hl
  have HR0 := Lib.hid h
  cases hv : vpB ps
  · rw [hv] at hV
    have HV := Lib.hid hV
    have HB := Lib.hid (WA.bad hv)
    clear hV hv h hl
    go_enter Try.func19, Try.ntmps19
    go_wp2_with (go_at_call 22; refine HV.out.mono ?_; rintro e w1 ⟨rfl, hb1⟩; have HB1 := Lib.hid hb1; clear hb1)
    go_ret2
    exact ⟨_, _, rfl, HB.out, HB1.out⟩
  · rw [hv] at hV
    have HV := Lib.hid hV
    have HVB := Lib.hid hv
    have h20 : n ≤ 20 := by
      simp only [vpB, lpB, Bool.and_eq_true, decide_eq_true_eq] at hv; omega
    clear hV hv
    rcases Nat.eq_zero_or_pos n with h0 | h0
    · subst h0
      clear h hl
      go_enter Try.func19, Try.ntmps19
      go_wp2_with (go_at_call 22; refine HV.out.mono ?_; rintro e w1 ⟨rfl, hb1⟩; have HB1 := Lib.hid hb1; clear hb1)
      refine wp_loop_rounds 1 ?_
      rw [rounds_succ]
      go_wp2
      go_ret2
      exact ⟨_, _, rfl, .inr ⟨fun _ j hj => by have := HL.out; omega, rfl, rfl⟩, HB1.out⟩
    · obtain ⟨A', c2, hv', h1⟩ := h
      simp only [Value.slice.injEq] at hv'
      obtain ⟨rfl, hx0, rfl⟩ := hv'
      obtain ⟨b, off, rfl, ha⟩ := h1 (by omega)
      clear h1 ha hl hx0
      go_enter Try.func19, Try.ntmps19
      go_wp2_with (go_at_call 22; refine HV.out.mono ?_; rintro e w1 ⟨rfl, hb1⟩; have HB1 := Lib.hid hb1; clear hb1)
      go_loopw [10] (fun iv wr => ∃ k : Nat, k ≤ n ∧ iv = .int .i64 k ∧ (∀ j, j < k → wholeB (ps.take (j + 1)) = false) ∧ Below w.heap.size w wr) (fun iv _ => n - (intOf iv).toNat)
      case atStart => exact ⟨0, Nat.zero_le _, rfl, fun j hj => by omega, HB1.out⟩
      case round =>
        obtain ⟨k, hk, rfl, hno, hbel⟩ := hrel
        have HNO := Lib.hid hno
        have HBEL := Lib.hid hbel
        clear hno hbel
        by_cases hlt : k < n
        · have HW := Lib.hid (iIW_any wr (.slice (some ⟨b, off, none⟩) (k + 1) c) (ps.take (k + 1)) ((HR0.out.more HBEL.out).fore (k + 1) (by have := HL.out; omega) _) (by rw [List.length_take]; omega))
          have q1 : (0 : Int) ≤ (k : Int) + 1 := by omega
          have q2 : (k : Int) + 1 ≤ (c : Int) := by omega
          have q3 : ((k : Int) + 1).toNat = k + 1 := by omega
          cases hw : wholeB (ps.take (k + 1))
          · rw [hw] at HW
            have HX := Lib.hid hw
            clear hw
            go_wp2_with (go_at_call 17; refine HW.out.mono ?_; rintro e w2 ⟨rfl, hb2⟩; have HB2 := Lib.hid (HBEL.out.trans (hb2.mono HBEL.out.size)); clear hb2)
            go_roundw
            case rel => exact ⟨k + 1, by omega, by go_num, fun j hj => by
              rcases (show j < k ∨ j = k from by omega) with h3 | h3
              · exact HNO.out j h3
              · rw [h3]; exact HX.out, HB2.out⟩
            case measure => simp [intOf]; omega
          · rw [hw] at HW
            have HX := Lib.hid hw
            clear hw
            go_wp2_with (go_at_call 17; refine HW.out.mono ?_; rintro e w2 ⟨rfl, hb2⟩; have HB2 := Lib.hid (HBEL.out.trans (hb2.mono HBEL.out.size)); clear hb2)
            go_ret2
            exact ⟨_, _, rfl, .inl ⟨k, by have := HL.out; omega, HVB.out, rfl, rfl, HX.out, HNO.out⟩, HB2.out⟩
        · go_wp2
          go_ret2
          exact ⟨_, _, rfl, .inr ⟨fun _ j hj => HNO.out j (by have := HL.out; omega), rfl, rfl⟩, HBEL.out⟩

set_option maxHeartbeats 1600000 in
theorem sWA_any (w : World) (A : Option Addr) (c n : Nat) (ps : List Pc) (hl : ps.length = n) (hc : n ≤ c) (h : PRds w (.slice A n c) ps) (hn : n ≤ 1048576) :
    Calls Try.prog 18 #[.slice A n c] w fun e w' => ∃ r b, e = .returned (.tuple #[.int .i64 r, .bool b]) ∧ WA ps r b ∧ Below w.heap.size w w' := by
  have hV := svp_any w _ ps h (by omega)
  have HL := Lib.hid hl
  have HR0 := Lib.hid h
  cases hv : vpB ps
  · rw [hv] at hV
    have HV := Lib.hid hV
    have HB := Lib.hid (WA.bad hv)
    clear hV hv h hl
    go_enter Try.func18, Try.ntmps18
    go_wp2_with (go_at_call 25; refine HV.out.mono ?_; rintro e w1 ⟨rfl, m, rfl⟩)
    go_ret2
    exact ⟨_, _, rfl, HB.out, below_drewN (Below.refl _ _) m⟩
  · rw [hv] at hV
    have HV := Lib.hid hV
    have HVB := Lib.hid hv
    have h20 : n ≤ 20 := by
      simp only [vpB, lpB, Bool.and_eq_true, decide_eq_true_eq] at hv; omega
    clear hV hv
    rcases Nat.eq_zero_or_pos n with h0 | h0
    · subst h0
      clear h hl
      go_enter Try.func18, Try.ntmps18
      go_wp2_with (go_at_call 25; refine HV.out.mono ?_; rintro e w1 ⟨rfl, m, rfl⟩)
      refine wp_loop_rounds 1 ?_
      rw [rounds_succ]
      go_wp2
      go_ret2
      exact ⟨_, _, rfl, .inr ⟨fun _ j hj => by have := HL.out; omega, rfl, rfl⟩, below_drewN (Below.refl _ _) m⟩
    · obtain ⟨A', c2, hv', h1⟩ := h
      simp only [Value.slice.injEq] at hv'
      obtain ⟨rfl, hx0, rfl⟩ := hv'
      obtain ⟨b, off, rfl, ha⟩ := h1 (by omega)
      clear h1 ha hl hx0
      go_enter Try.func18, Try.ntmps18
      go_wp2_with (go_at_call 25; refine HV.out.mono ?_; rintro e w1 ⟨rfl, m, rfl⟩)
      go_loopw [4] (fun iv wr => ∃ k : Nat, k ≤ n ∧ iv = .int .i64 ((k : Int) + 1) ∧ (∀ j, j < k → wholeB (ps.take (j + 1)) = false) ∧ Below w.heap.size w wr) (fun iv _ => n + 1 - (intOf iv).toNat)
      case atStart => exact ⟨0, Nat.zero_le _, rfl, fun j hj => by omega, below_drewN (Below.refl _ _) m⟩
      case round =>
        obtain ⟨k, hk, rfl, hno, hbel⟩ := hrel
        have HNO := Lib.hid hno
        have HBEL := Lib.hid hbel
        clear hno hbel
        by_cases hlt : k < n
        · have HW := Lib.hid (fun m => sIW_any (wr.drewN m) (.slice (some ⟨b, off, none⟩) (k + 1) c) (ps.take (k + 1)) (((HR0.out.more HBEL.out).fore (k + 1) (by have := HL.out; omega) _).drewN m) (by rw [List.length_take]; omega))
          have q0 : decide ((k : Int) + 1 ≤ (n : Int)) = true := by simp; omega
          have q1 : (0 : Int) ≤ (k : Int) + 1 := by omega
          have q2 : (k : Int) + 1 ≤ (c : Int) := by omega
          have q3 : ((k : Int) + 1).toNat = k + 1 := by omega
          cases hw : wholeB (ps.take (k + 1))
          · rw [hw] at HW
            have HX := Lib.hid hw
            clear hw
            go_wp2_with (go_at_call 16; refine (HW.out 0).mono ?_; rintro e w2 ⟨rfl, hb2⟩; have HB2 := Lib.hid (HBEL.out.trans (hb2.mono HBEL.out.size)); clear hb2)
            go_roundw
            case rel => exact ⟨k + 1, by omega, by go_num, fun j hj => by
              rcases (show j < k ∨ j = k from by omega) with h3 | h3
              · exact HNO.out j h3
              · rw [h3]; exact HX.out, HB2.out⟩
            case measure => simp [intOf]; omega
          · rw [hw] at HW
            have HX := Lib.hid hw
            clear hw
            go_wp2_with (go_at_call 16; refine (HW.out 0).mono ?_; rintro e w2 ⟨rfl, hb2⟩; have HB2 := Lib.hid (HBEL.out.trans (hb2.mono HBEL.out.size)); clear hb2)
            go_ret2
            exact ⟨_, _, rfl, .inl ⟨k, by have := HL.out; omega, HVB.out, rfl, rfl, HX.out, HNO.out⟩, HB2.out⟩
        · have q0 : decide ((k : Int) + 1 ≤ (n : Int)) = false := by simp; omega
          go_wp2
          go_ret2
          exact ⟨_, _, rfl, .inr ⟨fun _ j hj => HNO.out j (by have := HL.out; omega), rfl, rfl⟩, HBEL.out⟩
end Go.Proofs.Yteililppbnbfhaa
