/-
  The walks of the program's function that cuts lengths. No condition.
-/
import Derived.Test.YtpkajiflbejajaaWvpc
import Derived.Test.YtpkajiflbejajaaWes
namespace Go.Proofs.Ytpkajiflbejajaa
open Go.RowKit
set_option linter.unusedVariables false

/-- The pieces from a number on. -/
def cutF (L M S : Int) : Nat → Int → List Pc
  | 0, _ => []
  | f + 1, at_ => if M < L - at_ then ⟨at_, S, true⟩ :: cutF L M S f (at_ + S) else [⟨at_, L - at_, false⟩]
def cutL (L M U : Int) : List Pc := cutF L M (M - M % U) 61 0
def cutA (L M U : Int) : Bool := (decide (1 ≤ L) && decide (L ≤ 60)) && ((decide (1 ≤ U) && decide (U ≤ 8)) && (decide (U ≤ M) && decide (M ≤ 60)))
def cutB (L M U : Int) : Bool := cutA L M U && decide ((cutL L M U).length ≤ 20)
def cutR (L M U : Int) : List Pc := if cutB L M U = true then cutL L M U else []
theorem cutF_more (L M S : Int) (f : Nat) (a : Int) (h : M < L - a) : cutF L M S (f + 1) a = ⟨a, S, true⟩ :: cutF L M S f (a + S) := by
  show (if M < L - a then _ else _) = _
  rw [if_pos h]
theorem cutF_last (L M S : Int) (f : Nat) (a : Int) (h : ¬ M < L - a) : cutF L M S (f + 1) a = [⟨a, L - a, false⟩] := by
  show (if M < L - a then _ else _) = _
  rw [if_neg h]
theorem new3 (w : World) (x y : Int) (z : Bool) (t : TypeId) : ∀ j u, (pcs [⟨x, y, z⟩])[j]? = some u → (w.alloc (.cells #[.int .i64 x, .int .i64 y, .bool z] t)).cell? ((⟨w.heap.size, 0, none⟩ : Addr).add j) = some u := by
  intro j u hj
  have hB := Blk.new w t #[.int .i64 x, .int .i64 y, .bool z]
  have e : (⟨w.heap.size, 0, none⟩ : Addr).add j = ⟨w.heap.size, j, none⟩ := by unfold Addr.add; split <;> simp_all
  rw [e, hB.cell j, ← hj]
  match j with
  | 0 => rfl
  | 1 => rfl
  | 2 => rfl
  | j + 3 => simp [pcs]
theorem one3 (x y : Int) (z : Bool) : ∀ u ∈ pcs [⟨x, y, z⟩], u.oneCell' = true := by
  intro u hu
  simp [pcs] at hu
  rcases hu with rfl | rfl | rfl <;> rfl
theorem ownP_snoc {w1 : World} {B : Nat} {v : Value} {l : List Pc} {p : Pc} (h : w1.ownsRow B 33 3 v (l.length + 1) (pcs l ++ pcs [p])) : OwnP w1 B v (l ++ [p]) := by
  unfold OwnP
  rw [pcs_app]
  simpa using h
theorem push3_below {B : Nat} {w W w1 : World} {e n : Nat} {v : Value} {xs : List Value} {o : Obj} (hown : W.ownsRow B e 3 v n xs) (hg : (W.alloc o).grownBy w1 v.ownBlock) (hb : Below B w W) (hB : B ≤ W.heap.size) : Below B w w1 ∧ B ≤ w1.heap.size := by
  refine ⟨(hb.alloc hB o).grown hg (by simp; omega) (fun j hj => (hown.lt j hj).1), ?_⟩
  have := hg.size
  simp at this; omega

set_option maxHeartbeats 1600000 in
theorem iCL_bad (w : World) (L M U : Int) (hb : cutA L M U = false) :
    Calls Try.prog 17 #[.int .i64 L, .int .i64 M, .int .i64 U] w fun e w' => e = .returned (.tuple #[.slice none 0 0, .bool false]) ∧ w = w' := by
  have H1 := Lib.hid (fun W => wit_any W L 1 60)
  have H2 := Lib.hid (fun W => wit_any W U 1 8)
  have H3 := Lib.hid (fun W => wit_any W M U 60)
  unfold cutA at hb
  generalize (decide (1 ≤ L) && decide (L ≤ 60)) = b1 at *
  generalize (decide (1 ≤ U) && decide (U ≤ 8)) = b2 at *
  generalize (decide (U ≤ M) && decide (M ≤ 60)) = b3 at *
  cases b1
  · clear hb
    go_enter Try.func17, Try.ntmps17
    go_wp2_with (go_at_call 31; refine (H1.out _).mono ?_; rintro e w' ⟨rfl, rfl⟩)
    go_ret2
    exact ⟨rfl, rfl⟩
  · cases b2
    · clear hb
      go_enter Try.func17, Try.ntmps17
      go_wp2_with (first | (go_at_call 31; with_reducible refine (H1.out _).mono ?_; rintro e w' ⟨rfl, rfl⟩) | (go_at_call 31; with_reducible refine (H2.out _).mono ?_; rintro e w' ⟨rfl, rfl⟩))
      go_ret2
      exact ⟨rfl, rfl⟩
    · cases b3
      · clear hb
        go_enter Try.func17, Try.ntmps17
        go_wp2_with (first | (go_at_call 31; with_reducible refine (H1.out _).mono ?_; rintro e w' ⟨rfl, rfl⟩) | (go_at_call 31; with_reducible refine (H2.out _).mono ?_; rintro e w' ⟨rfl, rfl⟩) | (go_at_call 31; with_reducible refine (H3.out _).mono ?_; rintro e w' ⟨rfl, rfl⟩))
        go_ret2
        exact ⟨rfl, rfl⟩
      · cases hb

/-- What CutLength leaves. -/
def CutPost (b : Bool) (l : List Pc) (w : World) (e : Ending) (w' : World) : Prop :=
  ∃ u, e = .returned (.tuple #[u, .bool b]) ∧ OwnP w' w.heap.size u l ∧ Below w.heap.size w w'

theorem step_bd {M U : Int} (u1 : 1 ≤ U) (m1 : U ≤ M) : 1 ≤ M - M % U ∧ M - M % U ≤ M ∧ M / U * U = M - M % U ∧ 0 ≤ M % U ∧ M % U < U ∧ 0 ≤ M / U ∧ M / U ≤ M := by
  have hr0 := Int.emod_nonneg M (b := U) (by omega)
  have hr1 := Int.emod_lt_of_pos M (b := U) (by omega)
  have hd := Int.mul_ediv_add_emod M U
  have h2 := Int.ediv_nonneg (a := M) (b := U) (by omega) (by omega)
  have h5 := Int.ediv_le_self U (a := M) (by omega)
  have hp : 1 ≤ M / U := by
    rcases Int.lt_or_le (M / U) 1 with h | h
    · exfalso
      have h3 : M / U = 0 := by omega
      rw [h3, Int.mul_zero] at hd
      omega
    · exact h
  have h4 : U * 1 ≤ U * (M / U) := Int.mul_le_mul_of_nonneg_left hp (by omega)
  rw [Int.mul_comm (M / U) U]
  omega

set_option maxHeartbeats 3200000 in
theorem iCL_at (w : World) (L M U S : Int) (R l : List Pc) (b : Bool) (hb : cutA L M U = true) (hS : S = M - M % U) (hR : R = cutF L M S 61 0) (hlo : R.length ≤ 20 → b = true ∧ l = R) (hhi : 20 < R.length → b = false ∧ l = []) :
    Calls Try.prog 17 #[.int .i64 L, .int .i64 M, .int .i64 U] w (CutPost b l w) := by
  have H1 := fun W => wit_any W L 1 60
  have H2 := fun W => wit_any W U 1 8
  have H3 := fun W => wit_any W M U 60
  unfold cutA at hb
  simp only [Bool.and_eq_true, decide_eq_true_eq] at hb
  obtain ⟨⟨l1, l2⟩, ⟨u1, u2⟩, m1, m2⟩ := hb
  have t1 : (decide (1 ≤ L) && decide (L ≤ 60)) = true := by simp; omega
  have t2 : (decide (1 ≤ U) && decide (U ≤ 8)) = true := by simp; omega
  have t3 : (decide (U ≤ M) && decide (M ≤ 60)) = true := by simp; omega
  rw [t1] at H1
  rw [t2] at H2
  rw [t3] at H3
  have HH1 := Lib.hid H1
  have HH2 := Lib.hid H2
  have HH3 := Lib.hid H3
  obtain ⟨hs1, hs2, _, hr0, hr1, _, _⟩ := step_bd u1 m1
  rw [← hS] at hs1 hs2
  obtain ⟨i0, hi, hz0, hz1, hz2⟩ := info_parts infoP
  have HI := Lib.hid hi
  have HZ0 := Lib.hid hz0
  have HZ1 := Lib.hid hz1
  have HZ2 := Lib.hid hz2
  have HRR := Lib.hid hR
  have HSS := Lib.hid hS
  have HLO := Lib.hid hlo
  have HHI := Lib.hid hhi
  clear hi hz0 hz1 hz2 t1 t2 t3 H1 H2 H3 hR hlo hhi hS
  go_enter Try.func17, Try.ntmps17
  go_wp2_with (first | (go_at_call 31; with_reducible refine (HH1.out _).mono ?_; rintro e w' ⟨rfl, rfl⟩) | (go_at_call 31; with_reducible refine (HH2.out _).mono ?_; rintro e w' ⟨rfl, rfl⟩) | (go_at_call 31; with_reducible refine (HH3.out _).mono ?_; rintro e w' ⟨rfl, rfl⟩))
  rw [← HSS.out]
  clear hr0 hr1 HSS
  go_loopw [8, 10] (fun lv av wr => ∃ (ls : List Pc) (f : Nat) (a : Int), av = .int .i64 a ∧ OwnP wr w.heap.size lv ls ∧ ls ++ cutF L M S f a = R ∧ (ls.length : Int) ≤ a ∧ 0 ≤ a ∧ a < L ∧ 61 ≤ f + a ∧ Below w.heap.size w wr ∧ f ≤ 61) (fun _ av _ => 61 - (intOf av).toNat)
  case atStart => exact ⟨[], 61, 0, rfl, OwnP.nil _ _, HRR.out.symm, by simp, by omega, by omega, by omega, Below.refl _ _, by omega⟩
  case round =>
    obtain ⟨ls, f, a, rfl, hown, hls, hla, ha0, haL, hfa, hbel, hf⟩ := hrel
    have HO := Lib.hid hown
    have HBEL := Lib.hid hbel
    obtain ⟨A, cp, rfl⟩ := own_form3 hown
    obtain ⟨f, rfl⟩ : ∃ g, f = g + 1 := ⟨f - 1, by omega⟩
    clear hown hbel
    by_cases hgt : M < L - a
    · have hd : decide (M < L - a) = true := by simpa using hgt
      rw [cutF_more L M S f a hgt] at hls
      have HLS := Lib.hid hls
      have HGT := Lib.hid hgt
      clear hls hgt
      go_wp2_with (at_builtin; refine wpList_append_own _ rfl (.tmp 38) (.tmp 42) 24 rfl w.heap.size 33 i0 (.agg #[.int .i64 0, .int .i64 0, .bool false]) 3 24 Try.underlying24 HI.out HZ0.out HZ1.out HZ2.out rfl (by decide) _ _ _ rfl (HO.out.alloc _) ⟨wr.heap.size, 0, none⟩ 1 1 (pcs [⟨a, S, true⟩]) rfl rfl (new3 _ _ _ _ _) (one3 _ _ _) (by rw [mx]; omega) (by omega) (by have := HBEL.out.size; simp; omega) ?_; intro v9 w9 hown9 hg9 hnil; clear hnil)
      have R2 := push3_below HO.out hg9 HBEL.out HBEL.out.size
      go_roundw
      case rel => exact ⟨ls ++ [⟨a, S, true⟩], f, a + S, rfl, ownP_snoc hown9, by rw [← HLS.out]; simp, by simp; omega, by omega, by have := HGT.out; omega, by omega, R2.1, by omega⟩
      case measure => simp [intOf]; omega
    · have hd : decide (M < L - a) = false := by simpa using hgt
      rw [cutF_last L M S f a hgt] at hls
      have HLS := Lib.hid hls
      clear hls hgt
      by_cases h20 : ls.length + 1 ≤ 20
      · have hlen : R.length ≤ 20 := by rw [← HLS.out]; simpa using h20
        obtain ⟨rfl, rfl⟩ := HLO.out hlen
        have hd2 : decide ((20 : Int) < (ls.length : Int) + 1) = false := by simp; omega
        go_wp2_with (at_builtin; refine wpList_append_own _ rfl (.tmp 44) (.tmp 50) 24 rfl w.heap.size 33 i0 (.agg #[.int .i64 0, .int .i64 0, .bool false]) 3 24 Try.underlying24 HI.out HZ0.out HZ1.out HZ2.out rfl (by decide) _ _ _ rfl (HO.out.alloc _) ⟨wr.heap.size, 0, none⟩ 1 1 (pcs [⟨a, L - a, false⟩]) rfl rfl (new3 _ _ _ _ _) (one3 _ _ _) (by rw [mx]; omega) (by omega) (by have := HBEL.out.size; simp; omega) ?_; intro v9 w9 hown9 hg9 hnil; clear hnil; obtain ⟨A9, c9, rfl⟩ := own_form3 hown9)
        have R2 := push3_below HO.out hg9 HBEL.out HBEL.out.size
        go_ret2
        refine ⟨_, rfl, ?_, R2.1⟩
        rw [← HLS.out]; exact ownP_snoc hown9
      · have hlen : 20 < R.length := by rw [← HLS.out]; simp; omega
        obtain ⟨rfl, rfl⟩ := HHI.out hlen
        have hd2 : decide ((20 : Int) < (ls.length : Int) + 1) = true := by simp; omega
        go_wp2_with (at_builtin; refine wpList_append_own _ rfl (.tmp 44) (.tmp 50) 24 rfl w.heap.size 33 i0 (.agg #[.int .i64 0, .int .i64 0, .bool false]) 3 24 Try.underlying24 HI.out HZ0.out HZ1.out HZ2.out rfl (by decide) _ _ _ rfl (HO.out.alloc _) ⟨wr.heap.size, 0, none⟩ 1 1 (pcs [⟨a, L - a, false⟩]) rfl rfl (new3 _ _ _ _ _) (one3 _ _ _) (by rw [mx]; omega) (by omega) (by have := HBEL.out.size; simp; omega) ?_; intro v9 w9 hown9 hg9 hnil; clear hnil; obtain ⟨A9, c9, rfl⟩ := own_form3 hown9)
        have R2 := push3_below HO.out hg9 HBEL.out HBEL.out.size
        go_ret2
        exact ⟨_, rfl, OwnP.nil _ _, R2.1⟩
theorem iCL_any (w : World) (L M U : Int) :
    Calls Try.prog 17 #[.int .i64 L, .int .i64 M, .int .i64 U] w (CutPost (cutB L M U) (cutR L M U) w) := by
  cases hb : cutA L M U
  · have e1 : cutB L M U = false := by simp [cutB, hb]
    have e2 : cutR L M U = [] := by simp [cutR, e1]
    rw [e1, e2]
    exact (iCL_bad w L M U hb).mono fun e w' ⟨h1, h2⟩ => ⟨_, h1, OwnP.nil _ _, by rw [h2]; exact Below.refl _ _⟩
  · refine iCL_at w L M U _ _ _ _ hb rfl rfl (fun h => ?_) (fun h => ?_)
    · have e1 : cutB L M U = true := by
        have h' : (cutL L M U).length ≤ 20 := h
        simp [cutB, hb, h']
      exact ⟨e1, by simp only [cutR, e1, if_true]; rfl⟩
    · have e1 : cutB L M U = false := by
        have h' : 20 < (cutL L M U).length := h
        simp [cutB, hb]; omega
      exact ⟨e1, by simp [cutR, e1]⟩
end Go.Proofs.Ytpkajiflbejajaa
