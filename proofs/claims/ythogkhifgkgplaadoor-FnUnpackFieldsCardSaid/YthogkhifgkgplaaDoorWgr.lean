/-
  The walks of the functions that give the groups of a number. Conditions: the bounds that are typed.
-/
import Derived.Test.YthogkhifgkgplaaDoorWbas
import Derived.Test.YthogkhifgkgplaaDoorFgr
namespace Go.Proofs.YthogkhifgkgplaaDoor
open Go.RowKit
set_option linter.unusedVariables false

/-- The groups of a number, none of one that is out of the limit. -/
def goR (x : Int) : List Int := if btw x 0 1000000 = true then gr x.toNat else []
theorem goR_len (x : Int) : (goR x).length ≤ 3 := by
  unfold goR; split
  · rename_i h
    have := btw_yes h
    exact gr_len3 (by omega)
  · simp

set_option maxHeartbeats 1600000 in
theorem sgr_any (n : Nat) (w : World) (hn : n < 2097152) :
    Calls Tryd.prog 49 #[.int .i64 n] w (RowPost (gr n) w) := by
  have hL := gr_len3 hn
  have HM := Lib.hid (OwnL.empty w w.heap.size (Nat.le_refl _))
  have HB0 := Lib.hid ((Below.refl w.heap.size w).alloc (Nat.le_refl _) (.cells #[] 3))
  go_enter Tryd.func49, Tryd.ntmps49
  go_wp2
  go_loopw [0, 3] (fun nv sv wr => ∃ (y : Nat) (l : List Int), nv = .int .i64 y ∧ y ≤ n ∧ Hid (l ++ gr y = gr n) ∧ OwnL wr w.heap.size sv l ∧ Below w.heap.size w wr ∧ w.heap.size ≤ wr.heap.size) (fun nv _ _ => (intOf nv).toNat)
  case atStart => exact ⟨n, [], rfl, Nat.le_refl _, Lib.hid rfl, HM.out, HB0.out, by rw [World.size_alloc]; omega⟩
  case round =>
    obtain ⟨y, l, rfl, hy, hle, hown, hb, hz⟩ := hrel
    have hll : l.length ≤ 3 := by have := congrArg List.length hle.out; rw [List.length_append] at this; omega
    obtain ⟨A, cp, rfl⟩ := hown.form
    have HO := Lib.hid hown
    have HB := Lib.hid hb
    clear hown hb
    by_cases hlt : y < 128
    · have hd : decide ((128 : Int) ≤ (y : Int)) = false := decide_eq_false (by omega)
      have HE : Hid (gr n = l ++ [(y : Int)]) := Lib.hid (by rw [← hle.out, gr_one hlt])
      clear hle
      go_wp2_with (at_builtin; refine append_oneI rfl (.tmp 15) (.tmp 17) rfl w.heap.size _ l (y : Int) rfl rfl HO.out (by omega) hz ?_; intro A9 c9 w9 hown9 hg9 hb9 hz9)
      go_ret
      exact rowPost_mk HE.out hown9 (HB.out.trans hb9)
    · have hd : decide ((128 : Int) ≤ (y : Int)) = true := decide_eq_true (by omega)
      have HE : Hid ((l ++ [128 + (y : Int) % 128]) ++ gr (y / 128) = gr n) := Lib.hid (by rw [← hle.out, gr_more hlt]; simp)
      have e2 : (y : Int) / 128 = ((y / 128 : Nat) : Int) := by omega
      have y0 : 0 ≤ (y : Int) % 128 := by omega
      have y1 : (y : Int) % 128 < 128 := by omega
      have hy2 : y / 128 < y := by omega
      clear hle
      generalize y / 128 = z at *
      go_wp2_with (at_builtin; refine append_oneI rfl (.tmp 7) (.tmp 11) rfl w.heap.size _ l (128 + (y : Int) % 128) rfl rfl HO.out (by omega) hz ?_; intro A9 c9 w9 hown9 hg9 hb9 hz9)
      go_roundw
      case rel => exact ⟨z, l ++ [128 + (y : Int) % 128], by go_num, by omega, HE, hown9, HB.out.trans hb9, by omega⟩
      case measure => simp [intOf]; omega

set_option maxHeartbeats 1600000 in
theorem igr_ok (n : Nat) (w : World) (hn : n ≤ 1000000) :
    Calls Tryd.prog 47 #[.int .i64 n] w (RowPost (gr n) w) := by
  have hL := gr_len3 (n := n) (by omega)
  have hw := win_any (n : Int) 0 1000000 w
  rw [btw_mk ⟨by omega, by omega⟩] at hw
  have HW := Lib.hid hw
  clear hw
  go_enter Tryd.func47, Tryd.ntmps47
  go_wp2_with (go_at_call 58; refine HW.out.mono ?_; rintro e w' ⟨rfl, rfl⟩)
  go_loopw [0, 3] (fun nv sv wr => ∃ (y : Nat) (l : List Int), nv = .int .i64 y ∧ y ≤ n ∧ Hid (l ++ gr y = gr n) ∧ OwnL wr w.heap.size sv l ∧ Below w.heap.size w wr ∧ w.heap.size ≤ wr.heap.size) (fun nv _ _ => (intOf nv).toNat)
  case atStart => exact ⟨n, [], rfl, Nat.le_refl _, Lib.hid rfl, OwnL.nil _ _, Below.refl _ _, Nat.le_refl _⟩
  case round =>
    obtain ⟨y, l, rfl, hy, hle, hown, hb, hz⟩ := hrel
    have hll : l.length ≤ 3 := by have := congrArg List.length hle.out; rw [List.length_append] at this; omega
    obtain ⟨A, cp, rfl⟩ := hown.form
    have HO := Lib.hid hown
    have HB := Lib.hid hb
    clear hown hb
    by_cases hlt : y < 128
    · have hd : decide ((128 : Int) ≤ (y : Int)) = false := decide_eq_false (by omega)
      have HE : Hid (gr n = l ++ [(y : Int)]) := Lib.hid (by rw [← hle.out, gr_one hlt])
      clear hle
      go_wp2_with (at_builtin; refine append_oneI rfl (.tmp 17) (.tmp 19) rfl w.heap.size _ l (y : Int) rfl rfl HO.out (by omega) hz ?_; intro A9 c9 w9 hown9 hg9 hb9 hz9)
      go_ret
      exact rowPost_mk HE.out hown9 (HB.out.trans hb9)
    · have hd : decide ((128 : Int) ≤ (y : Int)) = true := decide_eq_true (by omega)
      have HE : Hid ((l ++ [128 + (y : Int) % 128]) ++ gr (y / 128) = gr n) := Lib.hid (by rw [← hle.out, gr_more hlt]; simp)
      have e2 : (y : Int) / 128 = ((y / 128 : Nat) : Int) := by omega
      have y0 : 0 ≤ (y : Int) % 128 := by omega
      have y1 : (y : Int) % 128 < 128 := by omega
      have hy2 : y / 128 < y := by omega
      clear hle
      generalize y / 128 = z at *
      go_wp2_with (at_builtin; refine append_oneI rfl (.tmp 11) (.tmp 15) rfl w.heap.size _ l (128 + (y : Int) % 128) rfl rfl HO.out (by omega) hz ?_; intro A9 c9 w9 hown9 hg9 hb9 hz9)
      go_roundw
      case rel => exact ⟨z, l ++ [128 + (y : Int) % 128], by go_num, by omega, HE, hown9, HB.out.trans hb9, by omega⟩
      case measure => simp [intOf]; omega

set_option maxHeartbeats 400000 in
theorem iGO_any (x : Int) (w : World) :
    Calls Tryd.prog 47 #[.int .i64 x] w (RowPost (goR x) w) := by
  cases hb : btw x 0 1000000
  · have e : goR x = [] := by unfold goR; rw [hb]; rfl
    have hw := win_any x 0 1000000 w
    rw [hb] at hw
    have HW := Lib.hid hw
    rw [e]
    clear hw hb e
    go_enter Tryd.func47, Tryd.ntmps47
    go_wp2_with (go_at_call 58; refine HW.out.mono ?_; rintro e w' ⟨rfl, rfl⟩)
    go_ret
    exact rowPost_nil rfl (Below.refl _ _)
  · obtain ⟨h0, h1⟩ := btw_yes hb
    have e : goR x = gr x.toNat := by unfold goR; rw [if_pos hb]
    rw [e]
    obtain ⟨n, rfl⟩ : ∃ n : Nat, x = n := ⟨x.toNat, by omega⟩
    exact igr_ok n w (by omega)

end Go.Proofs.YthogkhifgkgplaaDoor
