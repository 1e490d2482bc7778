/-
  The model's number of a link: the sequential contract, the numbers that are reckoned given with what each wraps to. Conditions: the bound that is typed.
  The model's IsSafe, from what its search answers. No condition but that.
  The walks of what an act does on a link, put together: the program's behind and the model's step give the same. Conditions: a valid plan, a link behind acts without a wrong word, and an act that is a byte.
-/
import Derived.Test.YtnbgfffcialfkaaLn24
import Derived.Test.YtnbgfffcialfkaaLn07
import Derived.Test.YtnbgfffcialfkaaLn04
import Derived.Test.YtnbgfffcialfkaaLn11
import Derived.Test.YtnbgfffcialfkaaLn22
set_option linter.unusedSimpArgs false
set_option linter.unusedVariables false
namespace Go.Proofs.Ytnbgfffcialfkaa
open Go.RowKit
set_option linter.unusedVariables false

set_option maxRecDepth 100000 in
set_option maxHeartbeats 3200000 in
theorem scode_at (n a W kn s d h da wo : Int) (K : Nat) (hK : K ≤ 4) (q P v1 v2 v3 v4 v5 v6 v7 v8 v9 v10 v11 v12 : Int) (hP : 2 ^ K = P) (e0 : IntKind.i64.wrap (W + 2) = q) (e1 : IntKind.i64.wrap (kn * q) = v1) (e2 : IntKind.i64.wrap (v1 + s) = v2) (e3 : IntKind.i64.wrap (v2 * q) = v3) (e4 : IntKind.i64.wrap (v3 + d) = v4)
    (e5 : IntKind.i64.wrap (v4 * P) = v5) (e6 : IntKind.i64.wrap (v5 + h) = v6) (e7 : IntKind.i64.wrap (v6 * q) = v7) (e8 : IntKind.i64.wrap (v7 + da) = v8) (e9 : IntKind.i64.wrap (v8 + 1) = v9) (e10 : IntKind.i64.wrap (v9 * q) = v10) (e11 : IntKind.i64.wrap (v10 + wo) = v11) (e12 : IntKind.i64.wrap (v11 + 1) = v12) (w : World) :
    Calls Try.prog 41 #[.agg #[.int .i64 n, .int .i64 a, .int .i64 (K : Int), .int .i64 W], .agg #[.int .i64 kn, .int .i64 s, .int .i64 d, .int .i64 h, .int .i64 da, .int .i64 wo]] w fun e w' => e = .returned (.int .i64 v12) ∧ Below w.heap.size w w' := by
  have ne := Wld.ne (S := (fun w' => Two w w' #[.int .i64 n, .int .i64 a, .int .i64 (K : Int), .int .i64 W] #[.int .i64 kn, .int .i64 s, .int .i64 d, .int .i64 h, .int .i64 da, .int .i64 wo])) (Two.new w _ _)
  have hp0 : ∀ x : Wld (fun w' => Two w w' #[.int .i64 n, .int .i64 a, .int .i64 (K : Int), .int .i64 W] #[.int .i64 kn, .int .i64 s, .int .i64 d, .int .i64 h, .int .i64 da, .int .i64 wo]), x.v.cell? ⟨w.heap.size, 0, none⟩ = some (.int .i64 n) := fun x => x.h.p.cell 0
  have hp1 : ∀ x : Wld (fun w' => Two w w' #[.int .i64 n, .int .i64 a, .int .i64 (K : Int), .int .i64 W] #[.int .i64 kn, .int .i64 s, .int .i64 d, .int .i64 h, .int .i64 da, .int .i64 wo]), x.v.cell? ⟨w.heap.size, 1, none⟩ = some (.int .i64 a) := fun x => x.h.p.cell 1
  have hp2 : ∀ x : Wld (fun w' => Two w w' #[.int .i64 n, .int .i64 a, .int .i64 (K : Int), .int .i64 W] #[.int .i64 kn, .int .i64 s, .int .i64 d, .int .i64 h, .int .i64 da, .int .i64 wo]), x.v.cell? ⟨w.heap.size, 2, none⟩ = some (.int .i64 (K : Int)) := fun x => x.h.p.cell 2
  have hp3 : ∀ x : Wld (fun w' => Two w w' #[.int .i64 n, .int .i64 a, .int .i64 (K : Int), .int .i64 W] #[.int .i64 kn, .int .i64 s, .int .i64 d, .int .i64 h, .int .i64 da, .int .i64 wo]), x.v.cell? ⟨w.heap.size, 3, none⟩ = some (.int .i64 W) := fun x => x.h.p.cell 3
  have hl0 : ∀ x : Wld (fun w' => Two w w' #[.int .i64 n, .int .i64 a, .int .i64 (K : Int), .int .i64 W] #[.int .i64 kn, .int .i64 s, .int .i64 d, .int .i64 h, .int .i64 da, .int .i64 wo]), x.v.cell? ⟨w.heap.size + 1, 0, none⟩ = some (.int .i64 kn) := fun x => x.h.l.cell 0
  have hl1 : ∀ x : Wld (fun w' => Two w w' #[.int .i64 n, .int .i64 a, .int .i64 (K : Int), .int .i64 W] #[.int .i64 kn, .int .i64 s, .int .i64 d, .int .i64 h, .int .i64 da, .int .i64 wo]), x.v.cell? ⟨w.heap.size + 1, 1, none⟩ = some (.int .i64 s) := fun x => x.h.l.cell 1
  have hl2 : ∀ x : Wld (fun w' => Two w w' #[.int .i64 n, .int .i64 a, .int .i64 (K : Int), .int .i64 W] #[.int .i64 kn, .int .i64 s, .int .i64 d, .int .i64 h, .int .i64 da, .int .i64 wo]), x.v.cell? ⟨w.heap.size + 1, 2, none⟩ = some (.int .i64 d) := fun x => x.h.l.cell 2
  have hl3 : ∀ x : Wld (fun w' => Two w w' #[.int .i64 n, .int .i64 a, .int .i64 (K : Int), .int .i64 W] #[.int .i64 kn, .int .i64 s, .int .i64 d, .int .i64 h, .int .i64 da, .int .i64 wo]), x.v.cell? ⟨w.heap.size + 1, 3, none⟩ = some (.int .i64 h) := fun x => x.h.l.cell 3
  have hl4 : ∀ x : Wld (fun w' => Two w w' #[.int .i64 n, .int .i64 a, .int .i64 (K : Int), .int .i64 W] #[.int .i64 kn, .int .i64 s, .int .i64 d, .int .i64 h, .int .i64 da, .int .i64 wo]), x.v.cell? ⟨w.heap.size + 1, 4, none⟩ = some (.int .i64 da) := fun x => x.h.l.cell 4
  have hl5 : ∀ x : Wld (fun w' => Two w w' #[.int .i64 n, .int .i64 a, .int .i64 (K : Int), .int .i64 W] #[.int .i64 kn, .int .i64 s, .int .i64 d, .int .i64 h, .int .i64 da, .int .i64 wo]), x.v.cell? ⟨w.heap.size + 1, 5, none⟩ = some (.int .i64 wo) := fun x => x.h.l.cell 5
  have HPW := Lib.hid (fun W => spow_at K P hK hP W)
  clear hP
  go_enter Try.func41, Try.ntmps41
  go_wp2
  refine wp_region_heldq (fun w' => Two w w' #[.int .i64 n, .int .i64 a, .int .i64 (K : Int), .int .i64 W] #[.int .i64 kn, .int .i64 s, .int .i64 d, .int .i64 h, .int .i64 da, .int .i64 wo]) (by kernel_rfl) (by kernel_rfl) (Two.new w _ _).drew ?_
  repeat (go_big_quiet_step (first | (with_reducible exact held_same (HPW.out _))))
  refine wpQuiet_nil ?_
  rintro _ ⟨x, rfl⟩
  go_wp2
  go_ret
  exact ⟨rfl, x.h.b⟩
end Go.Proofs.Ytnbgfffcialfkaa

namespace Go.Proofs.Ytnbgfffcialfkaa
open Go.RowKit
set_option linter.unusedVariables false

set_option maxHeartbeats 1600000 in
theorem sIS_no (n a k m : Int) (hp : vpB ⟨n, a, k, m⟩ = false) (w : World) : Calls Try.prog 10 #[.agg #[.int .i64 n, .int .i64 a, .int .i64 k, .int .i64 m]] w fun e w' => e = .returned (.bool false) ∧ Below w.heap.size w w' := by
  have H1 := Lib.hid (fun W => svp_any n a k m W)
  rw [hp] at H1
  clear hp
  go_enter Try.func10, Try.ntmps10
  go_wp2_with fail
  refine (H1.out _).mono ?_
  rintro e w1 ⟨rfl, hb1⟩
  have HB := Lib.hid (((Below.refl _ _).alloc (Nat.le_refl _) _).trans (hb1.mono (by simp)))
  clear hb1
  go_wp2
  go_ret
  exact ⟨rfl, HB.out⟩
set_option maxHeartbeats 1600000 in
theorem sIS_yes (n a k m : Int) (B : Bool) (hp : vpB ⟨n, a, k, m⟩ = true) (hr : ∀ w, Calls Try.prog 26 #[.agg #[.int .i64 n, .int .i64 a, .int .i64 k, .int .i64 m]] w fun e w' => ∃ lst, e = .returned (.tuple #[lst, .bool B]) ∧ Below w.heap.size w w') (w : World) :
    Calls Try.prog 10 #[.agg #[.int .i64 n, .int .i64 a, .int .i64 k, .int .i64 m]] w fun e w' => e = .returned (.bool B) ∧ Below w.heap.size w w' := by
  have H1 := Lib.hid (fun W => svp_any n a k m W)
  have H2 := Lib.hid hr
  rw [hp] at H1
  clear hp hr
  go_enter Try.func10, Try.ntmps10
  go_wp2_with fail
  refine (H1.out _).mono ?_
  rintro e w1 ⟨rfl, hb1⟩
  have hz : w.heap.size + 1 ≤ w1.heap.size := by have := hb1.size; simpa using this
  obtain ⟨c0, c1, c2, c3⟩ := ((Blk.new w 25 #[.int .i64 n, .int .i64 a, .int .i64 k, .int .i64 m]).below hb1 (by simp)).c4
  have HB := Lib.hid (((Below.refl _ _).alloc (Nat.le_refl _) _).trans (hb1.mono (by simp)))
  clear hb1
  go_wp2_with fail
  refine (H2.out _).mono ?_
  rintro e w2 ⟨lst, rfl, hb2⟩
  have HB2 := Lib.hid (HB.out.trans (hb2.mono (by omega)))
  clear hb2
  go_wp2
  go_ret
  exact ⟨rfl, HB2.out⟩
end Go.Proofs.Ytnbgfffcialfkaa

namespace Go.Proofs.Ytnbgfffcialfkaa
open Go.RowKit
set_option linter.unusedVariables false

theorem calls_congr {P : Program} {f : FuncId} {args : Array Value} {w : World} {v v' : Value} (hv : v = v') (h : Calls P f args w fun e w' => e = .returned v ∧ Below w.heap.size w w') : Calls P f args w fun e w' => e = .returned v' ∧ Below w.heap.size w w' := by
  rw [← hv]; exact h
theorem plan_bd {n a k m : Int} (h : vpB ⟨n, a, k, m⟩ = true) : 2 ≤ n ∧ n ≤ 4 ∧ 1 ≤ a ∧ a ≤ 4 ∧ 1 ≤ k ∧ k ≤ 4 ∧ 1 ≤ m ∧ m ≤ 5 := by simpa only [vpB, decide_eq_true_eq] using h

theorem itk_none (n a k m kn s d h wo : Int) (w : World) : Calls Try.prog 43 #[(.agg #[.int .i64 n, .int .i64 a, .int .i64 k, .int .i64 m]), .agg #[.int .i64 kn, .int .i64 s, .int .i64 d, .int .i64 h, .int .i64 (-1), .int .i64 wo]] w fun e w' => e = .returned (.tuple #[.agg #[.int .i64 kn, .int .i64 s, .int .i64 d, .int .i64 h, .int .i64 (-1), .int .i64 wo], .bool true]) ∧ Below w.heap.size w w' := by
  go_enter Try.func43, Try.ntmps43
  go_wp2
  exact bodyPost_ret (v := .tuple #[.agg #[.int .i64 kn, .int .i64 s, .int .i64 d, .int .i64 h, .int .i64 (-1), .int .i64 wo], .bool true]) (by simp [results, Try.results43, go_sem]) rfl ⟨rfl, (by repeat (first | (with_reducible exact Below.refl _ _) | (with_reducible assumption) | ((with_reducible refine Below.setCell ?_ ?_ _); rotate_left; focus (first | (simp; done) | (simp; omega))) | ((with_reducible refine Below.alloc ?_ ?_ _); rotate_left; focus (first | (with_reducible exact Nat.le_refl _) | (simp; done) | (simp; omega))) | (with_reducible refine belowD ?_ _) | (with_reducible refine belowDr ?_)))⟩
theorem iln_none (n a k m kn s d h da : Int) (w : World) : Calls Try.prog 47 #[(.agg #[.int .i64 n, .int .i64 a, .int .i64 k, .int .i64 m]), .agg #[.int .i64 kn, .int .i64 s, .int .i64 d, .int .i64 h, .int .i64 da, .int .i64 (-1)]] w fun e w' => e = .returned (.agg #[.int .i64 kn, .int .i64 s, .int .i64 d, .int .i64 h, .int .i64 da, .int .i64 (-1)]) ∧ Below w.heap.size w w' := by
  go_enter Try.func47, Try.ntmps47
  go_wp2
  exact bodyPost_ret (v := .agg #[.int .i64 kn, .int .i64 s, .int .i64 d, .int .i64 h, .int .i64 da, .int .i64 (-1)]) (by simp [results, Try.results47, go_sem]) rfl ⟨rfl, (by repeat (first | (with_reducible exact Below.refl _ _) | (with_reducible assumption) | ((with_reducible refine Below.setCell ?_ ?_ _); rotate_left; focus (first | (simp; done) | (simp; omega))) | ((with_reducible refine Below.alloc ?_ ?_ _); rotate_left; focus (first | (with_reducible exact Nat.le_refl _) | (simp; done) | (simp; omega))) | (with_reducible refine belowD ?_ _) | (with_reducible refine belowDr ?_)))⟩

/-- What an act gives, as a value. -/
def actV (p : Pl) (l : Lk) (act : Nat) : Value := .tuple #[lv (stepL p l act), .bool (mayF p l act), .bool (stepR p l act)]

section
variable {n a k m kn s d h da wo : Int} (hp : vpB ⟨n, a, k, m⟩ = true) (hi : Inv ⟨n, a, k, m⟩ ⟨kn, s, d, h, da, wo⟩)
include hp hi
theorem lk_bd : 0 ≤ kn ∧ kn ≤ m ∧ kn ≤ s ∧ s ≤ m ∧ s ≤ kn + a ∧ 0 ≤ d ∧ d ≤ s ∧ 0 ≤ h ∧ h < 16 ∧ -1 ≤ da ∧ da < s ∧ -1 ≤ wo ∧ wo ≤ d := by
  have hh := held16 _ _ hp hi
  obtain ⟨i1, i2, i3, i4, i5, i6, i7, i8, i9, i10, i11, i12, i13, i14⟩ := hi
  exact ⟨i1, i2, i3, i4, i5, i6, i7, hh.1, hh.2, i11, i12, i13, i14⟩

theorem isd_inv (W : World) : Calls Try.prog 46 #[(.agg #[.int .i64 n, .int .i64 a, .int .i64 k, .int .i64 m]), (.agg #[.int .i64 kn, .int .i64 s, .int .i64 d, .int .i64 h, .int .i64 da, .int .i64 wo])] W fun e w' => e = .returned (lv (stepL ⟨n, a, k, m⟩ ⟨kn, s, d, h, da, wo⟩ 115)) ∧ Below W.heap.size W w' := by
  have b := plan_bd hp
  have c := lk_bd hp hi
  by_cases c1 : da = -1
  · subst c1
    by_cases c2 : s < min m (kn + a)
    · refine calls_congr ?_ (isd_yes n a k m kn s d h wo W (by omega) c2 (by omega))
      have hm : mayF ⟨n, a, k, m⟩ ⟨kn, s, d, h, -1, wo⟩ 115 = true := by simp [mayF]; omega
      simp [stepL, hm, doneF, sendF, lv]
    · refine calls_congr ?_ (isd_full n a k m kn s d h wo W (by omega) c2)
      have hm : mayF ⟨n, a, k, m⟩ ⟨kn, s, d, h, -1, wo⟩ 115 = false := by simp [mayF]; omega
      simp [stepL, hm, lv]
  · refine calls_congr ?_ (isd_busy n a k m kn s d h da wo W c1)
    have hm : mayF ⟨n, a, k, m⟩ ⟨kn, s, d, h, da, wo⟩ 115 = false := by simp [mayF]; omega
    simp [stepL, hm, lv]
theorem itk_inv (W : World) : Calls Try.prog 43 #[(.agg #[.int .i64 n, .int .i64 a, .int .i64 k, .int .i64 m]), (.agg #[.int .i64 kn, .int .i64 s, .int .i64 d, .int .i64 h, .int .i64 da, .int .i64 wo])] W fun e w' => e = .returned (.tuple #[lv (stepL ⟨n, a, k, m⟩ ⟨kn, s, d, h, da, wo⟩ 100), .bool (stepR ⟨n, a, k, m⟩ ⟨kn, s, d, h, da, wo⟩ 100)]) ∧ Below W.heap.size W w' := by
  have b := plan_bd hp
  have c := lk_bd hp hi
  by_cases c1 : da = -1
  · subst c1
    refine calls_congr ?_ (itk_none n a k m kn s d h wo W)
    have hm : mayF ⟨n, a, k, m⟩ ⟨kn, s, d, h, -1, wo⟩ 100 = false := by simp [mayF]
    simp [stepL, stepR, hm, lv]
  · obtain ⟨K, rfl⟩ : ∃ K : Nat, k = K := ⟨k.toNat, by omega⟩
    refine calls_congr ?_ (itk_any n a m kn s d h da wo K _ rfl W (by omega) (by omega) (by omega) (by omega) (by omega))
    have hm : mayF ⟨n, a, K, m⟩ ⟨kn, s, d, h, da, wo⟩ 100 = true := by simp [mayF]; omega
    simp [stepL, stepR, hm, doneF]
theorem iln_inv (W : World) : Calls Try.prog 47 #[(.agg #[.int .i64 n, .int .i64 a, .int .i64 k, .int .i64 m]), (.agg #[.int .i64 kn, .int .i64 s, .int .i64 d, .int .i64 h, .int .i64 da, .int .i64 wo])] W fun e w' => e = .returned (lv (stepL ⟨n, a, k, m⟩ ⟨kn, s, d, h, da, wo⟩ 97)) ∧ Below W.heap.size W w' := by
  have b := plan_bd hp
  have c := lk_bd hp hi
  by_cases c1 : wo = -1
  · subst c1
    refine calls_congr ?_ (iln_none n a k m kn s d h da W)
    have hm : mayF ⟨n, a, k, m⟩ ⟨kn, s, d, h, da, -1⟩ 97 = false := by simp [mayF]
    simp [stepL, hm, lv]
  · refine calls_congr ?_ (iln_any n a k m kn s d h da wo _ rfl W (by omega) (by omega) (by omega))
    have hm : mayF ⟨n, a, k, m⟩ ⟨kn, s, d, h, da, wo⟩ 97 = true := by simp [mayF]; omega
    simp [stepL, hm, doneF]
theorem isa_inv (W : World) (act : Nat) (h1 : 48 ≤ act) (h2 : act ≤ 57) : Calls Try.prog 48 #[(.agg #[.int .i64 kn, .int .i64 s, .int .i64 d, .int .i64 h, .int .i64 da, .int .i64 wo]), .int .i64 ((act : Int) - 48)] W fun e w' => e = .returned (lv (stepL ⟨n, a, k, m⟩ ⟨kn, s, d, h, da, wo⟩ act)) ∧ Below W.heap.size W w' := by
  have b := plan_bd hp
  have c := lk_bd hp hi
  refine calls_congr ?_ (isa_any kn s d h da wo ((act : Int) - 48) W (by omega) (by omega))
  by_cases c1 : da = -1 ∧ kn + ((act : Int) - 48) < s
  · have hm : mayF ⟨n, a, k, m⟩ ⟨kn, s, d, h, da, wo⟩ act = true := by
      unfold mayF; rw [if_neg (by omega), if_pos ⟨h1, h2⟩]; simp; omega
    rw [if_pos c1]
    simp only [stepL, hm, if_true, doneF]
    rw [if_neg (by omega), if_pos ⟨h1, h2⟩]
    simp [lv]; omega
  · have hm : mayF ⟨n, a, k, m⟩ ⟨kn, s, d, h, da, wo⟩ act = false := by
      unfold mayF; rw [if_neg (by omega), if_pos ⟨h1, h2⟩]; simp; omega
    rw [if_neg c1]
    simp [stepL, hm, lv]

theorem ibh_any (W : World) (act : Nat) (h1 : act ≤ 255) : Calls Try.prog 34 #[(.agg #[.int .i64 n, .int .i64 a, .int .i64 k, .int .i64 m]), (.agg #[.int .i64 kn, .int .i64 s, .int .i64 d, .int .i64 h, .int .i64 da, .int .i64 wo]), .int .u8 (act : Int)] W fun e w' => e = .returned (actV ⟨n, a, k, m⟩ ⟨kn, s, d, h, da, wo⟩ act) ∧ Below W.heap.size W w' := by
  unfold actV
  rw [← may_ne _ _ act hi]
  have b := plan_bd hp
  have c := lk_bd hp hi
  by_cases c1 : act = 115
  · subst c1
    refine calls_congr ?_ (ibh_s n a k m kn s d h da wo _ W (fun W => isd_inv hp hi W))
    simp [stepR, doneF, lv]
  by_cases c2 : 48 ≤ act ∧ act ≤ 57
  · refine calls_congr ?_ (ibh_g n a k m kn s d h da wo _ (act : Int) (by omega) (by omega) W (fun W => isa_inv hp hi W act c2.1 c2.2))
    have : stepR ⟨n, a, k, m⟩ ⟨kn, s, d, h, da, wo⟩ act = true := by
      unfold stepR doneF; rw [if_neg c1, if_pos c2]; simp
    rw [this]; rfl
  by_cases c3 : act = 100
  · subst c3
    exact ibh_d n a k m kn s d h da wo _ _ W (fun W => itk_inv hp hi W)
  by_cases c4 : act = 120
  · subst c4
    by_cases e : da = -1
    · subst e
      refine calls_congr ?_ (ibh_x n a k m kn s d h (-1) wo _ rfl W)
      have hm : mayF ⟨n, a, k, m⟩ ⟨kn, s, d, h, -1, wo⟩ 120 = false := by simp [mayF]
      simp [stepL, stepR, hm, lv]
    · refine calls_congr ?_ (ibh_x n a k m kn s d h da wo _ rfl W)
      have hm : mayF ⟨n, a, k, m⟩ ⟨kn, s, d, h, da, wo⟩ 120 = true := by simp [mayF]; omega
      simp [stepL, stepR, hm, doneF, lv]
  by_cases c5 : act = 97
  · subst c5
    refine calls_congr ?_ (ibh_a n a k m kn s d h da wo _ W (fun W => iln_inv hp hi W))
    simp [stepR, doneF, lv]
  by_cases c6 : act = 121
  · subst c6
    by_cases e : wo = -1
    · subst e
      refine calls_congr ?_ (ibh_y n a k m kn s d h da (-1) _ rfl W)
      have hm : mayF ⟨n, a, k, m⟩ ⟨kn, s, d, h, da, -1⟩ 121 = false := by simp [mayF]
      simp [stepL, stepR, hm, lv]
    · refine calls_congr ?_ (ibh_y n a k m kn s d h da wo _ rfl W)
      have hm : mayF ⟨n, a, k, m⟩ ⟨kn, s, d, h, da, wo⟩ 121 = true := by simp [mayF]; omega
      simp [stepL, stepR, hm, doneF, lv]
  · refine calls_congr ?_ (ibh_o n a k m kn s d h da wo (act : Int) (by omega) (by omega) (by omega) (by omega) (by omega) (by omega) (by omega) W)
    have hm : mayF ⟨n, a, k, m⟩ ⟨kn, s, d, h, da, wo⟩ act = false := by
      unfold mayF; rw [if_neg c1, if_neg c2, if_neg (by omega), if_neg (by omega)]
    simp [stepL, stepR, hm, lv]

theorem sSP_any (W : World) (act : Nat) (h1 : act ≤ 255) : Calls Try.prog 30 #[(.agg #[.int .i64 n, .int .i64 a, .int .i64 k, .int .i64 m]), (.agg #[.int .i64 kn, .int .i64 s, .int .i64 d, .int .i64 h, .int .i64 da, .int .i64 wo]), .int .u8 (act : Int)] W fun e w' => e = .returned (actV ⟨n, a, k, m⟩ ⟨kn, s, d, h, da, wo⟩ act) ∧ Below W.heap.size W w' := by
  unfold actV
  have b := plan_bd hp
  have c := lk_bd hp hi
  by_cases c1 : act = 115
  · subst c1
    by_cases e : da = -1
    · subst e
      by_cases e2 : m ≤ s
      · refine calls_congr ?_ (sst_s_all n a k m kn s d h wo W e2)
        have hm : mayF ⟨n, a, k, m⟩ ⟨kn, s, d, h, -1, wo⟩ 115 = false := by simp [mayF]; omega
        simp [stepL, stepR, hm, lv]
      · by_cases e3 : kn + a ≤ s
        · refine calls_congr ?_ (sst_s_full n a k m kn s d h wo W e2 e3 (by omega))
          have hm : mayF ⟨n, a, k, m⟩ ⟨kn, s, d, h, -1, wo⟩ 115 = false := by simp [mayF]; omega
          simp [stepL, stepR, hm, lv]
        · refine calls_congr ?_ (sst_s_yes n a k m kn s d h wo W (by omega) (by omega) (by omega))
          have hm : mayF ⟨n, a, k, m⟩ ⟨kn, s, d, h, -1, wo⟩ 115 = true := by simp [mayF]; omega
          simp [stepL, stepR, hm, doneF, sendF, lv]
    · refine calls_congr ?_ (sst_s_busy n a k m kn s d h da wo W (by omega))
      have hm : mayF ⟨n, a, k, m⟩ ⟨kn, s, d, h, da, wo⟩ 115 = false := by simp [mayF]; omega
      simp [stepL, stepR, hm, lv]
  by_cases c2 : 48 ≤ act ∧ act ≤ 57
  · by_cases e : da = -1
    · subst e
      by_cases e2 : kn + ((act : Int) - 48) < s
      · have hm : mayF ⟨n, a, k, m⟩ ⟨kn, s, d, h, -1, wo⟩ act = true := by
          unfold mayF; rw [if_neg c1, if_pos c2]; simp; omega
        have hl : stepL ⟨n, a, k, m⟩ ⟨kn, s, d, h, -1, wo⟩ act = ⟨kn, s, d, h, kn + ((act : Int) - 48), wo⟩ := by
          simp only [stepL, hm, if_true, doneF]
          rw [if_neg c1, if_pos c2]
          simp; omega
        have hr : stepR ⟨n, a, k, m⟩ ⟨kn, s, d, h, -1, wo⟩ act = true := by
          unfold stepR doneF; rw [if_neg c1, if_pos c2]; simp
        rw [hm, hl, hr]
        rcases (show act = 48 ∨ act = 49 ∨ act = 50 ∨ act = 51 ∨ act = 52 ∨ act = 53 ∨ act = 54 ∨ act = 55 ∨ act = 56 ∨ act = 57 from by omega) with rfl | rfl | rfl | rfl | rfl | rfl | rfl | rfl | rfl | rfl
        · exact calls_congr (by simp [lv]) (sst_g0_yes n a k m kn s d h wo W (by omega) (by omega))
        · exact calls_congr (by simp [lv]) (sst_g1_yes n a k m kn s d h wo W (by omega) (by omega))
        · exact calls_congr (by simp [lv]) (sst_g2_yes n a k m kn s d h wo W (by omega) (by omega))
        · exact calls_congr (by simp [lv]) (sst_g3_yes n a k m kn s d h wo W (by omega) (by omega))
        · exact calls_congr (by simp [lv]) (sst_g4_yes n a k m kn s d h wo W (by omega) (by omega))
        · exact calls_congr (by simp [lv]) (sst_g5_yes n a k m kn s d h wo W (by omega) (by omega))
        · exact calls_congr (by simp [lv]) (sst_g6_yes n a k m kn s d h wo W (by omega) (by omega))
        · exact calls_congr (by simp [lv]) (sst_g7_yes n a k m kn s d h wo W (by omega) (by omega))
        · exact calls_congr (by simp [lv]) (sst_g8_yes n a k m kn s d h wo W (by omega) (by omega))
        · exact calls_congr (by simp [lv]) (sst_g9_yes n a k m kn s d h wo W (by omega) (by omega))
      · have hm : mayF ⟨n, a, k, m⟩ ⟨kn, s, d, h, -1, wo⟩ act = false := by
          unfold mayF; rw [if_neg c1, if_pos c2]; simp; omega
        have hl : stepL ⟨n, a, k, m⟩ ⟨kn, s, d, h, -1, wo⟩ act = ⟨kn, s, d, h, -1, wo⟩ := by simp [stepL, hm]
        have hr : stepR ⟨n, a, k, m⟩ ⟨kn, s, d, h, -1, wo⟩ act = true := by simp [stepR, hm]
        rw [hm, hl, hr]
        rcases (show act = 48 ∨ act = 49 ∨ act = 50 ∨ act = 51 ∨ act = 52 ∨ act = 53 ∨ act = 54 ∨ act = 55 ∨ act = 56 ∨ act = 57 from by omega) with rfl | rfl | rfl | rfl | rfl | rfl | rfl | rfl | rfl | rfl
        · exact calls_congr (by simp [lv]) (sst_g0_no n a k m kn s d h wo W (by omega) (by omega))
        · exact calls_congr (by simp [lv]) (sst_g1_no n a k m kn s d h wo W (by omega) (by omega))
        · exact calls_congr (by simp [lv]) (sst_g2_no n a k m kn s d h wo W (by omega) (by omega))
        · exact calls_congr (by simp [lv]) (sst_g3_no n a k m kn s d h wo W (by omega) (by omega))
        · exact calls_congr (by simp [lv]) (sst_g4_no n a k m kn s d h wo W (by omega) (by omega))
        · exact calls_congr (by simp [lv]) (sst_g5_no n a k m kn s d h wo W (by omega) (by omega))
        · exact calls_congr (by simp [lv]) (sst_g6_no n a k m kn s d h wo W (by omega) (by omega))
        · exact calls_congr (by simp [lv]) (sst_g7_no n a k m kn s d h wo W (by omega) (by omega))
        · exact calls_congr (by simp [lv]) (sst_g8_no n a k m kn s d h wo W (by omega) (by omega))
        · exact calls_congr (by simp [lv]) (sst_g9_no n a k m kn s d h wo W (by omega) (by omega))
    · have hm : mayF ⟨n, a, k, m⟩ ⟨kn, s, d, h, da, wo⟩ act = false := by
        unfold mayF; rw [if_neg c1, if_pos c2]; simp; omega
      have hl : stepL ⟨n, a, k, m⟩ ⟨kn, s, d, h, da, wo⟩ act = ⟨kn, s, d, h, da, wo⟩ := by simp [stepL, hm]
      have hr : stepR ⟨n, a, k, m⟩ ⟨kn, s, d, h, da, wo⟩ act = true := by simp [stepR, hm]
      rw [hm, hl, hr]
      rcases (show act = 48 ∨ act = 49 ∨ act = 50 ∨ act = 51 ∨ act = 52 ∨ act = 53 ∨ act = 54 ∨ act = 55 ∨ act = 56 ∨ act = 57 from by omega) with rfl | rfl | rfl | rfl | rfl | rfl | rfl | rfl | rfl | rfl
      · exact calls_congr (by simp [lv]) (sst_g0_busy n a k m kn s d h da wo W (by omega) (by omega))
      · exact calls_congr (by simp [lv]) (sst_g1_busy n a k m kn s d h da wo W (by omega) (by omega))
      · exact calls_congr (by simp [lv]) (sst_g2_busy n a k m kn s d h da wo W (by omega) (by omega))
      · exact calls_congr (by simp [lv]) (sst_g3_busy n a k m kn s d h da wo W (by omega) (by omega))
      · exact calls_congr (by simp [lv]) (sst_g4_busy n a k m kn s d h da wo W (by omega) (by omega))
      · exact calls_congr (by simp [lv]) (sst_g5_busy n a k m kn s d h da wo W (by omega) (by omega))
      · exact calls_congr (by simp [lv]) (sst_g6_busy n a k m kn s d h da wo W (by omega) (by omega))
      · exact calls_congr (by simp [lv]) (sst_g7_busy n a k m kn s d h da wo W (by omega) (by omega))
      · exact calls_congr (by simp [lv]) (sst_g8_busy n a k m kn s d h da wo W (by omega) (by omega))
      · exact calls_congr (by simp [lv]) (sst_g9_busy n a k m kn s d h da wo W (by omega) (by omega))
  by_cases c3 : act = 100
  · subst c3
    by_cases e : da < 0
    · refine calls_congr ?_ (sst_d_no n a k m kn s d h da wo W e)
      have hm : mayF ⟨n, a, k, m⟩ ⟨kn, s, d, h, da, wo⟩ 100 = false := by simp [mayF]; omega
      simp [stepL, stepR, hm, lv]
    · obtain ⟨K, rfl⟩ : ∃ K : Nat, k = K := ⟨k.toNat, by omega⟩
      have hm : mayF ⟨n, a, K, m⟩ ⟨kn, s, d, h, da, wo⟩ 100 = true := by simp [mayF]; omega
      refine calls_congr ?_ (sst_d_yes n a K m kn s d h da wo _ _ W (by omega) (fun W => stk_any n a m kn s d h da wo K _ rfl W (by omega) (by omega) (by omega) (by omega) (by omega)))
      simp [stepL, stepR, hm, doneF, lv]
  by_cases c4 : act = 120
  · subst c4
    by_cases e : da < 0
    · refine calls_congr ?_ (sst_x_no n a k m kn s d h da wo W e)
      have hm : mayF ⟨n, a, k, m⟩ ⟨kn, s, d, h, da, wo⟩ 120 = false := by simp [mayF]; omega
      simp [stepL, stepR, hm, lv]
    · refine calls_congr ?_ (sst_x_yes n a k m kn s d h da wo W (by omega))
      have hm : mayF ⟨n, a, k, m⟩ ⟨kn, s, d, h, da, wo⟩ 120 = true := by simp [mayF]; omega
      simp [stepL, stepR, hm, doneF, lv]
  by_cases c5 : act = 97
  · subst c5
    by_cases e : wo < 0
    · refine calls_congr ?_ (sst_a_no n a k m kn s d h da wo W e)
      have hm : mayF ⟨n, a, k, m⟩ ⟨kn, s, d, h, da, wo⟩ 97 = false := by simp [mayF]; omega
      simp [stepL, stepR, hm, lv]
    · have hm : mayF ⟨n, a, k, m⟩ ⟨kn, s, d, h, da, wo⟩ 97 = true := by simp [mayF]; omega
      refine calls_congr ?_ (sst_a_yes n a k m kn s d h da wo _ W (by omega) (fun W => shr_any n a k m kn s d h da wo _ rfl W (by omega) (by omega) (by omega)))
      simp [stepL, stepR, hm, doneF, lv]
  by_cases c6 : act = 121
  · subst c6
    by_cases e : wo < 0
    · refine calls_congr ?_ (sst_y_no n a k m kn s d h da wo W e)
      have hm : mayF ⟨n, a, k, m⟩ ⟨kn, s, d, h, da, wo⟩ 121 = false := by simp [mayF]; omega
      simp [stepL, stepR, hm, lv]
    · refine calls_congr ?_ (sst_y_yes n a k m kn s d h da wo W (by omega))
      have hm : mayF ⟨n, a, k, m⟩ ⟨kn, s, d, h, da, wo⟩ 121 = true := by simp [mayF]; omega
      simp [stepL, stepR, hm, doneF, lv]
  · refine calls_congr ?_ (sst_o n a k m kn s d h da wo (act : Int) W (by omega) (by omega) (by omega) (by omega) (by omega) (by omega))
    have hm : mayF ⟨n, a, k, m⟩ ⟨kn, s, d, h, da, wo⟩ act = false := by
      unfold mayF; rw [if_neg c1, if_neg c2, if_neg (by omega), if_neg (by omega)]
    simp [stepL, stepR, hm, lv]
end
end Go.Proofs.Ytnbgfffcialfkaa
