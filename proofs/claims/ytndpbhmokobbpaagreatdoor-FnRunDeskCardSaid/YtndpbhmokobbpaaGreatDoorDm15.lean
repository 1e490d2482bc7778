/-
  The walk of the model's MendBits. Condition: the length that is typed.
-/
import Derived.Test.YtndpbhmokobbpaaGreatDoorDm14
namespace Go.Proofs.YtndpbhmokobbpaaGreatDoor
open Go.RowKit
set_option linter.unusedVariables false

/-- The place told by k of the seven bits. -/
def sy (y : Nat → UInt8) : Nat → Nat
  | 0 => 0
  | k + 1 => if y k = 49 then sy y k ^^^ (k + 1) else sy y k
theorem xor_fin : ∀ (a b : Fin 8), bits .xor .i64 ((a.val : Nat) : Int) ((b.val : Nat) : Int) = ((a.val ^^^ b.val : Nat) : Int) := by decide +kernel
theorem xor8 (a b : Nat) (ha : a < 8) (hb : b < 8) : bits .xor .i64 (a : Int) (b : Int) = ((a ^^^ b : Nat) : Int) := xor_fin ⟨a, ha⟩ ⟨b, hb⟩
theorem sy_lt (y : Nat → UInt8) : ∀ k, k ≤ 7 → sy y k < 8
  | 0, _ => by simp [sy]
  | k + 1, h => by
    unfold sy
    have := sy_lt y k (by omega)
    split
    · exact Nat.xor_lt_two_pow (n := 3) this (by omega)
    · exact this
theorem sy_fin : ∀ b0 b1 b2 b3 b4 b5 b6 : Bool, findP (fun j => [bl7 b0, bl7 b1, bl7 b2, bl7 b3, bl7 b4, bl7 b5, bl7 b6].getD j 0) 8 0 = some (sy (fun j => [bl7 b0, bl7 b1, bl7 b2, bl7 b3, bl7 b4, bl7 b5, bl7 b6].getD j 0) 7) := by decide +kernel
theorem sy_find {c0 c1 c2 c3 c4 c5 c6 : UInt8} (h0 : c0 = 48 ∨ c0 = 49) (h1 : c1 = 48 ∨ c1 = 49) (h2 : c2 = 48 ∨ c2 = 49) (h3 : c3 = 48 ∨ c3 = 49) (h4 : c4 = 48 ∨ c4 = 49) (h5 : c5 = 48 ∨ c5 = 49) (h6 : c6 = 48 ∨ c6 = 49) :
    mendR (fun j => [c0, c1, c2, c3, c4, c5, c6].getD j 0) = (⟨(four (tp (fun j => [c0, c1, c2, c3, c4, c5, c6].getD j 0) (sy (fun j => [c0, c1, c2, c3, c4, c5, c6].getD j 0) 7))).toArray⟩, (sy (fun j => [c0, c1, c2, c3, c4, c5, c6].getD j 0) 7 : Int)) := by
  obtain ⟨b0, rfl⟩ := bl7_of h0
  obtain ⟨b1, rfl⟩ := bl7_of h1
  obtain ⟨b2, rfl⟩ := bl7_of h2
  obtain ⟨b3, rfl⟩ := bl7_of h3
  obtain ⟨b4, rfl⟩ := bl7_of h4
  obtain ⟨b5, rfl⟩ := bl7_of h5
  obtain ⟨b6, rfl⟩ := bl7_of h6
  have := sy_fin b0 b1 b2 b3 b4 b5 b6
  unfold mendR
  rw [this]
/-- One bit against a one. -/
theorem sdf_any (c : UInt8) (h : c = 48 ∨ c = 49) (w : World) :
    Calls Tryz.prog 44 #[.string ⟨#[c]⟩, .string ⟨#[49]⟩] w fun e w' => e = .returned (.string ⟨#[flp c]⟩) ∧ ∃ m, w' = w.drewN m := by
  rcases h with rfl | rfl
  · go_enter Tryz.func44, Tryz.ntmps44
    go_wp2
    go_loopg [5, 6] 1 (fun g ov iv wr => ∃ i m : Nat, i ≤ 1 ∧ g = 1 - i ∧ iv = .int .i64 i ∧ ov = .string ⟨(if i = 0 then [] else [flp 48]).toArray⟩ ∧ wr = w.drewN m)
    case atStart => exact ⟨0, 0, by omega, rfl, rfl, rfl, rfl⟩
    case round =>
      obtain ⟨i, m, hi, hg, rfl, rfl, rfl⟩ := hrel
      have HG := Lib.hid hg
      clear hg
      rcases (show i = 0 ∨ i = 1 from by omega) with rfl | rfl
      · rw [show ((0 : Nat) : Int) = 0 from rfl]
        generalize hwj : w.drewN m = wj
        have HWJ := Lib.hid hwj
        clear hwj
        go_wp2
        go_quiet (fail)
        go_wp2
        go_roundg 0
        case measure => have := HG.out; omega
        case rel => exact ⟨1, m + nq, by omega, rfl, rfl, by first | rfl | decide, by rw [← HWJ.out, World.drewN_drewN]⟩
      · go_wp2
        go_ret
        exact ⟨rfl, m, rfl⟩
  · go_enter Tryz.func44, Tryz.ntmps44
    go_wp2
    go_loopg [5, 6] 1 (fun g ov iv wr => ∃ i m : Nat, i ≤ 1 ∧ g = 1 - i ∧ iv = .int .i64 i ∧ ov = .string ⟨(if i = 0 then [] else [flp 49]).toArray⟩ ∧ wr = w.drewN m)
    case atStart => exact ⟨0, 0, by omega, rfl, rfl, rfl, rfl⟩
    case round =>
      obtain ⟨i, m, hi, hg, rfl, rfl, rfl⟩ := hrel
      have HG := Lib.hid hg
      clear hg
      rcases (show i = 0 ∨ i = 1 from by omega) with rfl | rfl
      · rw [show ((0 : Nat) : Int) = 0 from rfl]
        generalize hwj : w.drewN m = wj
        have HWJ := Lib.hid hwj
        clear hwj
        go_wp2
        go_quiet (fail)
        go_wp2
        go_roundg 0
        case measure => have := HG.out; omega
        case rel => exact ⟨1, m + nq, by omega, rfl, rfl, by first | rfl | decide, by rw [← HWJ.out, World.drewN_drewN]⟩
      · go_wp2
        go_ret
        exact ⟨rfl, m, rfl⟩
/-- Cuts of seven bytes. -/
theorem ba_ext (A : Array UInt8) (b e : Nat) : ({ data := A } : ByteArray).extract b e = { data := A.extract b e } := by apply ByteArray.ext; simp
theorem ba_app (A B : Array UInt8) : ({ data := A } : ByteArray) ++ ({ data := B } : ByteArray) = { data := A ++ B } := by apply ByteArray.ext; simp

set_option maxHeartbeats 12800000 in
theorem sMB_yes (c0 c1 c2 c3 c4 c5 c6 : UInt8) (R : ByteArray × Int) (hR : mendR (fun j => [c0, c1, c2, c3, c4, c5, c6].getD j 0) = R) (w : World) (hb : bitsB 40 [c0, c1, c2, c3, c4, c5, c6] = true) :
    Calls Tryz.prog 31 #[.string (⟨#[c0, c1, c2, c3, c4, c5, c6]⟩ : ByteArray)] w fun e w' => e = .returned (.tuple #[.string R.1, .int .i64 R.2]) ∧ Below w.heap.size w w' := by
  have h1 := svb_any (⟨#[c0, c1, c2, c3, c4, c5, c6]⟩ : ByteArray) w (by simp [ByteArray.size]; unfold maxLen; omega)
  rw [show ((⟨#[c0, c1, c2, c3, c4, c5, c6]⟩ : ByteArray)).data.toList = [c0, c1, c2, c3, c4, c5, c6] from rfl, hb] at h1
  have H1 := Lib.hid h1
  have hall := List.all_eq_true.1 (show [c0, c1, c2, c3, c4, c5, c6].all isBit = true from by
    have : [c0, c1, c2, c3, c4, c5, c6].length ≤ 40 ∧ [c0, c1, c2, c3, c4, c5, c6].all isBit = true := by simpa [bitsB] using hb
    exact this.2)
  have b0 := Lib.hid (isBit_cases (hall c0 (by simp)))
  have b1 := Lib.hid (isBit_cases (hall c1 (by simp)))
  have b2 := Lib.hid (isBit_cases (hall c2 (by simp)))
  have b3 := Lib.hid (isBit_cases (hall c3 (by simp)))
  have b4 := Lib.hid (isBit_cases (hall c4 (by simp)))
  have b5 := Lib.hid (isBit_cases (hall c5 (by simp)))
  have b6 := Lib.hid (isBit_cases (hall c6 (by simp)))
  rw [sy_find b0.out b1.out b2.out b3.out b4.out b5.out b6.out] at hR
  have HRES := Lib.hid hR
  clear hR h1 hall hb
  go_enter Tryz.func31, Tryz.ntmps31
  go_wp2_with fail
  refine H1.out.mono ?_
  rintro e w' ⟨rfl, rfl⟩
  go_wp2
  go_loopg [4, 5] 7 (fun g av iv wr => ∃ k : Nat, k ≤ 7 ∧ g = 7 - k ∧ av = .int .i64 (sy (fun j => [c0, c1, c2, c3, c4, c5, c6].getD j 0) k : Int) ∧ iv = .int .i64 ((k + 1 : Nat) : Int) ∧ w = wr)
  case atStart => exact ⟨0, by omega, rfl, rfl, rfl, rfl⟩
  case round =>
    obtain ⟨k, hk, hg, rfl, rfl, rfl⟩ := hrel
    have HG := Lib.hid hg
    have hsy := sy_lt (fun j => [c0, c1, c2, c3, c4, c5, c6].getD j 0) k hk
    have HSU := Lib.hid (show ∀ c : UInt8, (fun j => [c0, c1, c2, c3, c4, c5, c6].getD j 0) k = c → sy (fun j => [c0, c1, c2, c3, c4, c5, c6].getD j 0) (k + 1) = if c = 49 then sy (fun j => [c0, c1, c2, c3, c4, c5, c6].getD j 0) k ^^^ (k + 1) else sy (fun j => [c0, c1, c2, c3, c4, c5, c6].getD j 0) k from fun c hc => by subst hc; rfl)
    generalize hsk : sy (fun j => [c0, c1, c2, c3, c4, c5, c6].getD j 0) k = a at *
    have HSK := Lib.hid hsk
    clear hg hsk
    rcases (show k = 0 ∨ k = 1 ∨ k = 2 ∨ k = 3 ∨ k = 4 ∨ k = 5 ∨ k = 6 ∨ k = 7 from by omega) with rfl | rfl | rfl | rfl | rfl | rfl | rfl | rfl
    · rw [show ((0 + 1 : Nat) : Int) = 1 from rfl]
      have HX := Lib.hid (xor8 a 1 hsy (by omega))
      have HSV := Lib.hid (HSU.out c0 rfl)
      rcases b0.out with e | e
      · have HE := Lib.hid e
        have e1 : (((({ data := #[c0, c1, c2, c3, c4, c5, c6] } : ByteArray)[0]'(by simp [ByteArray.size])).toNat : Int) == 49) = false := by show ((c0.toNat : Int) == 49) = false; rw [e]; decide
        clear e
        go_wp2
        go_roundg 6
        case measure => have := HG.out; omega
        case rel => exact ⟨1, by omega, rfl, by rw [HSV.out, if_neg (by rw [HE.out]; decide)], rfl, rfl⟩
      · have HE := Lib.hid e
        have e1 : (((({ data := #[c0, c1, c2, c3, c4, c5, c6] } : ByteArray)[0]'(by simp [ByteArray.size])).toNat : Int) == 49) = true := by show ((c0.toNat : Int) == 49) = true; rw [e]; decide
        clear e
        have hxx : bits .xor .i64 (a : Int) 1 = ((a ^^^ 1 : Nat) : Int) := HX.out
        go_wp2
        go_roundg 6
        case measure => have := HG.out; omega
        case rel => exact ⟨1, by omega, rfl, by rw [HSV.out, if_pos HE.out], rfl, rfl⟩
    · rw [show ((1 + 1 : Nat) : Int) = 2 from rfl]
      have HX := Lib.hid (xor8 a 2 hsy (by omega))
      have HSV := Lib.hid (HSU.out c1 rfl)
      rcases b1.out with e | e
      · have HE := Lib.hid e
        have e1 : (((({ data := #[c0, c1, c2, c3, c4, c5, c6] } : ByteArray)[1]'(by simp [ByteArray.size])).toNat : Int) == 49) = false := by show ((c1.toNat : Int) == 49) = false; rw [e]; decide
        clear e
        go_wp2
        go_roundg 5
        case measure => have := HG.out; omega
        case rel => exact ⟨2, by omega, rfl, by rw [HSV.out, if_neg (by rw [HE.out]; decide)], rfl, rfl⟩
      · have HE := Lib.hid e
        have e1 : (((({ data := #[c0, c1, c2, c3, c4, c5, c6] } : ByteArray)[1]'(by simp [ByteArray.size])).toNat : Int) == 49) = true := by show ((c1.toNat : Int) == 49) = true; rw [e]; decide
        clear e
        have hxx : bits .xor .i64 (a : Int) 2 = ((a ^^^ 2 : Nat) : Int) := HX.out
        go_wp2
        go_roundg 5
        case measure => have := HG.out; omega
        case rel => exact ⟨2, by omega, rfl, by rw [HSV.out, if_pos HE.out], rfl, rfl⟩
    · rw [show ((2 + 1 : Nat) : Int) = 3 from rfl]
      have HX := Lib.hid (xor8 a 3 hsy (by omega))
      have HSV := Lib.hid (HSU.out c2 rfl)
      rcases b2.out with e | e
      · have HE := Lib.hid e
        have e1 : (((({ data := #[c0, c1, c2, c3, c4, c5, c6] } : ByteArray)[2]'(by simp [ByteArray.size])).toNat : Int) == 49) = false := by show ((c2.toNat : Int) == 49) = false; rw [e]; decide
        clear e
        go_wp2
        go_roundg 4
        case measure => have := HG.out; omega
        case rel => exact ⟨3, by omega, rfl, by rw [HSV.out, if_neg (by rw [HE.out]; decide)], rfl, rfl⟩
      · have HE := Lib.hid e
        have e1 : (((({ data := #[c0, c1, c2, c3, c4, c5, c6] } : ByteArray)[2]'(by simp [ByteArray.size])).toNat : Int) == 49) = true := by show ((c2.toNat : Int) == 49) = true; rw [e]; decide
        clear e
        have hxx : bits .xor .i64 (a : Int) 3 = ((a ^^^ 3 : Nat) : Int) := HX.out
        go_wp2
        go_roundg 4
        case measure => have := HG.out; omega
        case rel => exact ⟨3, by omega, rfl, by rw [HSV.out, if_pos HE.out], rfl, rfl⟩
    · rw [show ((3 + 1 : Nat) : Int) = 4 from rfl]
      have HX := Lib.hid (xor8 a 4 hsy (by omega))
      have HSV := Lib.hid (HSU.out c3 rfl)
      rcases b3.out with e | e
      · have HE := Lib.hid e
        have e1 : (((({ data := #[c0, c1, c2, c3, c4, c5, c6] } : ByteArray)[3]'(by simp [ByteArray.size])).toNat : Int) == 49) = false := by show ((c3.toNat : Int) == 49) = false; rw [e]; decide
        clear e
        go_wp2
        go_roundg 3
        case measure => have := HG.out; omega
        case rel => exact ⟨4, by omega, rfl, by rw [HSV.out, if_neg (by rw [HE.out]; decide)], rfl, rfl⟩
      · have HE := Lib.hid e
        have e1 : (((({ data := #[c0, c1, c2, c3, c4, c5, c6] } : ByteArray)[3]'(by simp [ByteArray.size])).toNat : Int) == 49) = true := by show ((c3.toNat : Int) == 49) = true; rw [e]; decide
        clear e
        have hxx : bits .xor .i64 (a : Int) 4 = ((a ^^^ 4 : Nat) : Int) := HX.out
        go_wp2
        go_roundg 3
        case measure => have := HG.out; omega
        case rel => exact ⟨4, by omega, rfl, by rw [HSV.out, if_pos HE.out], rfl, rfl⟩
    · rw [show ((4 + 1 : Nat) : Int) = 5 from rfl]
      have HX := Lib.hid (xor8 a 5 hsy (by omega))
      have HSV := Lib.hid (HSU.out c4 rfl)
      rcases b4.out with e | e
      · have HE := Lib.hid e
        have e1 : (((({ data := #[c0, c1, c2, c3, c4, c5, c6] } : ByteArray)[4]'(by simp [ByteArray.size])).toNat : Int) == 49) = false := by show ((c4.toNat : Int) == 49) = false; rw [e]; decide
        clear e
        go_wp2
        go_roundg 2
        case measure => have := HG.out; omega
        case rel => exact ⟨5, by omega, rfl, by rw [HSV.out, if_neg (by rw [HE.out]; decide)], rfl, rfl⟩
      · have HE := Lib.hid e
        have e1 : (((({ data := #[c0, c1, c2, c3, c4, c5, c6] } : ByteArray)[4]'(by simp [ByteArray.size])).toNat : Int) == 49) = true := by show ((c4.toNat : Int) == 49) = true; rw [e]; decide
        clear e
        have hxx : bits .xor .i64 (a : Int) 5 = ((a ^^^ 5 : Nat) : Int) := HX.out
        go_wp2
        go_roundg 2
        case measure => have := HG.out; omega
        case rel => exact ⟨5, by omega, rfl, by rw [HSV.out, if_pos HE.out], rfl, rfl⟩
    · rw [show ((5 + 1 : Nat) : Int) = 6 from rfl]
      have HX := Lib.hid (xor8 a 6 hsy (by omega))
      have HSV := Lib.hid (HSU.out c5 rfl)
      rcases b5.out with e | e
      · have HE := Lib.hid e
        have e1 : (((({ data := #[c0, c1, c2, c3, c4, c5, c6] } : ByteArray)[5]'(by simp [ByteArray.size])).toNat : Int) == 49) = false := by show ((c5.toNat : Int) == 49) = false; rw [e]; decide
        clear e
        go_wp2
        go_roundg 1
        case measure => have := HG.out; omega
        case rel => exact ⟨6, by omega, rfl, by rw [HSV.out, if_neg (by rw [HE.out]; decide)], rfl, rfl⟩
      · have HE := Lib.hid e
        have e1 : (((({ data := #[c0, c1, c2, c3, c4, c5, c6] } : ByteArray)[5]'(by simp [ByteArray.size])).toNat : Int) == 49) = true := by show ((c5.toNat : Int) == 49) = true; rw [e]; decide
        clear e
        have hxx : bits .xor .i64 (a : Int) 6 = ((a ^^^ 6 : Nat) : Int) := HX.out
        go_wp2
        go_roundg 1
        case measure => have := HG.out; omega
        case rel => exact ⟨6, by omega, rfl, by rw [HSV.out, if_pos HE.out], rfl, rfl⟩
    · rw [show ((6 + 1 : Nat) : Int) = 7 from rfl]
      have HX := Lib.hid (xor8 a 7 hsy (by omega))
      have HSV := Lib.hid (HSU.out c6 rfl)
      rcases b6.out with e | e
      · have HE := Lib.hid e
        have e1 : (((({ data := #[c0, c1, c2, c3, c4, c5, c6] } : ByteArray)[6]'(by simp [ByteArray.size])).toNat : Int) == 49) = false := by show ((c6.toNat : Int) == 49) = false; rw [e]; decide
        clear e
        go_wp2
        go_roundg 0
        case measure => have := HG.out; omega
        case rel => exact ⟨7, by omega, rfl, by rw [HSV.out, if_neg (by rw [HE.out]; decide)], rfl, rfl⟩
      · have HE := Lib.hid e
        have e1 : (((({ data := #[c0, c1, c2, c3, c4, c5, c6] } : ByteArray)[6]'(by simp [ByteArray.size])).toNat : Int) == 49) = true := by show ((c6.toNat : Int) == 49) = true; rw [e]; decide
        clear e
        have hxx : bits .xor .i64 (a : Int) 7 = ((a ^^^ 7 : Nat) : Int) := HX.out
        go_wp2
        go_roundg 0
        case measure => have := HG.out; omega
        case rel => exact ⟨7, by omega, rfl, by rw [HSV.out, if_pos HE.out], rfl, rfl⟩
    · rw [show ((7 + 1 : Nat) : Int) = 8 from rfl]
      rcases (show a = 0 ∨ a = 1 ∨ a = 2 ∨ a = 3 ∨ a = 4 ∨ a = 5 ∨ a = 6 ∨ a = 7 from by omega) with rfl | rfl | rfl | rfl | rfl | rfl | rfl | rfl
      · rw [show ((0 : Nat) : Int) = 0 from rfl]
        have y2_3 : ({ data := #[c0, c1, c2, c3, c4, c5, c6] } : ByteArray).extract 2 3 = ({ data := #[c2] } : ByteArray) := ba_ext _ _ _
        have y4_7 : ({ data := #[c0, c1, c2, c3, c4, c5, c6] } : ByteArray).extract 4 7 = ({ data := #[c4, c5, c6] } : ByteArray) := ba_ext _ _ _
        have ya : ({ data := #[c2] } : ByteArray) ++ ({ data := #[c4, c5, c6] } : ByteArray) = ({ data := #[c2, c4, c5, c6] } : ByteArray) := ba_app _ _
        go_wp2
        go_quiet (fail)
        go_wp2
        go_ret2
        exact ⟨by rw [← HRES.out, HSK.out]; rfl, belowD (Below.refl _ _) _⟩
      · rw [show ((1 : Nat) : Int) = 1 from rfl]
        have x0_0 : ({ data := #[c0, c1, c2, c3, c4, c5, c6] } : ByteArray).extract 0 0 = ({ data := #[] } : ByteArray) := ba_ext _ _ _
        have x0_1 : ({ data := #[c0, c1, c2, c3, c4, c5, c6] } : ByteArray).extract 0 1 = ({ data := #[c0] } : ByteArray) := ba_ext _ _ _
        have x1_7 : ({ data := #[c0, c1, c2, c3, c4, c5, c6] } : ByteArray).extract 1 7 = ({ data := #[c1, c2, c3, c4, c5, c6] } : ByteArray) := ba_ext _ _ _
        have xa : ({ data := #[] } : ByteArray) ++ ({ data := #[flp c0] } : ByteArray) = ({ data := #[flp c0] } : ByteArray) := ba_app _ _
        have xb : ({ data := #[flp c0] } : ByteArray) ++ ({ data := #[c1, c2, c3, c4, c5, c6] } : ByteArray) = ({ data := #[flp c0, c1, c2, c3, c4, c5, c6] } : ByteArray) := ba_app _ _
        have HDF := Lib.hid (fun W => sdf_any c0 b0.out W)
        have y2_3 : ({ data := #[flp c0, c1, c2, c3, c4, c5, c6] } : ByteArray).extract 2 3 = ({ data := #[c2] } : ByteArray) := ba_ext _ _ _
        have y4_7 : ({ data := #[flp c0, c1, c2, c3, c4, c5, c6] } : ByteArray).extract 4 7 = ({ data := #[c4, c5, c6] } : ByteArray) := ba_ext _ _ _
        have ya : ({ data := #[c2] } : ByteArray) ++ ({ data := #[c4, c5, c6] } : ByteArray) = ({ data := #[c2, c4, c5, c6] } : ByteArray) := ba_app _ _
        go_wp2
        go_quiet ((go_at_call 44; exact Calls.quiet_of (HDF.out _)))
        go_wp2
        go_quiet (fail)
        go_wp2
        go_ret2
        exact ⟨by rw [← HRES.out, HSK.out]; rfl, belowD (belowD (Below.refl _ _) _) _⟩
      · rw [show ((2 : Nat) : Int) = 2 from rfl]
        have x0_1 : ({ data := #[c0, c1, c2, c3, c4, c5, c6] } : ByteArray).extract 0 1 = ({ data := #[c0] } : ByteArray) := ba_ext _ _ _
        have x1_2 : ({ data := #[c0, c1, c2, c3, c4, c5, c6] } : ByteArray).extract 1 2 = ({ data := #[c1] } : ByteArray) := ba_ext _ _ _
        have x2_7 : ({ data := #[c0, c1, c2, c3, c4, c5, c6] } : ByteArray).extract 2 7 = ({ data := #[c2, c3, c4, c5, c6] } : ByteArray) := ba_ext _ _ _
        have xa : ({ data := #[c0] } : ByteArray) ++ ({ data := #[flp c1] } : ByteArray) = ({ data := #[c0, flp c1] } : ByteArray) := ba_app _ _
        have xb : ({ data := #[c0, flp c1] } : ByteArray) ++ ({ data := #[c2, c3, c4, c5, c6] } : ByteArray) = ({ data := #[c0, flp c1, c2, c3, c4, c5, c6] } : ByteArray) := ba_app _ _
        have HDF := Lib.hid (fun W => sdf_any c1 b1.out W)
        have y2_3 : ({ data := #[c0, flp c1, c2, c3, c4, c5, c6] } : ByteArray).extract 2 3 = ({ data := #[c2] } : ByteArray) := ba_ext _ _ _
        have y4_7 : ({ data := #[c0, flp c1, c2, c3, c4, c5, c6] } : ByteArray).extract 4 7 = ({ data := #[c4, c5, c6] } : ByteArray) := ba_ext _ _ _
        have ya : ({ data := #[c2] } : ByteArray) ++ ({ data := #[c4, c5, c6] } : ByteArray) = ({ data := #[c2, c4, c5, c6] } : ByteArray) := ba_app _ _
        go_wp2
        go_quiet ((go_at_call 44; exact Calls.quiet_of (HDF.out _)))
        go_wp2
        go_quiet (fail)
        go_wp2
        go_ret2
        exact ⟨by rw [← HRES.out, HSK.out]; rfl, belowD (belowD (Below.refl _ _) _) _⟩
      · rw [show ((3 : Nat) : Int) = 3 from rfl]
        have x0_2 : ({ data := #[c0, c1, c2, c3, c4, c5, c6] } : ByteArray).extract 0 2 = ({ data := #[c0, c1] } : ByteArray) := ba_ext _ _ _
        have x2_3 : ({ data := #[c0, c1, c2, c3, c4, c5, c6] } : ByteArray).extract 2 3 = ({ data := #[c2] } : ByteArray) := ba_ext _ _ _
        have x3_7 : ({ data := #[c0, c1, c2, c3, c4, c5, c6] } : ByteArray).extract 3 7 = ({ data := #[c3, c4, c5, c6] } : ByteArray) := ba_ext _ _ _
        have xa : ({ data := #[c0, c1] } : ByteArray) ++ ({ data := #[flp c2] } : ByteArray) = ({ data := #[c0, c1, flp c2] } : ByteArray) := ba_app _ _
        have xb : ({ data := #[c0, c1, flp c2] } : ByteArray) ++ ({ data := #[c3, c4, c5, c6] } : ByteArray) = ({ data := #[c0, c1, flp c2, c3, c4, c5, c6] } : ByteArray) := ba_app _ _
        have HDF := Lib.hid (fun W => sdf_any c2 b2.out W)
        have y2_3 : ({ data := #[c0, c1, flp c2, c3, c4, c5, c6] } : ByteArray).extract 2 3 = ({ data := #[flp c2] } : ByteArray) := ba_ext _ _ _
        have y4_7 : ({ data := #[c0, c1, flp c2, c3, c4, c5, c6] } : ByteArray).extract 4 7 = ({ data := #[c4, c5, c6] } : ByteArray) := ba_ext _ _ _
        have ya : ({ data := #[flp c2] } : ByteArray) ++ ({ data := #[c4, c5, c6] } : ByteArray) = ({ data := #[flp c2, c4, c5, c6] } : ByteArray) := ba_app _ _
        go_wp2
        go_quiet ((go_at_call 44; exact Calls.quiet_of (HDF.out _)))
        go_wp2
        go_quiet (fail)
        go_wp2
        go_ret2
        exact ⟨by rw [← HRES.out, HSK.out]; rfl, belowD (belowD (Below.refl _ _) _) _⟩
      · rw [show ((4 : Nat) : Int) = 4 from rfl]
        have x0_3 : ({ data := #[c0, c1, c2, c3, c4, c5, c6] } : ByteArray).extract 0 3 = ({ data := #[c0, c1, c2] } : ByteArray) := ba_ext _ _ _
        have x3_4 : ({ data := #[c0, c1, c2, c3, c4, c5, c6] } : ByteArray).extract 3 4 = ({ data := #[c3] } : ByteArray) := ba_ext _ _ _
        have x4_7 : ({ data := #[c0, c1, c2, c3, c4, c5, c6] } : ByteArray).extract 4 7 = ({ data := #[c4, c5, c6] } : ByteArray) := ba_ext _ _ _
        have xa : ({ data := #[c0, c1, c2] } : ByteArray) ++ ({ data := #[flp c3] } : ByteArray) = ({ data := #[c0, c1, c2, flp c3] } : ByteArray) := ba_app _ _
        have xb : ({ data := #[c0, c1, c2, flp c3] } : ByteArray) ++ ({ data := #[c4, c5, c6] } : ByteArray) = ({ data := #[c0, c1, c2, flp c3, c4, c5, c6] } : ByteArray) := ba_app _ _
        have HDF := Lib.hid (fun W => sdf_any c3 b3.out W)
        have y2_3 : ({ data := #[c0, c1, c2, flp c3, c4, c5, c6] } : ByteArray).extract 2 3 = ({ data := #[c2] } : ByteArray) := ba_ext _ _ _
        have y4_7 : ({ data := #[c0, c1, c2, flp c3, c4, c5, c6] } : ByteArray).extract 4 7 = ({ data := #[c4, c5, c6] } : ByteArray) := ba_ext _ _ _
        have ya : ({ data := #[c2] } : ByteArray) ++ ({ data := #[c4, c5, c6] } : ByteArray) = ({ data := #[c2, c4, c5, c6] } : ByteArray) := ba_app _ _
        go_wp2
        go_quiet ((go_at_call 44; exact Calls.quiet_of (HDF.out _)))
        go_wp2
        go_quiet (fail)
        go_wp2
        go_ret2
        exact ⟨by rw [← HRES.out, HSK.out]; rfl, belowD (belowD (Below.refl _ _) _) _⟩
      · rw [show ((5 : Nat) : Int) = 5 from rfl]
        have x0_4 : ({ data := #[c0, c1, c2, c3, c4, c5, c6] } : ByteArray).extract 0 4 = ({ data := #[c0, c1, c2, c3] } : ByteArray) := ba_ext _ _ _
        have x4_5 : ({ data := #[c0, c1, c2, c3, c4, c5, c6] } : ByteArray).extract 4 5 = ({ data := #[c4] } : ByteArray) := ba_ext _ _ _
        have x5_7 : ({ data := #[c0, c1, c2, c3, c4, c5, c6] } : ByteArray).extract 5 7 = ({ data := #[c5, c6] } : ByteArray) := ba_ext _ _ _
        have xa : ({ data := #[c0, c1, c2, c3] } : ByteArray) ++ ({ data := #[flp c4] } : ByteArray) = ({ data := #[c0, c1, c2, c3, flp c4] } : ByteArray) := ba_app _ _
        have xb : ({ data := #[c0, c1, c2, c3, flp c4] } : ByteArray) ++ ({ data := #[c5, c6] } : ByteArray) = ({ data := #[c0, c1, c2, c3, flp c4, c5, c6] } : ByteArray) := ba_app _ _
        have HDF := Lib.hid (fun W => sdf_any c4 b4.out W)
        have y2_3 : ({ data := #[c0, c1, c2, c3, flp c4, c5, c6] } : ByteArray).extract 2 3 = ({ data := #[c2] } : ByteArray) := ba_ext _ _ _
        have y4_7 : ({ data := #[c0, c1, c2, c3, flp c4, c5, c6] } : ByteArray).extract 4 7 = ({ data := #[flp c4, c5, c6] } : ByteArray) := ba_ext _ _ _
        have ya : ({ data := #[c2] } : ByteArray) ++ ({ data := #[flp c4, c5, c6] } : ByteArray) = ({ data := #[c2, flp c4, c5, c6] } : ByteArray) := ba_app _ _
        go_wp2
        go_quiet ((go_at_call 44; exact Calls.quiet_of (HDF.out _)))
        go_wp2
        go_quiet (fail)
        go_wp2
        go_ret2
        exact ⟨by rw [← HRES.out, HSK.out]; rfl, belowD (belowD (Below.refl _ _) _) _⟩
      · rw [show ((6 : Nat) : Int) = 6 from rfl]
        have x0_5 : ({ data := #[c0, c1, c2, c3, c4, c5, c6] } : ByteArray).extract 0 5 = ({ data := #[c0, c1, c2, c3, c4] } : ByteArray) := ba_ext _ _ _
        have x5_6 : ({ data := #[c0, c1, c2, c3, c4, c5, c6] } : ByteArray).extract 5 6 = ({ data := #[c5] } : ByteArray) := ba_ext _ _ _
        have x6_7 : ({ data := #[c0, c1, c2, c3, c4, c5, c6] } : ByteArray).extract 6 7 = ({ data := #[c6] } : ByteArray) := ba_ext _ _ _
        have xa : ({ data := #[c0, c1, c2, c3, c4] } : ByteArray) ++ ({ data := #[flp c5] } : ByteArray) = ({ data := #[c0, c1, c2, c3, c4, flp c5] } : ByteArray) := ba_app _ _
        have xb : ({ data := #[c0, c1, c2, c3, c4, flp c5] } : ByteArray) ++ ({ data := #[c6] } : ByteArray) = ({ data := #[c0, c1, c2, c3, c4, flp c5, c6] } : ByteArray) := ba_app _ _
        have HDF := Lib.hid (fun W => sdf_any c5 b5.out W)
        have y2_3 : ({ data := #[c0, c1, c2, c3, c4, flp c5, c6] } : ByteArray).extract 2 3 = ({ data := #[c2] } : ByteArray) := ba_ext _ _ _
        have y4_7 : ({ data := #[c0, c1, c2, c3, c4, flp c5, c6] } : ByteArray).extract 4 7 = ({ data := #[c4, flp c5, c6] } : ByteArray) := ba_ext _ _ _
        have ya : ({ data := #[c2] } : ByteArray) ++ ({ data := #[c4, flp c5, c6] } : ByteArray) = ({ data := #[c2, c4, flp c5, c6] } : ByteArray) := ba_app _ _
        go_wp2
        go_quiet ((go_at_call 44; exact Calls.quiet_of (HDF.out _)))
        go_wp2
        go_quiet (fail)
        go_wp2
        go_ret2
        exact ⟨by rw [← HRES.out, HSK.out]; rfl, belowD (belowD (Below.refl _ _) _) _⟩
      · rw [show ((7 : Nat) : Int) = 7 from rfl]
        have x0_6 : ({ data := #[c0, c1, c2, c3, c4, c5, c6] } : ByteArray).extract 0 6 = ({ data := #[c0, c1, c2, c3, c4, c5] } : ByteArray) := ba_ext _ _ _
        have x6_7 : ({ data := #[c0, c1, c2, c3, c4, c5, c6] } : ByteArray).extract 6 7 = ({ data := #[c6] } : ByteArray) := ba_ext _ _ _
        have x7_7 : ({ data := #[c0, c1, c2, c3, c4, c5, c6] } : ByteArray).extract 7 7 = ({ data := #[] } : ByteArray) := ba_ext _ _ _
        have xa : ({ data := #[c0, c1, c2, c3, c4, c5] } : ByteArray) ++ ({ data := #[flp c6] } : ByteArray) = ({ data := #[c0, c1, c2, c3, c4, c5, flp c6] } : ByteArray) := ba_app _ _
        have xb : ({ data := #[c0, c1, c2, c3, c4, c5, flp c6] } : ByteArray) ++ ({ data := #[] } : ByteArray) = ({ data := #[c0, c1, c2, c3, c4, c5, flp c6] } : ByteArray) := ba_app _ _
        have HDF := Lib.hid (fun W => sdf_any c6 b6.out W)
        have y2_3 : ({ data := #[c0, c1, c2, c3, c4, c5, flp c6] } : ByteArray).extract 2 3 = ({ data := #[c2] } : ByteArray) := ba_ext _ _ _
        have y4_7 : ({ data := #[c0, c1, c2, c3, c4, c5, flp c6] } : ByteArray).extract 4 7 = ({ data := #[c4, c5, flp c6] } : ByteArray) := ba_ext _ _ _
        have ya : ({ data := #[c2] } : ByteArray) ++ ({ data := #[c4, c5, flp c6] } : ByteArray) = ({ data := #[c2, c4, c5, flp c6] } : ByteArray) := ba_app _ _
        go_wp2
        go_quiet ((go_at_call 44; exact Calls.quiet_of (HDF.out _)))
        go_wp2
        go_quiet (fail)
        go_wp2
        go_ret2
        exact ⟨by rw [← HRES.out, HSK.out]; rfl, belowD (belowD (Below.refl _ _) _) _⟩
end Go.Proofs.YtndpbhmokobbpaaGreatDoor
