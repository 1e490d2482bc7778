/-
  The walk of the model's function that guards four bits. No condition but that the bits are bits.
-/
import Derived.Test.YtndpbhmokobbpaaGreatDoorDm10
import Derived.Test.YtndpbhmokobbpaaGreatDoorDm03
namespace Go.Proofs.YtndpbhmokobbpaaGreatDoor
open Go.RowKit
set_option linter.unusedVariables false

/-- The number of a bit. -/
def nb (c : UInt8) : Int := if c = 49 then 1 else 0
theorem nb_bd (c : UInt8) : 0 ≤ nb c ∧ nb c ≤ 1 := by unfold nb; split <;> omega
def putI (x : Nat → UInt8) (k : Nat) : List Int := [0, 0, if 0 < k then nb (x 0) else 0, 0, if 1 < k then nb (x 1) else 0, if 2 < k then nb (x 2) else 0, if 3 < k then nb (x 3) else 0]
/-- The sum for the digit j, of i places. -/
def sI (x : Nat → UInt8) (j : Nat) : Nat → Int
  | 0 => 0
  | i + 1 => sI x j i + (if j = 0 ∧ i + 1 = 3 ∨ j = 1 ∧ i + 1 = 3 then nb (x 0) else if j = 0 ∧ i + 1 = 5 ∨ j = 2 ∧ i + 1 = 5 then nb (x 1) else if j = 1 ∧ i + 1 = 6 ∨ j = 2 ∧ i + 1 = 6 then nb (x 2) else if i + 1 = 7 then nb (x 3) else 0)
theorem sI_bd (x : Nat → UInt8) (j : Nat) : ∀ i, 0 ≤ sI x j i ∧ sI x j i ≤ i
  | 0 => by simp [sI]
  | i + 1 => by
    have h := sI_bd x j i
    have h0 := nb_bd (x 0)
    have h1 := nb_bd (x 1)
    have h2 := nb_bd (x 2)
    have h3 := nb_bd (x 3)
    unfold sI
    split
    · omega
    · split
      · omega
      · split
        · omega
        · split <;> omega
def pw2 : Nat → Int
  | 0 => 1
  | 1 => 2
  | 2 => 4
  | _ => 8
theorem take_mk (l : List UInt8) (i : Nat) (c : UInt8) (h : i < l.length) (e : l.getD i 0 = c) : ByteArray.mk (l.take i).toArray ++ ({ data := #[c] } : ByteArray) = ByteArray.mk (l.take (i + 1)).toArray := by
  rw [show (#[c] : Array UInt8) = [c].toArray from rfl, ByteArray.mk_append_mk, List.take_add_one, List.getElem?_eq_getElem h]
  simp [List.getD_eq_getElem?_getD, List.getElem?_eq_getElem h] at e
  simp [e]
def finI (x : Nat → UInt8) (j : Nat) : List Int := [if 0 < j then sI x 0 7 % 2 else 0, if 1 < j then sI x 1 7 % 2 else 0, nb (x 0), if 2 < j then sI x 2 7 % 2 else 0, nb (x 1), nb (x 2), nb (x 3)]
theorem fin_nb (x : Nat → UInt8) (hb : ∀ k, k < 4 → x k = 48 ∨ x k = 49) (i : Nat) (hi : i < 7) : (finI x 3).getD i 0 = nb ((gd7 x).getD i 0) := by
  have e0 := hb 0 (by omega)
  have e1 := hb 1 (by omega)
  have e2 := hb 2 (by omega)
  have e3 := hb 3 (by omega)
  rcases e0 with e0 | e0 <;> rcases e1 with e1 | e1 <;> rcases e2 with e2 | e2 <;> rcases e3 with e3 | e3 <;>
    (match i, hi with
    | 0, _ => simp [finI, gd7, sI, fl, flp, hitB, nb, e0, e1, e2, e3]
    | 1, _ => simp [finI, gd7, sI, fl, flp, hitB, nb, e0, e1, e2, e3]
    | 2, _ => simp [finI, gd7]
    | 3, _ => simp [finI, gd7, sI, fl, flp, hitB, nb, e0, e1, e2, e3]
    | 4, _ => simp [finI, gd7]
    | 5, _ => simp [finI, gd7]
    | 6, _ => simp [finI, gd7]
    | n + 7, h => omega)
theorem gd_bit (x : Nat → UInt8) (hb : ∀ k, k < 4 → x k = 48 ∨ x k = 49) (i : Nat) (hi : i < 7) : (gd7 x).getD i 0 = 48 ∨ (gd7 x).getD i 0 = 49 := by
  match i, hi with
  | 0, _ => exact fl_bit x 0 4
  | 1, _ => exact fl_bit x 1 4
  | 2, _ => exact hb 0 (by omega)
  | 3, _ => exact fl_bit x 2 4
  | 4, _ => exact hb 1 (by omega)
  | 5, _ => exact hb 2 (by omega)
  | 6, _ => exact hb 3 (by omega)
  | n + 7, h => omega

set_option maxHeartbeats 6400000 in
theorem sgd_any (w : World) (s : ByteArray) (x : Nat → UInt8) (hs : s.size = 4) (hx : ∀ k (hk : k < s.size), s[k] = x k) (hb : ∀ k, k < 4 → x k = 48 ∨ x k = 49) :
    Calls Tryz.prog 20 #[.string s] w fun e w' => e = .returned (.string ⟨(gd7 x).toArray⟩) ∧ Below w.heap.size w w' := by
  have ho : OwnI (w.alloc (.cells #[.int .i64 0, .int .i64 0, .int .i64 0, .int .i64 0, .int .i64 0, .int .i64 0, .int .i64 0] 3)) w.heap.size w.heap.size 7 [0, 0, 0, 0, 0, 0, 0] :=
    World.ownsRow_lit (base := w.heap.size) (size := 1) (e := 3) w #[.int .i64 0, .int .i64 0, .int .i64 0, .int .i64 0, .int .i64 0, .int .i64 0, .int .i64 0] 7 (Nat.le_refl _) (by rw [mx]; omega) (by simp)
  have hp : OwnI ((w.alloc (.cells #[.int .i64 0, .int .i64 0, .int .i64 0, .int .i64 0, .int .i64 0, .int .i64 0, .int .i64 0] 3)).alloc (.cells #[.int .i64 2, .int .i64 4, .int .i64 5, .int .i64 6] 3)) w.heap.size (w.heap.size + 1) 4 [2, 4, 5, 6] := by
    have := World.ownsRow_lit (base := w.heap.size) (size := 1) (e := 3) (w.alloc (.cells #[.int .i64 0, .int .i64 0, .int .i64 0, .int .i64 0, .int .i64 0, .int .i64 0, .int .i64 0] 3)) #[.int .i64 2, .int .i64 4, .int .i64 5, .int .i64 6] 4 (by simp) (by rw [mx]; omega) (by simp)
    rw [World.size_alloc] at this
    exact this
  have ho2 : OwnI ((w.alloc (.cells #[.int .i64 0, .int .i64 0, .int .i64 0, .int .i64 0, .int .i64 0, .int .i64 0, .int .i64 0] 3)).alloc (.cells #[.int .i64 2, .int .i64 4, .int .i64 5, .int .i64 6] 3)) w.heap.size w.heap.size 7 [0, 0, 0, 0, 0, 0, 0] := World.ownsRow.alloc ho _
  have hb2 : Below w.heap.size w ((w.alloc (.cells #[.int .i64 0, .int .i64 0, .int .i64 0, .int .i64 0, .int .i64 0, .int .i64 0, .int .i64 0] 3)).alloc (.cells #[.int .i64 2, .int .i64 4, .int .i64 5, .int .i64 6] 3)) := ((Below.refl _ _).alloc (Nat.le_refl _) _).alloc (by simp) _
  have HO := Lib.hid ho2
  have HP := Lib.hid hp
  have HB2 := Lib.hid hb2
  have HX := Lib.hid hx
  have HBIT := Lib.hid hb
  have HFIN := Lib.hid (fin_nb x hb)
  have HGB := Lib.hid (gd_bit x hb)
  clear ho hp ho2 hb2 hx hb
  go_enter Tryz.func20, Tryz.ntmps20
  go_wp2
  go_loopw [5] (fun kv wr => ∃ k : Nat, k ≤ 4 ∧ kv = .int .i64 k ∧ OwnI wr w.heap.size w.heap.size 7 (putI x k) ∧ OwnI wr w.heap.size (w.heap.size + 1) 4 [2, 4, 5, 6] ∧ Below w.heap.size w wr ∧ w.heap.size ≤ wr.heap.size) (fun kv _ => 4 - (intOf kv).toNat)
  case atStart => exact ⟨0, by omega, rfl, by simpa [putI] using HO.out, HP.out, HB2.out, HB2.out.size⟩
  case round =>
    obtain ⟨k, hk, rfl, hown, hpl, hbel, hsz⟩ := hrel
    have HBEL := Lib.hid hbel
    have HPL := Lib.hid hpl
    clear hbel hpl
    rcases (show k = 0 ∨ k = 1 ∨ k = 2 ∨ k = 3 ∨ k = 4 from by omega) with rfl | rfl | rfl | rfl | rfl
    · have hxk := HX.out 0 (by omega)
      rcases HBIT.out 0 (by omega) with e | e
      · rw [e] at hxk
        have hsame : putI x 1 = putI x 0 := by simp [putI, nb, e]
        have HOW : Hid (OwnI wr w.heap.size w.heap.size 7 (putI x 1)) := by rw [hsame]; exact hown
        clear hown
        go_wp2
        go_roundw
        case rel => exact ⟨1, by omega, rfl, HOW.out, HPL.out, HBEL.out, hsz⟩
        case measure => simp [intOf]
      · rw [e] at hxk
        have hcp := HPL.out.cellAt 0 (by simp)
        have hc := hown.cellAt 2 (by simp [putI])
        have hf := hown.frozenAt 2
        have hst := hown.stored 2 (.int .i64 1)
        rw [ints_set] at hst
        rw [ints_get _ 2 (by simp [putI])] at hc
        have hset : (putI x 0).set 2 1 = putI x 1 := by simp [putI, nb, e]
        rw [hset] at hst
        have HST := Lib.hid hst
        have hpl2 := HPL.out.kept hst.2 (by omega)
        have hb3 := HBEL.out.grown hst.2 hsz (fun j hj => by cases hj; omega)
        have HPL2 := Lib.hid hpl2
        have HB3 := Lib.hid hb3
        simp [ints] at hcp
        clear hst hown hpl2 hb3
        go_wp2
        go_roundw
        case rel => exact ⟨1, by omega, rfl, HST.out.1, HPL2.out, HB3.out, HB3.out.size⟩
        case measure => simp [intOf]
    · have hxk := HX.out 1 (by omega)
      rcases HBIT.out 1 (by omega) with e | e
      · rw [e] at hxk
        have hsame : putI x 2 = putI x 1 := by simp [putI, nb, e]
        have HOW : Hid (OwnI wr w.heap.size w.heap.size 7 (putI x 2)) := by rw [hsame]; exact hown
        clear hown
        go_wp2
        go_roundw
        case rel => exact ⟨2, by omega, rfl, HOW.out, HPL.out, HBEL.out, hsz⟩
        case measure => simp [intOf]
      · rw [e] at hxk
        have hcp := HPL.out.cellAt 1 (by simp)
        have hc := hown.cellAt 4 (by simp [putI])
        have hf := hown.frozenAt 4
        have hst := hown.stored 4 (.int .i64 1)
        rw [ints_set] at hst
        rw [ints_get _ 4 (by simp [putI])] at hc
        have hset : (putI x 1).set 4 1 = putI x 2 := by simp [putI, nb, e]
        rw [hset] at hst
        have HST := Lib.hid hst
        have hpl2 := HPL.out.kept hst.2 (by omega)
        have hb3 := HBEL.out.grown hst.2 hsz (fun j hj => by cases hj; omega)
        have HPL2 := Lib.hid hpl2
        have HB3 := Lib.hid hb3
        simp [ints] at hcp
        clear hst hown hpl2 hb3
        go_wp2
        go_roundw
        case rel => exact ⟨2, by omega, rfl, HST.out.1, HPL2.out, HB3.out, HB3.out.size⟩
        case measure => simp [intOf]
    · have hxk := HX.out 2 (by omega)
      rcases HBIT.out 2 (by omega) with e | e
      · rw [e] at hxk
        have hsame : putI x 3 = putI x 2 := by simp [putI, nb, e]
        have HOW : Hid (OwnI wr w.heap.size w.heap.size 7 (putI x 3)) := by rw [hsame]; exact hown
        clear hown
        go_wp2
        go_roundw
        case rel => exact ⟨3, by omega, rfl, HOW.out, HPL.out, HBEL.out, hsz⟩
        case measure => simp [intOf]
      · rw [e] at hxk
        have hcp := HPL.out.cellAt 2 (by simp)
        have hc := hown.cellAt 5 (by simp [putI])
        have hf := hown.frozenAt 5
        have hst := hown.stored 5 (.int .i64 1)
        rw [ints_set] at hst
        rw [ints_get _ 5 (by simp [putI])] at hc
        have hset : (putI x 2).set 5 1 = putI x 3 := by simp [putI, nb, e]
        rw [hset] at hst
        have HST := Lib.hid hst
        have hpl2 := HPL.out.kept hst.2 (by omega)
        have hb3 := HBEL.out.grown hst.2 hsz (fun j hj => by cases hj; omega)
        have HPL2 := Lib.hid hpl2
        have HB3 := Lib.hid hb3
        simp [ints] at hcp
        clear hst hown hpl2 hb3
        go_wp2
        go_roundw
        case rel => exact ⟨3, by omega, rfl, HST.out.1, HPL2.out, HB3.out, HB3.out.size⟩
        case measure => simp [intOf]
    · have hxk := HX.out 3 (by omega)
      rcases HBIT.out 3 (by omega) with e | e
      · rw [e] at hxk
        have hsame : putI x 4 = putI x 3 := by simp [putI, nb, e]
        have HOW : Hid (OwnI wr w.heap.size w.heap.size 7 (putI x 4)) := by rw [hsame]; exact hown
        clear hown
        go_wp2
        go_roundw
        case rel => exact ⟨4, by omega, rfl, HOW.out, HPL.out, HBEL.out, hsz⟩
        case measure => simp [intOf]
      · rw [e] at hxk
        have hcp := HPL.out.cellAt 3 (by simp)
        have hc := hown.cellAt 6 (by simp [putI])
        have hf := hown.frozenAt 6
        have hst := hown.stored 6 (.int .i64 1)
        rw [ints_set] at hst
        rw [ints_get _ 6 (by simp [putI])] at hc
        have hset : (putI x 3).set 6 1 = putI x 4 := by simp [putI, nb, e]
        rw [hset] at hst
        have HST := Lib.hid hst
        have hpl2 := HPL.out.kept hst.2 (by omega)
        have hb3 := HBEL.out.grown hst.2 hsz (fun j hj => by cases hj; omega)
        have HPL2 := Lib.hid hpl2
        have HB3 := Lib.hid hb3
        simp [ints] at hcp
        clear hst hown hpl2 hb3
        go_wp2
        go_roundw
        case rel => exact ⟨4, by omega, rfl, HST.out.1, HPL2.out, HB3.out, HB3.out.size⟩
        case measure => simp [intOf]
    · rw [show ((4 : Nat) : Int) = 4 from rfl]
      have HOWN0 := Lib.hid hown
      clear hown
      go_wp2
      go_loopw [6] (fun kv wq => ∃ j : Nat, j ≤ 3 ∧ kv = .int .i64 (pw2 j) ∧ OwnI wq w.heap.size w.heap.size 7 (finI x j) ∧ Below w.heap.size w wq ∧ w.heap.size ≤ wq.heap.size) (fun kv _ => 8 - (intOf kv).toNat)
      case atStart => exact ⟨0, by omega, rfl, by simpa [putI, finI] using HOWN0.out, HBEL.out, hsz⟩
      case round =>
        obtain ⟨j, hj, rfl, hown, hbel2, hsz2⟩ := hrel
        have HBEL2 := Lib.hid hbel2
        clear hbel2 HBEL HOWN0 HPL
        rcases (show j = 0 ∨ j = 1 ∨ j = 2 ∨ j = 3 from by omega) with rfl | rfl | rfl | rfl
        · rw [show pw2 0 = 1 from rfl]
          have HOW := Lib.hid hown
          have hcd := hown.cellAt 0 (by simp [finI])
          rw [ints_get _ 0 (by simp [finI])] at hcd
          have hfd := hown.frozenAt 0
          have hst := hown.stored 0 (.int .i64 (sI x 0 7 % 2))
          rw [ints_set] at hst
          have hset : (finI x 0).set 0 (sI x 0 7 % 2) = finI x 1 := by simp [finI]
          rw [hset] at hst
          have HST := Lib.hid hst
          have HB3 := Lib.hid (HBEL2.out.grown hst.2 hsz2 (fun j hj => by cases hj; omega))
          clear hst hown hset
          go_wp2
          go_loopw [7, 8] (fun sv iv wq => ∃ i : Nat, i ≤ 7 ∧ iv = .int .i64 ((i : Int) + 1) ∧ sv = .int .i64 (sI x 0 i) ∧ wq = wr) (fun _ iv _ => 9 - (intOf iv).toNat)
          case atStart => exact ⟨0, by omega, rfl, rfl, rfl⟩
          case round =>
            obtain ⟨i, hi, rfl, rfl, rfl⟩ := hrel
            have hsb := sI_bd x 0 i
            rcases (show i = 0 ∨ i = 1 ∨ i = 2 ∨ i = 3 ∨ i = 4 ∨ i = 5 ∨ i = 6 ∨ i = 7 from by omega) with rfl | rfl | rfl | rfl | rfl | rfl | rfl | rfl
            · rw [show ((0 : Nat) : Int) + 1 = 1 from rfl]
              have hsI : sI x 0 1 = sI x 0 0 := by simp [sI]
              generalize sI x 0 0 = q0 at *
              go_wp2
              go_roundw
              case rel => exact ⟨1, by omega, rfl, by rw [hsI], by trivial⟩
              case measure => simp [intOf]
            · rw [show ((1 : Nat) : Int) + 1 = 2 from rfl]
              have hsI : sI x 0 2 = sI x 0 1 := by simp [sI]
              generalize sI x 0 1 = q0 at *
              go_wp2
              go_roundw
              case rel => exact ⟨2, by omega, rfl, by rw [hsI], by trivial⟩
              case measure => simp [intOf]
            · rw [show ((2 : Nat) : Int) + 1 = 3 from rfl]
              have hc := HOW.out.cellAt 2 (by simp [finI])
              rw [ints_get _ 2 (by simp [finI]), show (finI x 0).getD 2 0 = nb (x 0) from rfl] at hc
              have hnb := nb_bd (x 0)
              have hsI : sI x 0 3 = sI x 0 2 + nb (x 0) := by simp [sI]
              generalize sI x 0 2 = q0 at *
              generalize nb (x 0) = q1 at *
              go_wp2
              go_roundw
              case rel => exact ⟨3, by omega, rfl, by rw [hsI], by trivial⟩
              case measure => simp [intOf]
            · rw [show ((3 : Nat) : Int) + 1 = 4 from rfl]
              have hsI : sI x 0 4 = sI x 0 3 := by simp [sI]
              generalize sI x 0 3 = q0 at *
              go_wp2
              go_roundw
              case rel => exact ⟨4, by omega, rfl, by rw [hsI], by trivial⟩
              case measure => simp [intOf]
            · rw [show ((4 : Nat) : Int) + 1 = 5 from rfl]
              have hc := HOW.out.cellAt 4 (by simp [finI])
              rw [ints_get _ 4 (by simp [finI]), show (finI x 0).getD 4 0 = nb (x 1) from rfl] at hc
              have hnb := nb_bd (x 1)
              have hsI : sI x 0 5 = sI x 0 4 + nb (x 1) := by simp [sI]
              generalize sI x 0 4 = q0 at *
              generalize nb (x 1) = q1 at *
              go_wp2
              go_roundw
              case rel => exact ⟨5, by omega, rfl, by rw [hsI], by trivial⟩
              case measure => simp [intOf]
            · rw [show ((5 : Nat) : Int) + 1 = 6 from rfl]
              have hsI : sI x 0 6 = sI x 0 5 := by simp [sI]
              generalize sI x 0 5 = q0 at *
              go_wp2
              go_roundw
              case rel => exact ⟨6, by omega, rfl, by rw [hsI], by trivial⟩
              case measure => simp [intOf]
            · rw [show ((6 : Nat) : Int) + 1 = 7 from rfl]
              have hc := HOW.out.cellAt 6 (by simp [finI])
              rw [ints_get _ 6 (by simp [finI]), show (finI x 0).getD 6 0 = nb (x 3) from rfl] at hc
              have hnb := nb_bd (x 3)
              have hsI : sI x 0 7 = sI x 0 6 + nb (x 3) := by simp [sI]
              generalize sI x 0 6 = q0 at *
              generalize nb (x 3) = q1 at *
              go_wp2
              go_roundw
              case rel => exact ⟨7, by omega, rfl, by rw [hsI], by trivial⟩
              case measure => simp [intOf]
            · rw [show ((7 : Nat) : Int) + 1 = 8 from rfl]
              generalize sI x 0 7 = q0 at *
              go_wp2
              go_roundw
              case rel => exact ⟨1, by omega, rfl, HST.out.1, HB3.out, HB3.out.size⟩
              case measure => simp [intOf]
        · rw [show pw2 1 = 2 from rfl]
          have HOW := Lib.hid hown
          have hcd := hown.cellAt 1 (by simp [finI])
          rw [ints_get _ 1 (by simp [finI])] at hcd
          have hfd := hown.frozenAt 1
          have hst := hown.stored 1 (.int .i64 (sI x 1 7 % 2))
          rw [ints_set] at hst
          have hset : (finI x 1).set 1 (sI x 1 7 % 2) = finI x 2 := by simp [finI]
          rw [hset] at hst
          have HST := Lib.hid hst
          have HB3 := Lib.hid (HBEL2.out.grown hst.2 hsz2 (fun j hj => by cases hj; omega))
          clear hst hown hset
          go_wp2
          go_loopw [7, 8] (fun sv iv wq => ∃ i : Nat, i ≤ 7 ∧ iv = .int .i64 ((i : Int) + 1) ∧ sv = .int .i64 (sI x 1 i) ∧ wq = wr) (fun _ iv _ => 9 - (intOf iv).toNat)
          case atStart => exact ⟨0, by omega, rfl, rfl, rfl⟩
          case round =>
            obtain ⟨i, hi, rfl, rfl, rfl⟩ := hrel
            have hsb := sI_bd x 1 i
            rcases (show i = 0 ∨ i = 1 ∨ i = 2 ∨ i = 3 ∨ i = 4 ∨ i = 5 ∨ i = 6 ∨ i = 7 from by omega) with rfl | rfl | rfl | rfl | rfl | rfl | rfl | rfl
            · rw [show ((0 : Nat) : Int) + 1 = 1 from rfl]
              have hsI : sI x 1 1 = sI x 1 0 := by simp [sI]
              generalize sI x 1 0 = q0 at *
              go_wp2
              go_roundw
              case rel => exact ⟨1, by omega, rfl, by rw [hsI], by trivial⟩
              case measure => simp [intOf]
            · rw [show ((1 : Nat) : Int) + 1 = 2 from rfl]
              have hsI : sI x 1 2 = sI x 1 1 := by simp [sI]
              generalize sI x 1 1 = q0 at *
              go_wp2
              go_roundw
              case rel => exact ⟨2, by omega, rfl, by rw [hsI], by trivial⟩
              case measure => simp [intOf]
            · rw [show ((2 : Nat) : Int) + 1 = 3 from rfl]
              have hc := HOW.out.cellAt 2 (by simp [finI])
              rw [ints_get _ 2 (by simp [finI]), show (finI x 1).getD 2 0 = nb (x 0) from rfl] at hc
              have hnb := nb_bd (x 0)
              have hsI : sI x 1 3 = sI x 1 2 + nb (x 0) := by simp [sI]
              generalize sI x 1 2 = q0 at *
              generalize nb (x 0) = q1 at *
              go_wp2
              go_roundw
              case rel => exact ⟨3, by omega, rfl, by rw [hsI], by trivial⟩
              case measure => simp [intOf]
            · rw [show ((3 : Nat) : Int) + 1 = 4 from rfl]
              have hsI : sI x 1 4 = sI x 1 3 := by simp [sI]
              generalize sI x 1 3 = q0 at *
              go_wp2
              go_roundw
              case rel => exact ⟨4, by omega, rfl, by rw [hsI], by trivial⟩
              case measure => simp [intOf]
            · rw [show ((4 : Nat) : Int) + 1 = 5 from rfl]
              have hsI : sI x 1 5 = sI x 1 4 := by simp [sI]
              generalize sI x 1 4 = q0 at *
              go_wp2
              go_roundw
              case rel => exact ⟨5, by omega, rfl, by rw [hsI], by trivial⟩
              case measure => simp [intOf]
            · rw [show ((5 : Nat) : Int) + 1 = 6 from rfl]
              have hc := HOW.out.cellAt 5 (by simp [finI])
              rw [ints_get _ 5 (by simp [finI]), show (finI x 1).getD 5 0 = nb (x 2) from rfl] at hc
              have hnb := nb_bd (x 2)
              have hsI : sI x 1 6 = sI x 1 5 + nb (x 2) := by simp [sI]
              generalize sI x 1 5 = q0 at *
              generalize nb (x 2) = q1 at *
              go_wp2
              go_roundw
              case rel => exact ⟨6, by omega, rfl, by rw [hsI], by trivial⟩
              case measure => simp [intOf]
            · rw [show ((6 : Nat) : Int) + 1 = 7 from rfl]
              have hc := HOW.out.cellAt 6 (by simp [finI])
              rw [ints_get _ 6 (by simp [finI]), show (finI x 1).getD 6 0 = nb (x 3) from rfl] at hc
              have hnb := nb_bd (x 3)
              have hsI : sI x 1 7 = sI x 1 6 + nb (x 3) := by simp [sI]
              generalize sI x 1 6 = q0 at *
              generalize nb (x 3) = q1 at *
              go_wp2
              go_roundw
              case rel => exact ⟨7, by omega, rfl, by rw [hsI], by trivial⟩
              case measure => simp [intOf]
            · rw [show ((7 : Nat) : Int) + 1 = 8 from rfl]
              generalize sI x 1 7 = q0 at *
              go_wp2
              go_roundw
              case rel => exact ⟨2, by omega, rfl, HST.out.1, HB3.out, HB3.out.size⟩
              case measure => simp [intOf]
        · rw [show pw2 2 = 4 from rfl]
          have HOW := Lib.hid hown
          have hcd := hown.cellAt 3 (by simp [finI])
          rw [ints_get _ 3 (by simp [finI])] at hcd
          have hfd := hown.frozenAt 3
          have hst := hown.stored 3 (.int .i64 (sI x 2 7 % 2))
          rw [ints_set] at hst
          have hset : (finI x 2).set 3 (sI x 2 7 % 2) = finI x 3 := by simp [finI]
          rw [hset] at hst
          have HST := Lib.hid hst
          have HB3 := Lib.hid (HBEL2.out.grown hst.2 hsz2 (fun j hj => by cases hj; omega))
          clear hst hown hset
          go_wp2
          go_loopw [7, 8] (fun sv iv wq => ∃ i : Nat, i ≤ 7 ∧ iv = .int .i64 ((i : Int) + 1) ∧ sv = .int .i64 (sI x 2 i) ∧ wq = wr) (fun _ iv _ => 9 - (intOf iv).toNat)
          case atStart => exact ⟨0, by omega, rfl, rfl, rfl⟩
          case round =>
            obtain ⟨i, hi, rfl, rfl, rfl⟩ := hrel
            have hsb := sI_bd x 2 i
            rcases (show i = 0 ∨ i = 1 ∨ i = 2 ∨ i = 3 ∨ i = 4 ∨ i = 5 ∨ i = 6 ∨ i = 7 from by omega) with rfl | rfl | rfl | rfl | rfl | rfl | rfl | rfl
            · rw [show ((0 : Nat) : Int) + 1 = 1 from rfl]
              have hsI : sI x 2 1 = sI x 2 0 := by simp [sI]
              generalize sI x 2 0 = q0 at *
              go_wp2
              go_roundw
              case rel => exact ⟨1, by omega, rfl, by rw [hsI], by trivial⟩
              case measure => simp [intOf]
            · rw [show ((1 : Nat) : Int) + 1 = 2 from rfl]
              have hsI : sI x 2 2 = sI x 2 1 := by simp [sI]
              generalize sI x 2 1 = q0 at *
              go_wp2
              go_roundw
              case rel => exact ⟨2, by omega, rfl, by rw [hsI], by trivial⟩
              case measure => simp [intOf]
            · rw [show ((2 : Nat) : Int) + 1 = 3 from rfl]
              have hsI : sI x 2 3 = sI x 2 2 := by simp [sI]
              generalize sI x 2 2 = q0 at *
              go_wp2
              go_roundw
              case rel => exact ⟨3, by omega, rfl, by rw [hsI], by trivial⟩
              case measure => simp [intOf]
            · rw [show ((3 : Nat) : Int) + 1 = 4 from rfl]
              have hsI : sI x 2 4 = sI x 2 3 := by simp [sI]
              generalize sI x 2 3 = q0 at *
              go_wp2
              go_roundw
              case rel => exact ⟨4, by omega, rfl, by rw [hsI], by trivial⟩
              case measure => simp [intOf]
            · rw [show ((4 : Nat) : Int) + 1 = 5 from rfl]
              have hc := HOW.out.cellAt 4 (by simp [finI])
              rw [ints_get _ 4 (by simp [finI]), show (finI x 2).getD 4 0 = nb (x 1) from rfl] at hc
              have hnb := nb_bd (x 1)
              have hsI : sI x 2 5 = sI x 2 4 + nb (x 1) := by simp [sI]
              generalize sI x 2 4 = q0 at *
              generalize nb (x 1) = q1 at *
              go_wp2
              go_roundw
              case rel => exact ⟨5, by omega, rfl, by rw [hsI], by trivial⟩
              case measure => simp [intOf]
            · rw [show ((5 : Nat) : Int) + 1 = 6 from rfl]
              have hc := HOW.out.cellAt 5 (by simp [finI])
              rw [ints_get _ 5 (by simp [finI]), show (finI x 2).getD 5 0 = nb (x 2) from rfl] at hc
              have hnb := nb_bd (x 2)
              have hsI : sI x 2 6 = sI x 2 5 + nb (x 2) := by simp [sI]
              generalize sI x 2 5 = q0 at *
              generalize nb (x 2) = q1 at *
              go_wp2
              go_roundw
              case rel => exact ⟨6, by omega, rfl, by rw [hsI], by trivial⟩
              case measure => simp [intOf]
            · rw [show ((6 : Nat) : Int) + 1 = 7 from rfl]
              have hc := HOW.out.cellAt 6 (by simp [finI])
              rw [ints_get _ 6 (by simp [finI]), show (finI x 2).getD 6 0 = nb (x 3) from rfl] at hc
              have hnb := nb_bd (x 3)
              have hsI : sI x 2 7 = sI x 2 6 + nb (x 3) := by simp [sI]
              generalize sI x 2 6 = q0 at *
              generalize nb (x 3) = q1 at *
              go_wp2
              go_roundw
              case rel => exact ⟨7, by omega, rfl, by rw [hsI], by trivial⟩
              case measure => simp [intOf]
            · rw [show ((7 : Nat) : Int) + 1 = 8 from rfl]
              generalize sI x 2 7 = q0 at *
              go_wp2
              go_roundw
              case rel => exact ⟨3, by omega, rfl, HST.out.1, HB3.out, HB3.out.size⟩
              case measure => simp [intOf]
        · rw [show pw2 3 = 8 from rfl]
          have HOW := Lib.hid hown
          clear hown
          go_wp2
          go_loopw [9, 10] (fun ov iv wq => ∃ i m : Nat, i ≤ 7 ∧ iv = .int .i64 i ∧ ov = .string ⟨((gd7 x).take i).toArray⟩ ∧ wq = wr.drewN m) (fun _ iv _ => 7 - (intOf iv).toNat)
          case atStart => exact ⟨0, 0, by omega, rfl, rfl, rfl⟩
          case round =>
            obtain ⟨i, m, hi, rfl, rfl, rfl⟩ := hrel
            by_cases hlt : i < 7
            · have hc : (wr.drewN m).cell? ⟨w.heap.size, i, none⟩ = _ := (HOW.out.cellAt i (by simp [finI]; omega)).trans (ints_get _ i (by simp [finI]; omega))
              rw [HFIN.out i hlt] at hc
              have hi0 : (0 : Int) ≤ (i : Int) := by omega
              have hi7 : (i : Int) < 7 := by omega
              generalize hwj : wr.drewN m = wj at hc ⊢
              have HWJ := Lib.hid hwj
              clear hwj
              have htk : ((gd7 x).take i).length ≤ 7 := by simp; omega
              rcases HGB.out i hlt with e | e
              · have HTK : Hid (ByteArray.mk ((gd7 x).take i).toArray ++ ({ data := #[48] } : ByteArray) = ByteArray.mk ((gd7 x).take (i + 1)).toArray) := take_mk (gd7 x) i 48 (by simp [gd7]; omega) e
                have HEX : Hid (({ data := #[48, 49] } : ByteArray).extract 0 1 = { data := #[48] }) := (by decide +kernel : ({ data := #[48, 49] } : ByteArray).extract 0 1 = { data := #[48] })
                rw [e, show nb 48 = 0 from rfl] at hc
                have hz : (ByteArray.mk ((gd7 x).take i).toArray).size ≤ 7 := by rw [mk_size]; exact htk
                generalize ByteArray.mk ((gd7 x).take i).toArray = Z at *
                go_wp2
                go_quiet (fail)
                rw [HEX.out, HTK.out]
                go_wp2
                go_roundw
                case rel => exact ⟨i + 1, m + nq, by omega, by go_num, rfl, by rw [← HWJ.out, World.drewN_drewN]⟩
                case measure => simp [intOf]; omega
              · have HTK : Hid (ByteArray.mk ((gd7 x).take i).toArray ++ ({ data := #[49] } : ByteArray) = ByteArray.mk ((gd7 x).take (i + 1)).toArray) := take_mk (gd7 x) i 49 (by simp [gd7]; omega) e
                have HEX : Hid (({ data := #[48, 49] } : ByteArray).extract 1 2 = { data := #[49] }) := (by decide +kernel : ({ data := #[48, 49] } : ByteArray).extract 1 2 = { data := #[49] })
                rw [e, show nb 49 = 1 from rfl] at hc
                have hz : (ByteArray.mk ((gd7 x).take i).toArray).size ≤ 7 := by rw [mk_size]; exact htk
                generalize ByteArray.mk ((gd7 x).take i).toArray = Z at *
                go_wp2
                go_quiet (fail)
                rw [HEX.out, HTK.out]
                go_wp2
                go_roundw
                case rel => exact ⟨i + 1, m + nq, by omega, by go_num, rfl, by rw [← HWJ.out, World.drewN_drewN]⟩
                case measure => simp [intOf]; omega
            · obtain rfl : i = 7 := by omega
              go_wp2
              go_ret
              exact ⟨rfl, below_drewN HBEL2.out m⟩
end Go.Proofs.YtndpbhmokobbpaaGreatDoor
