/-
  The walk of the program's function that guards four bits. Condition: what the two tables hold.
-/
import Derived.Test.YtndpbhmokobbpaaGreatDoorDm09
import Derived.Laws.Rows
import Derived.Laws.Tables
namespace Go.Proofs.YtndpbhmokobbpaaGreatDoor
open Go.RowKit
set_option linter.unusedVariables false

/-- What the tables hold. -/
structure Tabs (w : World) : Prop where
  a0 : w.cell? ⟨0, 0, none⟩ = some (.int .i64 3)
  a1 : w.cell? ⟨0, 1, none⟩ = some (.int .i64 5)
  a2 : w.cell? ⟨0, 2, none⟩ = some (.int .i64 6)
  a3 : w.cell? ⟨0, 3, none⟩ = some (.int .i64 7)
  b0 : w.cell? ⟨1, 0, none⟩ = some (.int .i64 1)
  b1 : w.cell? ⟨1, 1, none⟩ = some (.int .i64 2)
  b2 : w.cell? ⟨1, 2, none⟩ = some (.int .i64 4)
  sz : 1 < w.heap.size
theorem Tabs.below {w w' : World} {B : Nat} (h : Tabs w) (hb : Below B w w') (hB : 1 < B) : Tabs w' :=
  ⟨(hb.cell (p := ⟨0, 0, none⟩) (by simp; omega)).trans h.a0, (hb.cell (p := ⟨0, 1, none⟩) (by simp; omega)).trans h.a1, (hb.cell (p := ⟨0, 2, none⟩) (by simp; omega)).trans h.a2, (hb.cell (p := ⟨0, 3, none⟩) (by simp; omega)).trans h.a3,
   (hb.cell (p := ⟨1, 0, none⟩) hB).trans h.b0, (hb.cell (p := ⟨1, 1, none⟩) hB).trans h.b1, (hb.cell (p := ⟨1, 2, none⟩) hB).trans h.b2, Nat.lt_of_lt_of_le h.sz hb.size⟩
/-- The seven bytes when k of four have been put in. -/
def put4 (x : Nat → UInt8) (k : Nat) : List UInt8 := [0, 0, if 0 < k then x 0 else 0, 0, if 1 < k then x 1 else 0, if 2 < k then x 2 else 0, if 3 < k then x 3 else 0]
theorem put4_len (x : Nat → UInt8) (k : Nat) : (put4 x k).length = 7 := rfl
theorem seven_new (w : World) (t : TypeId) : OwnB (w.alloc (.cells #[.int .u8 0, .int .u8 0, .int .u8 0, .int .u8 0, .int .u8 0, .int .u8 0, .int .u8 0] t)) w.heap.size [0, 0, 0, 0, 0, 0, 0] := by
  refine ⟨by simp, fun s p h => ?_, fun j hj => ?_, fun j hj => frozen_of_row _ _ _ _ _ (heap_alloc_new w _)⟩
  · rw [heap_alloc_new] at h; cases h
  · rw [cell_of_row _ w.heap.size j _ t (0, 0) (heap_alloc_new w _)]
    match j, hj with
    | 0, _ => rfl
    | 1, _ => rfl
    | 2, _ => rfl
    | 3, _ => rfl
    | 4, _ => rfl
    | 5, _ => rfl
    | 6, _ => rfl
    | n + 7, h => simp at h; omega

theorem idx4_0 (W : World) : (Instr.index 81 (.agg #[.int .i64 3, .int .i64 5, .int .i64 6, .int .i64 7]) (.int .i64 0)).run Tryz.prog W = .ok (.int .i64 3) W := by kernel_rfl
theorem idx4_1 (W : World) : (Instr.index 81 (.agg #[.int .i64 3, .int .i64 5, .int .i64 6, .int .i64 7]) (.int .i64 1)).run Tryz.prog W = .ok (.int .i64 5) W := by kernel_rfl
theorem idx4_2 (W : World) : (Instr.index 81 (.agg #[.int .i64 3, .int .i64 5, .int .i64 6, .int .i64 7]) (.int .i64 2)).run Tryz.prog W = .ok (.int .i64 6) W := by kernel_rfl
theorem idx4_3 (W : World) : (Instr.index 81 (.agg #[.int .i64 3, .int .i64 5, .int .i64 6, .int .i64 7]) (.int .i64 3)).run Tryz.prog W = .ok (.int .i64 7) W := by kernel_rfl
theorem idx3_0 (W : World) : (Instr.index 82 (.agg #[.int .i64 1, .int .i64 2, .int .i64 4]) (.int .i64 0)).run Tryz.prog W = .ok (.int .i64 1) W := by kernel_rfl
theorem idx3_1 (W : World) : (Instr.index 82 (.agg #[.int .i64 1, .int .i64 2, .int .i64 4]) (.int .i64 1)).run Tryz.prog W = .ok (.int .i64 2) W := by kernel_rfl
theorem idx3_2 (W : World) : (Instr.index 82 (.agg #[.int .i64 1, .int .i64 2, .int .i64 4]) (.int .i64 2)).run Tryz.prog W = .ok (.int .i64 4) W := by kernel_rfl

theorem gtrans {a b c : World} {row : Option Nat} (h : a.grownBy b row) (k : b.grownBy c row) : a.grownBy c row :=
  ⟨k.os.trans h.os, k.tape.trans h.tape, k.output.trans h.output, Nat.le_trans h.size k.size, fun i hi hn => (k.block i (Nat.lt_of_lt_of_le hi h.size) hn).trans (h.block i hi hn)⟩
/-- The other bit. -/
def flp (c : UInt8) : UInt8 := if c = 48 then 49 else 48
set_option maxHeartbeats 400000 in
theorem turG_any (c : UInt8) (w : World) (h : c = 48 ∨ c = 49) :
    Calls Tryz.prog 63 #[.int .u8 (c.toNat : Int)] w fun e w' => e = .returned (.int .u8 ((flp c).toNat : Int)) ∧ w = w' := by
  rcases h with rfl | rfl
  · have hx : bits .xor .u8 48 1 = 49 := by decide +kernel
    go_enter Tryz.func63, Tryz.ntmps63
    go_wp2
    go_ret
    exact ⟨rfl, rfl⟩
  · have hx : bits .xor .u8 49 1 = 48 := by decide +kernel
    go_enter Tryz.func63, Tryz.ntmps63
    go_wp2
    go_ret
    exact ⟨rfl, rfl⟩
/-- Whether the digit j is one of the place k. -/
def hitB (j k : Nat) : Bool := ((([3, 5, 6, 7] : List Nat).getD k 0) / 2 ^ j) % 2 == 1
/-- The bit for the digit j, of k of the four. -/
def fl (x : Nat → UInt8) (j : Nat) : Nat → UInt8
  | 0 => 48
  | k + 1 => if hitB j k && x k == 49 then flp (fl x j k) else fl x j k
theorem fl_bit (x : Nat → UInt8) (j : Nat) : ∀ k, fl x j k = 48 ∨ fl x j k = 49
  | 0 => .inl rfl
  | k + 1 => by
    unfold fl flp
    rcases fl_bit x j k with e | e <;> rw [e] <;> split <;> simp
/-- The seven bytes when the bits for j digits have been put in. -/
def fin7 (x : Nat → UInt8) (j : Nat) : List UInt8 := [if 0 < j then fl x 0 4 else 0, if 1 < j then fl x 1 4 else 0, x 0, if 2 < j then fl x 2 4 else 0, x 1, x 2, x 3]
/-- Four bits with those that guard them. -/
def gd7 (x : Nat → UInt8) : List UInt8 := [fl x 0 4, fl x 1 4, x 0, fl x 2 4, x 1, x 2, x 3]
def u8s (l : List UInt8) : Array Value := (l.map fun c => Value.int .u8 (c.toNat : Int)).toArray
theorem u8s_one (l : List UInt8) : (u8s l).all (·.oneCell') = true := by simp [u8s, Value.oneCell']
theorem info31 : (Tryz.prog.info? 65).map (·.size) = some 7 := by kernel_rfl

set_option maxHeartbeats 6400000 in
theorem igd_any (w : World) (h : Tabs w) (s : ByteArray) (x : Nat → UInt8) (hs : s.size = 4) (hx : ∀ k (hk : k < s.size), s[k] = x k) (hb : ∀ k, k < 4 → x k = 48 ∨ x k = 49) :
    Calls Tryz.prog 65 #[.string s] w fun e w' => e = .returned (.agg (u8s (gd7 x))) ∧ Below w.heap.size w w' := by
  have hsz := h.sz
  have hb1 : Below w.heap.size w (w.alloc (.cells #[.int .u8 0, .int .u8 0, .int .u8 0, .int .u8 0, .int .u8 0, .int .u8 0, .int .u8 0] 65)) := (Below.refl _ _).alloc (Nat.le_refl _) _
  have hb2 := hb1.alloc hb1.size (.cells #[.int .u8 0, .int .u8 0, .int .u8 0, .int .u8 0, .int .u8 0, .int .u8 0, .int .u8 0] 65)
  have ht := h.below hb2 hsz
  have ho := seven_new (w.alloc (.cells #[.int .u8 0, .int .u8 0, .int .u8 0, .int .u8 0, .int .u8 0, .int .u8 0, .int .u8 0] 65)) 65
  have hs1 : (w.alloc (.cells #[.int .u8 0, .int .u8 0, .int .u8 0, .int .u8 0, .int .u8 0, .int .u8 0, .int .u8 0] 65)).heap.size = w.heap.size + 1 := by simp
  have hold := heap_alloc2_old w (.cells #[.int .u8 0, .int .u8 0, .int .u8 0, .int .u8 0, .int .u8 0, .int .u8 0, .int .u8 0] 65) (.cells #[.int .u8 0, .int .u8 0, .int .u8 0, .int .u8 0, .int .u8 0, .int .u8 0, .int .u8 0] 65)
  rw [hs1] at ho
  have HT := Lib.hid ht
  have HO := Lib.hid ho
  have HB2 := Lib.hid hb2
  have HOLD := Lib.hid hold
  have hsz2 : ((w.alloc (.cells #[.int .u8 0, .int .u8 0, .int .u8 0, .int .u8 0, .int .u8 0, .int .u8 0, .int .u8 0] 65)).alloc (.cells #[.int .u8 0, .int .u8 0, .int .u8 0, .int .u8 0, .int .u8 0, .int .u8 0, .int .u8 0] 65)).heap.size = w.heap.size + 2 := by simp
  have HSZ2 := Lib.hid hsz2
  have c0 := ht.a0
  have c1 := ht.a1
  have c2 := ht.a2
  have c3 := ht.a3
  clear h ho hb1 hb2 ht hs1 hold hsz2
  have HX := Lib.hid hx
  clear hx
  go_enter Tryz.func65, Tryz.ntmps65
  go_wp2
  go_loopw [12] (fun kv wr => ∃ k : Nat, k ≤ 4 ∧ kv = .int .i64 k ∧ OwnB wr (w.heap.size + 1) (put4 x k) ∧ World.grownBy ((w.alloc (.cells #[.int .u8 0, .int .u8 0, .int .u8 0, .int .u8 0, .int .u8 0, .int .u8 0, .int .u8 0] 65)).alloc (.cells #[.int .u8 0, .int .u8 0, .int .u8 0, .int .u8 0, .int .u8 0, .int .u8 0, .int .u8 0] 65)) wr (some (w.heap.size + 1))) (fun kv _ => 4 - (intOf kv).toNat)
  case atStart => exact ⟨0, by omega, rfl, by simpa [put4] using HO.out, World.grownBy.refl _ _⟩
  case round =>
    obtain ⟨k, hk, rfl, hown, hgr⟩ := hrel
    have HG := Lib.hid hgr
    clear hgr c0 c1 c2 c3
    rcases (show k = 0 ∨ k = 1 ∨ k = 2 ∨ k = 3 ∨ k = 4 from by omega) with rfl | rfl | rfl | rfl | rfl
    · have hc := hown.cellAt 2 (by simp [put4])
      have hf := hown.frozenAt 2 (by simp [put4])
      have hst := hown.stored 2 (by simp [put4]) (x 0)
      have hxk := HX.out 0 (by omega)
      have hi := idx4_0 wr
      have HST := Lib.hid hst
      clear hst hown
      go_wp2
      go_roundw
      case rel => exact ⟨1, by omega, rfl, by simpa [put4] using HST.out.1, gtrans HG.out HST.out.2⟩
      case measure => simp [intOf]
    · have hc := hown.cellAt 4 (by simp [put4])
      have hf := hown.frozenAt 4 (by simp [put4])
      have hst := hown.stored 4 (by simp [put4]) (x 1)
      have hxk := HX.out 1 (by omega)
      have hi := idx4_1 wr
      have HST := Lib.hid hst
      clear hst hown
      go_wp2
      go_roundw
      case rel => exact ⟨2, by omega, rfl, by simpa [put4] using HST.out.1, gtrans HG.out HST.out.2⟩
      case measure => simp [intOf]
    · have hc := hown.cellAt 5 (by simp [put4])
      have hf := hown.frozenAt 5 (by simp [put4])
      have hst := hown.stored 5 (by simp [put4]) (x 2)
      have hxk := HX.out 2 (by omega)
      have hi := idx4_2 wr
      have HST := Lib.hid hst
      clear hst hown
      go_wp2
      go_roundw
      case rel => exact ⟨3, by omega, rfl, by simpa [put4] using HST.out.1, gtrans HG.out HST.out.2⟩
      case measure => simp [intOf]
    · have hc := hown.cellAt 6 (by simp [put4])
      have hf := hown.frozenAt 6 (by simp [put4])
      have hst := hown.stored 6 (by simp [put4]) (x 3)
      have hxk := HX.out 3 (by omega)
      have hi := idx4_3 wr
      have HST := Lib.hid hst
      clear hst hown
      go_wp2
      go_roundw
      case rel => exact ⟨4, by omega, rfl, by simpa [put4] using HST.out.1, gtrans HG.out HST.out.2⟩
      case measure => simp [intOf]
    · rw [show ((4 : Nat) : Int) = 4 from rfl]
      have hbw := HB2.out.grown HG.out HB2.out.size (fun j hj => by cases hj; omega)
      have hbt := (Below.refl w.heap.size ((w.alloc (.cells #[.int .u8 0, .int .u8 0, .int .u8 0, .int .u8 0, .int .u8 0, .int .u8 0, .int .u8 0] 65)).alloc (.cells #[.int .u8 0, .int .u8 0, .int .u8 0, .int .u8 0, .int .u8 0, .int .u8 0, .int .u8 0] 65))).grown HG.out HB2.out.size (fun j hj => by cases hj; omega)
      have ht := HT.out.below hbt hsz
      have d0 := ht.b0
      have d1 := ht.b1
      have d2 := ht.b2
      have HOWN0 := Lib.hid hown
      clear hown hbw hbt ht
      go_wp2
      go_loopw [24] (fun jv wq => ∃ j : Nat, j ≤ 3 ∧ jv = .int .i64 j ∧ OwnB wq (w.heap.size + 1) (fin7 x j) ∧ World.grownBy ((w.alloc (.cells #[.int .u8 0, .int .u8 0, .int .u8 0, .int .u8 0, .int .u8 0, .int .u8 0, .int .u8 0] 65)).alloc (.cells #[.int .u8 0, .int .u8 0, .int .u8 0, .int .u8 0, .int .u8 0, .int .u8 0, .int .u8 0] 65)) wq (some (w.heap.size + 1))) (fun jv _ => 3 - (intOf jv).toNat)
      case atStart => exact ⟨0, by omega, rfl, by simpa [put4, fin7] using HOWN0.out, HG.out⟩
      case round =>
        obtain ⟨j, hj, rfl, hown, hgr⟩ := hrel
        have HG2 := Lib.hid hgr
        clear hgr d0 d1 d2 HG HOWN0
        have HG := HG2
        clear HG2
        have hbt := (Below.refl w.heap.size ((w.alloc (.cells #[.int .u8 0, .int .u8 0, .int .u8 0, .int .u8 0, .int .u8 0, .int .u8 0, .int .u8 0] 65)).alloc (.cells #[.int .u8 0, .int .u8 0, .int .u8 0, .int .u8 0, .int .u8 0, .int .u8 0, .int .u8 0] 65))).grown HG.out HB2.out.size (fun j hj => by cases hj; omega)
        have ht := HT.out.below hbt hsz
        have c0 := ht.a0
        have c1 := ht.a1
        have c2 := ht.a2
        have c3 := ht.a3
        clear hbt ht
        rcases (show j = 0 ∨ j = 1 ∨ j = 2 ∨ j = 3 from by omega) with rfl | rfl | rfl | rfl
        · rw [show ((0 : Nat) : Int) = 0 from rfl]
          have hi2 := idx3_0 wr
          have hcd := hown.cellAt 0 (by simp [fin7])
          have hfd := hown.frozenAt 0 (by simp [fin7])
          have hst := hown.stored 0 (by simp [fin7]) (fl x 0 4)
          have HST := Lib.hid hst
          have HOWN := Lib.hid hown
          clear hst hown
          go_wp2
          go_loopw [8, 28] (fun bv kv wq => ∃ k : Nat, k ≤ 4 ∧ kv = .int .i64 k ∧ bv = .int .u8 ((fl x 0 k).toNat : Int) ∧ wq = wr) (fun _ kv _ => 4 - (intOf kv).toNat)
          case atStart => exact ⟨0, by omega, rfl, rfl, rfl⟩
          case round =>
            obtain ⟨k, hk, rfl, rfl, rfl⟩ := hrel
            rcases (show k = 0 ∨ k = 1 ∨ k = 2 ∨ k = 3 ∨ k = 4 from by omega) with rfl | rfl | rfl | rfl | rfl
            · have hi3 := idx4_0 wr
              have hand : bits .and .i64 3 1 = 1 := by decide +kernel
              rcases hb 0 (by omega) with e | e
              · have hck : wr.cell? ⟨w.heap.size + 1, 2, none⟩ = some (.int .u8 48) := (HOWN.out.cellAt 2 (by simp [fin7])).trans (by simp [fin7, e])
                have hfl : fl x 0 1 = fl x 0 0 := by simp [fl, e]
                go_wp2
                go_roundw
                case rel => exact ⟨1, by omega, rfl, by rw [hfl], by trivial⟩
                case measure => simp [intOf]
              · have hck : wr.cell? ⟨w.heap.size + 1, 2, none⟩ = some (.int .u8 49) := (HOWN.out.cellAt 2 (by simp [fin7])).trans (by simp [fin7, e])
                have hfl : fl x 0 1 = flp (fl x 0 0) := by simp [fl, hitB, e]
                have HTU := Lib.hid (turG_any (fl x 0 0) wr (fl_bit x 0 0))
                go_wp2_with fail
                refine HTU.out.mono ?_
                rintro e w9 ⟨rfl, hw9⟩
                clear HTU
                subst hw9
                go_wp2
                go_roundw
                case rel => exact ⟨1, by omega, rfl, by rw [hfl], by trivial⟩
                case measure => simp [intOf]
            · have hi3 := idx4_1 wr
              have hand : bits .and .i64 5 1 = 1 := by decide +kernel
              rcases hb 1 (by omega) with e | e
              · have hck : wr.cell? ⟨w.heap.size + 1, 4, none⟩ = some (.int .u8 48) := (HOWN.out.cellAt 4 (by simp [fin7])).trans (by simp [fin7, e])
                have hfl : fl x 0 2 = fl x 0 1 := by simp [fl, e]
                go_wp2
                go_roundw
                case rel => exact ⟨2, by omega, rfl, by rw [hfl], by trivial⟩
                case measure => simp [intOf]
              · have hck : wr.cell? ⟨w.heap.size + 1, 4, none⟩ = some (.int .u8 49) := (HOWN.out.cellAt 4 (by simp [fin7])).trans (by simp [fin7, e])
                have hfl : fl x 0 2 = flp (fl x 0 1) := by simp [fl, hitB, e]
                have HTU := Lib.hid (turG_any (fl x 0 1) wr (fl_bit x 0 1))
                go_wp2_with fail
                refine HTU.out.mono ?_
                rintro e w9 ⟨rfl, hw9⟩
                clear HTU
                subst hw9
                go_wp2
                go_roundw
                case rel => exact ⟨2, by omega, rfl, by rw [hfl], by trivial⟩
                case measure => simp [intOf]
            · have hi3 := idx4_2 wr
              have hand : bits .and .i64 6 1 = 0 := by decide +kernel
              have hfl : fl x 0 3 = fl x 0 2 := by simp [fl, hitB]
              go_wp2
              go_roundw
              case rel => exact ⟨3, by omega, rfl, by rw [hfl], by trivial⟩
              case measure => simp [intOf]
            · have hi3 := idx4_3 wr
              have hand : bits .and .i64 7 1 = 1 := by decide +kernel
              rcases hb 3 (by omega) with e | e
              · have hck : wr.cell? ⟨w.heap.size + 1, 6, none⟩ = some (.int .u8 48) := (HOWN.out.cellAt 6 (by simp [fin7])).trans (by simp [fin7, e])
                have hfl : fl x 0 4 = fl x 0 3 := by simp [fl, e]
                go_wp2
                go_roundw
                case rel => exact ⟨4, by omega, rfl, by rw [hfl], by trivial⟩
                case measure => simp [intOf]
              · have hck : wr.cell? ⟨w.heap.size + 1, 6, none⟩ = some (.int .u8 49) := (HOWN.out.cellAt 6 (by simp [fin7])).trans (by simp [fin7, e])
                have hfl : fl x 0 4 = flp (fl x 0 3) := by simp [fl, hitB, e]
                have HTU := Lib.hid (turG_any (fl x 0 3) wr (fl_bit x 0 3))
                go_wp2_with fail
                refine HTU.out.mono ?_
                rintro e w9 ⟨rfl, hw9⟩
                clear HTU
                subst hw9
                go_wp2
                go_roundw
                case rel => exact ⟨4, by omega, rfl, by rw [hfl], by trivial⟩
                case measure => simp [intOf]
            · go_wp2
              go_roundw
              case rel => exact ⟨1, by omega, rfl, by simpa [fin7] using HST.out.1, gtrans HG.out HST.out.2⟩
              case measure => simp [intOf]
        · rw [show ((1 : Nat) : Int) = 1 from rfl]
          have hi2 := idx3_1 wr
          have hcd := hown.cellAt 1 (by simp [fin7])
          have hfd := hown.frozenAt 1 (by simp [fin7])
          have hst := hown.stored 1 (by simp [fin7]) (fl x 1 4)
          have HST := Lib.hid hst
          have HOWN := Lib.hid hown
          clear hst hown
          go_wp2
          go_loopw [8, 28] (fun bv kv wq => ∃ k : Nat, k ≤ 4 ∧ kv = .int .i64 k ∧ bv = .int .u8 ((fl x 1 k).toNat : Int) ∧ wq = wr) (fun _ kv _ => 4 - (intOf kv).toNat)
          case atStart => exact ⟨0, by omega, rfl, rfl, rfl⟩
          case round =>
            obtain ⟨k, hk, rfl, rfl, rfl⟩ := hrel
            rcases (show k = 0 ∨ k = 1 ∨ k = 2 ∨ k = 3 ∨ k = 4 from by omega) with rfl | rfl | rfl | rfl | rfl
            · have hi3 := idx4_0 wr
              have hand : bits .and .i64 3 2 = 2 := by decide +kernel
              rcases hb 0 (by omega) with e | e
              · have hck : wr.cell? ⟨w.heap.size + 1, 2, none⟩ = some (.int .u8 48) := (HOWN.out.cellAt 2 (by simp [fin7])).trans (by simp [fin7, e])
                have hfl : fl x 1 1 = fl x 1 0 := by simp [fl, e]
                go_wp2
                go_roundw
                case rel => exact ⟨1, by omega, rfl, by rw [hfl], by trivial⟩
                case measure => simp [intOf]
              · have hck : wr.cell? ⟨w.heap.size + 1, 2, none⟩ = some (.int .u8 49) := (HOWN.out.cellAt 2 (by simp [fin7])).trans (by simp [fin7, e])
                have hfl : fl x 1 1 = flp (fl x 1 0) := by simp [fl, hitB, e]
                have HTU := Lib.hid (turG_any (fl x 1 0) wr (fl_bit x 1 0))
                go_wp2_with fail
                refine HTU.out.mono ?_
                rintro e w9 ⟨rfl, hw9⟩
                clear HTU
                subst hw9
                go_wp2
                go_roundw
                case rel => exact ⟨1, by omega, rfl, by rw [hfl], by trivial⟩
                case measure => simp [intOf]
            · have hi3 := idx4_1 wr
              have hand : bits .and .i64 5 2 = 0 := by decide +kernel
              have hfl : fl x 1 2 = fl x 1 1 := by simp [fl, hitB]
              go_wp2
              go_roundw
              case rel => exact ⟨2, by omega, rfl, by rw [hfl], by trivial⟩
              case measure => simp [intOf]
            · have hi3 := idx4_2 wr
              have hand : bits .and .i64 6 2 = 2 := by decide +kernel
              rcases hb 2 (by omega) with e | e
              · have hck : wr.cell? ⟨w.heap.size + 1, 5, none⟩ = some (.int .u8 48) := (HOWN.out.cellAt 5 (by simp [fin7])).trans (by simp [fin7, e])
                have hfl : fl x 1 3 = fl x 1 2 := by simp [fl, e]
                go_wp2
                go_roundw
                case rel => exact ⟨3, by omega, rfl, by rw [hfl], by trivial⟩
                case measure => simp [intOf]
              · have hck : wr.cell? ⟨w.heap.size + 1, 5, none⟩ = some (.int .u8 49) := (HOWN.out.cellAt 5 (by simp [fin7])).trans (by simp [fin7, e])
                have hfl : fl x 1 3 = flp (fl x 1 2) := by simp [fl, hitB, e]
                have HTU := Lib.hid (turG_any (fl x 1 2) wr (fl_bit x 1 2))
                go_wp2_with fail
                refine HTU.out.mono ?_
                rintro e w9 ⟨rfl, hw9⟩
                clear HTU
                subst hw9
                go_wp2
                go_roundw
                case rel => exact ⟨3, by omega, rfl, by rw [hfl], by trivial⟩
                case measure => simp [intOf]
            · have hi3 := idx4_3 wr
              have hand : bits .and .i64 7 2 = 2 := by decide +kernel
              rcases hb 3 (by omega) with e | e
              · have hck : wr.cell? ⟨w.heap.size + 1, 6, none⟩ = some (.int .u8 48) := (HOWN.out.cellAt 6 (by simp [fin7])).trans (by simp [fin7, e])
                have hfl : fl x 1 4 = fl x 1 3 := by simp [fl, e]
                go_wp2
                go_roundw
                case rel => exact ⟨4, by omega, rfl, by rw [hfl], by trivial⟩
                case measure => simp [intOf]
              · have hck : wr.cell? ⟨w.heap.size + 1, 6, none⟩ = some (.int .u8 49) := (HOWN.out.cellAt 6 (by simp [fin7])).trans (by simp [fin7, e])
                have hfl : fl x 1 4 = flp (fl x 1 3) := by simp [fl, hitB, e]
                have HTU := Lib.hid (turG_any (fl x 1 3) wr (fl_bit x 1 3))
                go_wp2_with fail
                refine HTU.out.mono ?_
                rintro e w9 ⟨rfl, hw9⟩
                clear HTU
                subst hw9
                go_wp2
                go_roundw
                case rel => exact ⟨4, by omega, rfl, by rw [hfl], by trivial⟩
                case measure => simp [intOf]
            · go_wp2
              go_roundw
              case rel => exact ⟨2, by omega, rfl, by simpa [fin7] using HST.out.1, gtrans HG.out HST.out.2⟩
              case measure => simp [intOf]
        · rw [show ((2 : Nat) : Int) = 2 from rfl]
          have hi2 := idx3_2 wr
          have hcd := hown.cellAt 3 (by simp [fin7])
          have hfd := hown.frozenAt 3 (by simp [fin7])
          have hst := hown.stored 3 (by simp [fin7]) (fl x 2 4)
          have HST := Lib.hid hst
          have HOWN := Lib.hid hown
          clear hst hown
          go_wp2
          go_loopw [8, 28] (fun bv kv wq => ∃ k : Nat, k ≤ 4 ∧ kv = .int .i64 k ∧ bv = .int .u8 ((fl x 2 k).toNat : Int) ∧ wq = wr) (fun _ kv _ => 4 - (intOf kv).toNat)
          case atStart => exact ⟨0, by omega, rfl, rfl, rfl⟩
          case round =>
            obtain ⟨k, hk, rfl, rfl, rfl⟩ := hrel
            rcases (show k = 0 ∨ k = 1 ∨ k = 2 ∨ k = 3 ∨ k = 4 from by omega) with rfl | rfl | rfl | rfl | rfl
            · have hi3 := idx4_0 wr
              have hand : bits .and .i64 3 4 = 0 := by decide +kernel
              have hfl : fl x 2 1 = fl x 2 0 := by simp [fl, hitB]
              go_wp2
              go_roundw
              case rel => exact ⟨1, by omega, rfl, by rw [hfl], by trivial⟩
              case measure => simp [intOf]
            · have hi3 := idx4_1 wr
              have hand : bits .and .i64 5 4 = 4 := by decide +kernel
              rcases hb 1 (by omega) with e | e
              · have hck : wr.cell? ⟨w.heap.size + 1, 4, none⟩ = some (.int .u8 48) := (HOWN.out.cellAt 4 (by simp [fin7])).trans (by simp [fin7, e])
                have hfl : fl x 2 2 = fl x 2 1 := by simp [fl, e]
                go_wp2
                go_roundw
                case rel => exact ⟨2, by omega, rfl, by rw [hfl], by trivial⟩
                case measure => simp [intOf]
              · have hck : wr.cell? ⟨w.heap.size + 1, 4, none⟩ = some (.int .u8 49) := (HOWN.out.cellAt 4 (by simp [fin7])).trans (by simp [fin7, e])
                have hfl : fl x 2 2 = flp (fl x 2 1) := by simp [fl, hitB, e]
                have HTU := Lib.hid (turG_any (fl x 2 1) wr (fl_bit x 2 1))
                go_wp2_with fail
                refine HTU.out.mono ?_
                rintro e w9 ⟨rfl, hw9⟩
                clear HTU
                subst hw9
                go_wp2
                go_roundw
                case rel => exact ⟨2, by omega, rfl, by rw [hfl], by trivial⟩
                case measure => simp [intOf]
            · have hi3 := idx4_2 wr
              have hand : bits .and .i64 6 4 = 4 := by decide +kernel
              rcases hb 2 (by omega) with e | e
              · have hck : wr.cell? ⟨w.heap.size + 1, 5, none⟩ = some (.int .u8 48) := (HOWN.out.cellAt 5 (by simp [fin7])).trans (by simp [fin7, e])
                have hfl : fl x 2 3 = fl x 2 2 := by simp [fl, e]
                go_wp2
                go_roundw
                case rel => exact ⟨3, by omega, rfl, by rw [hfl], by trivial⟩
                case measure => simp [intOf]
              · have hck : wr.cell? ⟨w.heap.size + 1, 5, none⟩ = some (.int .u8 49) := (HOWN.out.cellAt 5 (by simp [fin7])).trans (by simp [fin7, e])
                have hfl : fl x 2 3 = flp (fl x 2 2) := by simp [fl, hitB, e]
                have HTU := Lib.hid (turG_any (fl x 2 2) wr (fl_bit x 2 2))
                go_wp2_with fail
                refine HTU.out.mono ?_
                rintro e w9 ⟨rfl, hw9⟩
                clear HTU
                subst hw9
                go_wp2
                go_roundw
                case rel => exact ⟨3, by omega, rfl, by rw [hfl], by trivial⟩
                case measure => simp [intOf]
            · have hi3 := idx4_3 wr
              have hand : bits .and .i64 7 4 = 4 := by decide +kernel
              rcases hb 3 (by omega) with e | e
              · have hck : wr.cell? ⟨w.heap.size + 1, 6, none⟩ = some (.int .u8 48) := (HOWN.out.cellAt 6 (by simp [fin7])).trans (by simp [fin7, e])
                have hfl : fl x 2 4 = fl x 2 3 := by simp [fl, e]
                go_wp2
                go_roundw
                case rel => exact ⟨4, by omega, rfl, by rw [hfl], by trivial⟩
                case measure => simp [intOf]
              · have hck : wr.cell? ⟨w.heap.size + 1, 6, none⟩ = some (.int .u8 49) := (HOWN.out.cellAt 6 (by simp [fin7])).trans (by simp [fin7, e])
                have hfl : fl x 2 4 = flp (fl x 2 3) := by simp [fl, hitB, e]
                have HTU := Lib.hid (turG_any (fl x 2 3) wr (fl_bit x 2 3))
                go_wp2_with fail
                refine HTU.out.mono ?_
                rintro e w9 ⟨rfl, hw9⟩
                clear HTU
                subst hw9
                go_wp2
                go_roundw
                case rel => exact ⟨4, by omega, rfl, by rw [hfl], by trivial⟩
                case measure => simp [intOf]
            · go_wp2
              go_roundw
              case rel => exact ⟨3, by omega, rfl, by simpa [fin7] using HST.out.1, gtrans HG.out HST.out.2⟩
              case measure => simp [intOf]
        · clear c0 c1 c2 c3
          have q0 := hown.cellAt 0 (by simp [fin7])
          have q1 := hown.cellAt 1 (by simp [fin7])
          have q2 := hown.cellAt 2 (by simp [fin7])
          have q3 := hown.cellAt 3 (by simp [fin7])
          have q4 := hown.cellAt 4 (by simp [fin7])
          have q5 := hown.cellAt 5 (by simp [fin7])
          have q6 := hown.cellAt 6 (by simp [fin7])
          simp [fin7] at q0 q1 q2 q3 q4 q5 q6
          have hold : wr.heap[w.heap.size]? = some (.cells #[.int .u8 0, .int .u8 0, .int .u8 0, .int .u8 0, .int .u8 0, .int .u8 0, .int .u8 0] 65 (0, 0)) := (HG.out.block w.heap.size (by rw [HSZ2.out]; omega) (by simp)).trans HOLD.out
          have HOLD2 := Lib.hid hold
          have HBW := Lib.hid (HB2.out.grown HG.out HB2.out.size (fun j hj => by cases hj; omega))
          clear hold hown
          go_wp2_with (go_loud (refine wpList_store_row rfl 65 (.tmp 2) (.tmp 50) rfl w.heap.size (u8s (gd7 x)) rfl rfl 65 #[.int .u8 0, .int .u8 0, .int .u8 0, .int .u8 0, .int .u8 0, .int .u8 0, .int .u8 0] HOLD2.out info31 rfl (u8s_one _) ?_))
          refine bodyPost_ret (results_cell_row (p := 2) (ty := 65) rfl _ _ w.heap.size 65 (u8s (gd7 x)) (0, 0) _ rfl (setRow_heap _ _ #[.int .u8 0, .int .u8 0, .int .u8 0, .int .u8 0, .int .u8 0, .int .u8 0, .int .u8 0] _ _ _ HOLD2.out) Tryz.underlying65 rfl info31) rfl ⟨rfl, ?_⟩
          exact HBW.out.trans ⟨rfl, rfl, rfl, by simp [World.setRow], fun k hk => setRow_other _ _ _ _ (by omega)⟩
end Go.Proofs.YtndpbhmokobbpaaGreatDoor
