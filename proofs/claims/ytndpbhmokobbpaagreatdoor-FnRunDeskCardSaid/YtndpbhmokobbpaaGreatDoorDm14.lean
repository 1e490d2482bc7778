/-
  The walk of the program's MendBits. Condition: what the two tables hold, and the length that is typed.
-/
import Derived.Test.YtndpbhmokobbpaaGreatDoorDm13
import Derived.Lib.Strings
import Derived.Laws.IdiomStrings
import Derived.Laws.StructEq
import Derived.Laws.Cover2
namespace Go.Proofs.YtndpbhmokobbpaaGreatDoor
open Go.RowKit
set_option linter.unusedVariables false

/-- A text made bytes. -/
theorem conv_mb (w : World) (s : ByteArray) : ∃ c w1, (convert 9 28 (.string s)).run Tryz.prog w = .ok (.slice (some ⟨w.heap.size, 0, none⟩) s.size c) w1 ∧ s.size ≤ c ∧ OwnB w1 w.heap.size s.data.toList ∧ Below w.heap.size w w1 ∧ w.heap.size < w1.heap.size := by
  refine ⟨_, _, run_bytes_of_string (P := Tryz.prog) w 9 28 5 s Tryz.underlying9 Tryz.underlying28 Tryz.underlying5, grownCap_ge _ _ _ _, ?_, ?_, ?_⟩
  · have hg : ∀ (C : Array Value) (t : TypeId) (fr : Nat × Nat), (w.drew.alloc (.cells C t fr)).heap[w.heap.size]? = some (.cells C t fr) := fun C t fr => by
      show (w.heap.push _)[w.heap.size]? = _
      simp
    have hl : s.data.toList.length = s.data.size := by simp
    have hsz : (bytesRow s (grownCap w s.size 0 5)).size ≥ s.data.size := by simp [bytesRow]
    refine ⟨by simp, fun s' p h => ?_, fun j hj => ?_, fun j hj => ?_⟩
    · rw [hg] at h; cases h
    · have h1 := World.cell?_alloc_mark w.drew (bytesRow s (grownCap w s.size 0 5)) 5 ((bytesRow s (grownCap w s.size 0 5)).size, (bytesRow s (grownCap w s.size 0 5)).size + 1) j
      have h2 := bytesRow_at s (grownCap w s.size 0 5) j (by omega)
      have h3 := h1.trans h2
      have h4 : s.data.toList.getD j 0 = s.data[j]'(by omega) := by
        rw [List.getD_eq_getElem?_getD, List.getElem?_eq_getElem hj]; rfl
      rw [h4]; exact h3
    · have h1 := World.frozen?_alloc_mark w.drew (bytesRow s (grownCap w s.size 0 5)) 5 (bytesRow s (grownCap w s.size 0 5)).size ((bytesRow s (grownCap w s.size 0 5)).size + 1) j
      refine Eq.trans h1 ?_
      rw [decide_eq_false (by omega)]; rfl
  · exact (Below.refl w.heap.size w).drew.alloc (Nat.le_refl _) _
  · simp

/-- Seven bits with the one at a place, counted from 1, turned. -/
def tp (y : Nat → UInt8) (p : Nat) : Nat → UInt8 := fun j => if p = j + 1 then flp (y j) else y j
def sevenL (y : Nat → UInt8) : List UInt8 := [y 0, y 1, y 2, y 3, y 4, y 5, y 6]
/-- Whether seven bits with one turned are guarded ones. -/
def okP (y : Nat → UInt8) (p : Nat) : Bool := decide (gd7 (fun k => (four (tp y p)).getD k 0) = sevenL (tp y p))
def findP (y : Nat → UInt8) : Nat → Nat → Option Nat
  | 0, _ => none
  | f + 1, p => if okP y p then some p else findP y f (p + 1)
/-- What MendBits gives. -/
def mendR (y : Nat → UInt8) : ByteArray × Int := match findP y 8 0 with
  | some p => (⟨(four (tp y p)).toArray⟩, p)
  | none => (ByteArray.empty, -1)
def bl7 (b : Bool) : UInt8 := if b then 49 else 48
theorem bl7_of {c : UInt8} (h : c = 48 ∨ c = 49) : ∃ b, c = bl7 b := by
  rcases h with rfl | rfl
  · exact ⟨false, rfl⟩
  · exact ⟨true, rfl⟩
theorem find_fin : ∀ b0 b1 b2 b3 b4 b5 b6 : Bool, (findP (fun j => [bl7 b0, bl7 b1, bl7 b2, bl7 b3, bl7 b4, bl7 b5, bl7 b6].getD j 0) 8 0).isSome = true := by decide +kernel
theorem find_some {c0 c1 c2 c3 c4 c5 c6 : UInt8} (h0 : c0 = 48 ∨ c0 = 49) (h1 : c1 = 48 ∨ c1 = 49) (h2 : c2 = 48 ∨ c2 = 49) (h3 : c3 = 48 ∨ c3 = 49) (h4 : c4 = 48 ∨ c4 = 49) (h5 : c5 = 48 ∨ c5 = 49) (h6 : c6 = 48 ∨ c6 = 49) :
    findP (fun j => [c0, c1, c2, c3, c4, c5, c6].getD j 0) 8 0 ≠ none := by
  obtain ⟨b0, rfl⟩ := bl7_of h0
  obtain ⟨b1, rfl⟩ := bl7_of h1
  obtain ⟨b2, rfl⟩ := bl7_of h2
  obtain ⟨b3, rfl⟩ := bl7_of h3
  obtain ⟨b4, rfl⟩ := bl7_of h4
  obtain ⟨b5, rfl⟩ := bl7_of h5
  obtain ⟨b6, rfl⟩ := bl7_of h6
  intro h
  have := find_fin b0 b1 b2 b3 b4 b5 b6
  rw [h] at this
  cases this
theorem eq7 (A B : List UInt8) (hA : A.length = 7) (hB : B.length = 7) (W : World) : (binOp .eql 65 (.agg (u8s A)) (.agg (u8s B))).run Tryz.prog W = .ok (.bool (decide (A = B))) W := by
  match A, hA with
  | [a0, a1, a2, a3', a4, a5, a6], _ =>
    match B, hB with
    | [b0, b1, b2, b3, b4, b5, b6], _ =>
      simp only [u8s, List.map_cons, List.map_nil]
      have u3 := Tryz.underlying5
      have a3 := Tryz.isAgg5
      have z3 := Tryz.sizeOf5
      have hd : decide ([a0, a1, a2, a3', a4, a5, a6] = [b0, b1, b2, b3, b4, b5, b6]) = decide ((a0.toNat : Int) = (b0.toNat : Int) ∧ (a1.toNat : Int) = (b1.toNat : Int) ∧ (a2.toNat : Int) = (b2.toNat : Int) ∧ (a3'.toNat : Int) = (b3.toNat : Int) ∧ (a4.toNat : Int) = (b4.toNat : Int) ∧ (a5.toNat : Int) = (b5.toNat : Int) ∧ (a6.toNat : Int) = (b6.toNat : Int)) := by
        rw [Bool.eq_iff_iff]
        simp only [decide_eq_true_eq, List.cons.injEq, and_true, Int.natCast_inj, UInt8.toNat_inj]
      rw [hd, run_eql_struct, show (10000 : Nat) = 9999 + 1 from rfl, Op.equalIn]
      simp only [Sem.run_bind, run_underlying Tryz.underlying65, Result.andThen_ok]
      simp only [Std.Legacy.Range.forIn_eq_forIn_range', Std.Legacy.Range.size, Nat.sub_zero, Nat.add_sub_cancel, Nat.div_one, List.range'_succ, List.range'_zero, List.forIn_cons, List.forIn_nil]
      go_simp
      by_cases h0 : (a0.toNat : Int) = (b0.toNat : Int)
      · by_cases h1 : (a1.toNat : Int) = (b1.toNat : Int)
        · by_cases h2 : (a2.toNat : Int) = (b2.toNat : Int)
          · by_cases h3 : (a3'.toNat : Int) = (b3.toNat : Int)
            · by_cases h4 : (a4.toNat : Int) = (b4.toNat : Int)
              · by_cases h5 : (a5.toNat : Int) = (b5.toNat : Int)
                · by_cases h6 : (a6.toNat : Int) = (b6.toNat : Int)
                  · simp [h0, h1, h2, h3, h4, h5, h6]
                  · simp [h0, h1, h2, h3, h4, h5, h6]
                · simp [h0, h1, h2, h3, h4, h5]
              · simp [h0, h1, h2, h3, h4]
            · simp [h0, h1, h2, h3]
          · simp [h0, h1, h2]
        · simp [h0, h1]
      · simp [h0]

theorem four_at (y : Nat → UInt8) (k : Nat) (hk : k < (⟨(four y).toArray⟩ : ByteArray).size) : (⟨(four y).toArray⟩ : ByteArray)[k] = (four y).getD k 0 := by
  have h := bytes_at (⟨(four y).toArray⟩ : ByteArray) k hk
  rw [h]
theorem flp_bit {c : UInt8} (h : c = 48 ∨ c = 49) : flp c = 48 ∨ flp c = 49 := by unfold flp; split <;> simp
theorem four_bits {y : Nat → UInt8} (i : Nat) (h : ∀ j, j < 7 → y j = 48 ∨ y j = 49) : ∀ k, k < 4 → (four (tp y i)).getD k 0 = 48 ∨ (four (tp y i)).getD k 0 = 49 := by
  have ht : ∀ j, j < 7 → tp y i j = 48 ∨ tp y i j = 49 := fun j hj => by
    unfold tp; split
    · exact flp_bit (h j hj)
    · exact h j hj
  intro k hk
  match k, hk with
  | 0, _ => exact ht 2 (by omega)
  | 1, _ => exact ht 4 (by omega)
  | 2, _ => exact ht 5 (by omega)
  | 3, _ => exact ht 6 (by omega)
  | n + 4, h => omega
/-- What the search for a place keeps. -/
def SrchP (y : Nat → UInt8) (i : Nat) : Prop := findP y (8 - i) i = findP y 8 0
theorem SrchP.hit {y : Nat → UInt8} (i : Nat) (h : SrchP y i) (hi : i < 8) (ho : okP y i = true) : mendR y = (⟨(four (tp y i)).toArray⟩, (i : Int)) := by
  have : findP y 8 0 = some i := by
    unfold SrchP at h
    rw [← h, show 8 - i = (7 - i) + 1 from by omega]; simp [findP, ho]
  simp [mendR, this]
theorem SrchP.miss {y : Nat → UInt8} (i : Nat) (h : SrchP y i) (hi : i < 8) (ho : okP y i = false) : SrchP y (i + 1) := by
  unfold SrchP at *
  rw [← h, show 8 - i = (8 - (i + 1)) + 1 from by omega]; simp [findP, ho]
theorem SrchP.end_ {y : Nat → UInt8} (h : SrchP y 8) : findP y 8 0 = none := by
  unfold SrchP at h; rw [← h]; rfl
theorem arrAt (g c : Nat) (W : World) : (Instr.arrayAt 65 (.slice (some ⟨g, 0, none⟩) 7 c)).run Tryz.prog W = .ok (.pointer (some ⟨g, 0, none⟩)) W := by
  simp only [Instr.arrayAt, Sem.run_bind, run_underlying Tryz.underlying65, Result.andThen_ok]
  simp
/-- Seven bytes in a block of the call's own, and the tables: behind w. -/
structure Mbk (w : World) (G : Nat) (w' : World) (cs : Array Value) : Prop where
  k : w'.heap[G]? = some (.cells cs 65 (0, 0))
  t : Tabs w'
  b : Below w.heap.size w w'
  z : w.heap.size < G
  z0 : 1 < w.heap.size
theorem Mbk.lt {w w' : World} {G : Nat} {cs : Array Value} (h : Mbk w G w' cs) : G < w'.heap.size := by
  rcases Nat.lt_or_ge G w'.heap.size with hlt | hge
  · exact hlt
  · have := h.k; rw [Array.getElem?_eq_none hge] at this; cases this
theorem Mbk.cell {w w' : World} {G : Nat} {cs : Array Value} (h : Mbk w G w' cs) (i : Nat) : w'.cell? ⟨G, i, none⟩ = cs[i]? := cell_of_row w' G i cs _ (0, 0) h.k
theorem Mbk.new {w w1 : World} (cs : Array Value) (hz : 1 < w.heap.size) (ht : Tabs w1) (hb : Below w.heap.size w w1) (hl : w.heap.size < w1.heap.size) : Mbk w w1.heap.size (w1.alloc (.cells cs 65)) cs :=
  ⟨heap_alloc_new _ _, ht.below ((Below.refl _ _).alloc (Nat.le_refl _) _) ht.sz, hb.alloc (Nat.le_of_lt hl) _, hl, hz⟩
theorem Mbk.more {w w1 w2 : World} {G : Nat} {cs : Array Value} (h : Mbk w G w1 cs) (hb : Below w1.heap.size w1 w2) : Mbk w G w2 cs :=
  ⟨(hb.block G h.lt).trans h.k, h.t.below hb h.t.sz, h.b.trans (hb.mono h.b.size), h.z, h.z0⟩
theorem Mbk.drew {w w1 : World} {G : Nat} {cs : Array Value} (h : Mbk w G w1 cs) : Mbk w G w1.drew cs :=
  ⟨h.k, ⟨h.t.a0, h.t.a1, h.t.a2, h.t.a3, h.t.b0, h.t.b1, h.t.b2, h.t.sz⟩, belowDr h.b, h.z, h.z0⟩

set_option maxHeartbeats 12800000 in
theorem iMB_yes (s : ByteArray) (c0 c1 c2 c3 c4 c5 c6 : UInt8) (R : ByteArray × Int) (hR : mendR (fun j => [c0, c1, c2, c3, c4, c5, c6].getD j 0) = R) (w : World) (hl : s.data.toList = [c0, c1, c2, c3, c4, c5, c6]) (hb : bitsB 40 s.data.toList = true) (hs : s.size = 7) (hT : Tabs w) :
    Calls Tryz.prog 49 #[.string s] w fun e w' => e = .returned (.tuple #[.string R.1, .int .i64 R.2]) ∧ Below w.heap.size w w' := by
  have h1 := iVB_any s w (by rw [hs]; unfold maxLen; omega)
  rw [hb] at h1
  have H1 := Lib.hid h1
  have HRES := Lib.hid hR
  have HL := Lib.hid hl
  have HZ := Lib.hid hT.sz
  have HT0 := Lib.hid hT
  have HS7 := Lib.hid hs
  have HB7 := Lib.hid (show ∀ j, j < 7 → (fun j => [c0, c1, c2, c3, c4, c5, c6].getD j 0) j = 48 ∨ (fun j => [c0, c1, c2, c3, c4, c5, c6].getD j 0) j = 49 from by
    have ha : s.data.toList.length ≤ 40 ∧ s.data.toList.all isBit = true := by simpa [bitsB] using hb
    rw [hl] at ha
    have hall := List.all_eq_true.1 ha.2
    intro j hj
    show [c0, c1, c2, c3, c4, c5, c6].getD j 0 = 48 ∨ [c0, c1, c2, c3, c4, c5, c6].getD j 0 = 49
    match j, hj with
    | 0, _ => exact isBit_cases (hall c0 (by simp))
    | 1, _ => exact isBit_cases (hall c1 (by simp))
    | 2, _ => exact isBit_cases (hall c2 (by simp))
    | 3, _ => exact isBit_cases (hall c3 (by simp))
    | 4, _ => exact isBit_cases (hall c4 (by simp))
    | 5, _ => exact isBit_cases (hall c5 (by simp))
    | 6, _ => exact isBit_cases (hall c6 (by simp))
    | n + 7, h => omega)
  have hsi : (s.size : Int) = 7 := by omega
  clear h1 hR hl hT hb hs
  go_enter Tryz.func49, Tryz.ntmps49
  go_wp2_with fail
  refine H1.out.mono ?_
  rintro e w1 ⟨rfl, hb1⟩
  have HT1 := Lib.hid (HT0.out.below hb1 HT0.out.sz)
  have HB1 := Lib.hid hb1
  clear hb1
  go_wp2
  go_loopg [18] 8 (fun g iv wr => ∃ i : Nat, i ≤ 8 ∧ g = 8 - i ∧ iv = .int .i64 i ∧ SrchP (fun j => [c0, c1, c2, c3, c4, c5, c6].getD j 0) i ∧ Tabs wr ∧ Below w.heap.size w wr)
  case atStart => exact ⟨0, by omega, rfl, rfl, rfl, HT1.out, HB1.out⟩
  case round =>
    obtain ⟨i, hi, hg, rfl, hsr, hT, hB⟩ := hrel
    have HS := Lib.hid hsr
    have HT := Lib.hid hT
    have HBB := Lib.hid hB
    have HG := Lib.hid hg
    clear hsr hT hB hg
    obtain ⟨cc, w1, hrun, hcc, hown, hb1, hz1⟩ := conv_mb wr s
    rw [HS7.out] at hrun
    have HOW := Lib.hid hown
    clear hown hcc
    rcases (show i = 0 ∨ i = 1 ∨ i = 2 ∨ i = 3 ∨ i = 4 ∨ i = 5 ∨ i = 6 ∨ i = 7 ∨ i = 8 from by omega) with rfl | rfl | rfl | rfl | rfl | rfl | rfl | rfl | rfl
    · cases hok : okP (fun j => [c0, c1, c2, c3, c4, c5, c6].getD j 0) 0
      · have HOK := Lib.hid hok
        have hcx := fun W => eq7 (gd7 (fun k => (four (tp (fun j => [c0, c1, c2, c3, c4, c5, c6].getD j 0) 0)).getD k 0)) (sevenL (tp (fun j => [c0, c1, c2, c3, c4, c5, c6].getD j 0) 0)) rfl rfl W
        rw [show decide (gd7 (fun k => (four (tp (fun j => [c0, c1, c2, c3, c4, c5, c6].getD j 0) 0)).getD k 0) = sevenL (tp (fun j => [c0, c1, c2, c3, c4, c5, c6].getD j 0) 0)) = false from hok] at hcx
        have hcm : ∀ W, (binOp .eql 65 (.agg (u8s (gd7 (fun k => (four (tp (fun j => [c0, c1, c2, c3, c4, c5, c6].getD j 0) 0)).getD k 0)))) (.agg #[.int .u8 ((c0).toNat : Int), .int .u8 ((c1).toNat : Int), .int .u8 ((c2).toNat : Int), .int .u8 ((c3).toNat : Int), .int .u8 ((c4).toNat : Int), .int .u8 ((c5).toNat : Int), .int .u8 ((c6).toNat : Int)])).run Tryz.prog W = .ok (.bool false) W := hcx
        clear hcx
        have HGR := Lib.hid (show ∀ W, Tabs W → Calls Tryz.prog 64 #[.agg #[.int .u8 ((c0).toNat : Int), .int .u8 ((c1).toNat : Int), .int .u8 ((c2).toNat : Int), .int .u8 ((c3).toNat : Int), .int .u8 ((c4).toNat : Int), .int .u8 ((c5).toNat : Int), .int .u8 ((c6).toNat : Int)]] W fun e w' => e = .returned (.string ⟨(four (tp (fun j => [c0, c1, c2, c3, c4, c5, c6].getD j 0) 0)).toArray⟩) ∧ Below W.heap.size W w' from fun W hT => igr_any W hT (tp (fun j => [c0, c1, c2, c3, c4, c5, c6].getD j 0) 0))
        have HGD := Lib.hid (show ∀ W, Tabs W → Calls Tryz.prog 65 #[.string ⟨(four (tp (fun j => [c0, c1, c2, c3, c4, c5, c6].getD j 0) 0)).toArray⟩] W fun e w' => e = .returned (.agg (u8s (gd7 (fun k => (four (tp (fun j => [c0, c1, c2, c3, c4, c5, c6].getD j 0) 0)).getD k 0)))) ∧ Below W.heap.size W w' from fun W hT => igd_any W hT _ (fun k => (four (tp (fun j => [c0, c1, c2, c3, c4, c5, c6].getD j 0) 0)).getD k 0) rfl (fun k hk => four_at _ k hk) (four_bits 0 HB7.out))
        generalize hfs : (⟨(four (tp (fun j => [c0, c1, c2, c3, c4, c5, c6].getD j 0) 0)).toArray⟩ : ByteArray) = fs at *
        have HFS := Lib.hid hfs
        clear hfs
        generalize gd7 (fun k => (four (tp (fun j => [c0, c1, c2, c3, c4, c5, c6].getD j 0) 0)).getD k 0) = gg at *
        have hsp := arrAt wr.heap.size cc
        have ht1 := HT.out.below hb1 HT.out.sz
        have hbw := HBB.out.trans (hb1.mono HBB.out.size)
        have HT1 := Lib.hid ht1
        have HBW := Lib.hid hbw
        have HM := Lib.hid (Mbk.new (w := w) (w1 := w1) (#[.int .u8 ((c0).toNat : Int), .int .u8 ((c1).toNat : Int), .int .u8 ((c2).toNat : Int), .int .u8 ((c3).toNat : Int), .int .u8 ((c4).toNat : Int), .int .u8 ((c5).toNat : Int), .int .u8 ((c6).toNat : Int)]) HZ.out ht1 hbw (Nat.lt_of_le_of_lt HBB.out.size hz1))
        clear ht1 hbw hb1 hok
        have k0 := HOW.out.cellAt 0 (by rw [HL.out]; simp)
        rw [HL.out] at k0
        simp only [List.getD_cons_zero] at k0
        have k1 := HOW.out.cellAt 1 (by rw [HL.out]; simp)
        rw [HL.out] at k1
        simp only [List.getD_cons_zero, List.getD_cons_succ] at k1
        have k2 := HOW.out.cellAt 2 (by rw [HL.out]; simp)
        rw [HL.out] at k2
        simp only [List.getD_cons_zero, List.getD_cons_succ] at k2
        have k3 := HOW.out.cellAt 3 (by rw [HL.out]; simp)
        rw [HL.out] at k3
        simp only [List.getD_cons_zero, List.getD_cons_succ] at k3
        have k4 := HOW.out.cellAt 4 (by rw [HL.out]; simp)
        rw [HL.out] at k4
        simp only [List.getD_cons_zero, List.getD_cons_succ] at k4
        have k5 := HOW.out.cellAt 5 (by rw [HL.out]; simp)
        rw [HL.out] at k5
        simp only [List.getD_cons_zero, List.getD_cons_succ] at k5
        have k6 := HOW.out.cellAt 6 (by rw [HL.out]; simp)
        rw [HL.out] at k6
        simp only [List.getD_cons_zero, List.getD_cons_succ] at k6
        go_wp2_with fail
        refine (HGR.out _ HM.out.t).mono ?_
        rintro e w2 ⟨rfl, hb2⟩
        have hM2 := HM.out.more hb2
        have HM2 := Lib.hid hM2
        clear hb2 k0 k1 k2 k3 k4 k5 k6
        go_wp2_with fail
        have ne := Wld.ne (S := (fun w' => Mbk w w1.heap.size w' (#[.int .u8 ((c0).toNat : Int), .int .u8 ((c1).toNat : Int), .int .u8 ((c2).toNat : Int), .int .u8 ((c3).toNat : Int), .int .u8 ((c4).toNat : Int), .int .u8 ((c5).toNat : Int), .int .u8 ((c6).toNat : Int)]))) hM2
        have m0 : ∀ x : Wld (fun w' => Mbk w w1.heap.size w' (#[.int .u8 ((c0).toNat : Int), .int .u8 ((c1).toNat : Int), .int .u8 ((c2).toNat : Int), .int .u8 ((c3).toNat : Int), .int .u8 ((c4).toNat : Int), .int .u8 ((c5).toNat : Int), .int .u8 ((c6).toNat : Int)])), x.v.cell? ⟨w1.heap.size, 0, none⟩ = some (.int .u8 ((c0).toNat : Int)) := fun x => x.h.cell 0
        have m1 : ∀ x : Wld (fun w' => Mbk w w1.heap.size w' (#[.int .u8 ((c0).toNat : Int), .int .u8 ((c1).toNat : Int), .int .u8 ((c2).toNat : Int), .int .u8 ((c3).toNat : Int), .int .u8 ((c4).toNat : Int), .int .u8 ((c5).toNat : Int), .int .u8 ((c6).toNat : Int)])), x.v.cell? ⟨w1.heap.size, 1, none⟩ = some (.int .u8 ((c1).toNat : Int)) := fun x => x.h.cell 1
        have m2 : ∀ x : Wld (fun w' => Mbk w w1.heap.size w' (#[.int .u8 ((c0).toNat : Int), .int .u8 ((c1).toNat : Int), .int .u8 ((c2).toNat : Int), .int .u8 ((c3).toNat : Int), .int .u8 ((c4).toNat : Int), .int .u8 ((c5).toNat : Int), .int .u8 ((c6).toNat : Int)])), x.v.cell? ⟨w1.heap.size, 2, none⟩ = some (.int .u8 ((c2).toNat : Int)) := fun x => x.h.cell 2
        have m3 : ∀ x : Wld (fun w' => Mbk w w1.heap.size w' (#[.int .u8 ((c0).toNat : Int), .int .u8 ((c1).toNat : Int), .int .u8 ((c2).toNat : Int), .int .u8 ((c3).toNat : Int), .int .u8 ((c4).toNat : Int), .int .u8 ((c5).toNat : Int), .int .u8 ((c6).toNat : Int)])), x.v.cell? ⟨w1.heap.size, 3, none⟩ = some (.int .u8 ((c3).toNat : Int)) := fun x => x.h.cell 3
        have m4 : ∀ x : Wld (fun w' => Mbk w w1.heap.size w' (#[.int .u8 ((c0).toNat : Int), .int .u8 ((c1).toNat : Int), .int .u8 ((c2).toNat : Int), .int .u8 ((c3).toNat : Int), .int .u8 ((c4).toNat : Int), .int .u8 ((c5).toNat : Int), .int .u8 ((c6).toNat : Int)])), x.v.cell? ⟨w1.heap.size, 4, none⟩ = some (.int .u8 ((c4).toNat : Int)) := fun x => x.h.cell 4
        have m5 : ∀ x : Wld (fun w' => Mbk w w1.heap.size w' (#[.int .u8 ((c0).toNat : Int), .int .u8 ((c1).toNat : Int), .int .u8 ((c2).toNat : Int), .int .u8 ((c3).toNat : Int), .int .u8 ((c4).toNat : Int), .int .u8 ((c5).toNat : Int), .int .u8 ((c6).toNat : Int)])), x.v.cell? ⟨w1.heap.size, 5, none⟩ = some (.int .u8 ((c5).toNat : Int)) := fun x => x.h.cell 5
        have m6 : ∀ x : Wld (fun w' => Mbk w w1.heap.size w' (#[.int .u8 ((c0).toNat : Int), .int .u8 ((c1).toNat : Int), .int .u8 ((c2).toNat : Int), .int .u8 ((c3).toNat : Int), .int .u8 ((c4).toNat : Int), .int .u8 ((c5).toNat : Int), .int .u8 ((c6).toNat : Int)])), x.v.cell? ⟨w1.heap.size, 6, none⟩ = some (.int .u8 ((c6).toNat : Int)) := fun x => x.h.cell 6
        have hgt : ∀ x : Wld (fun w' => Mbk w w1.heap.size w' (#[.int .u8 ((c0).toNat : Int), .int .u8 ((c1).toNat : Int), .int .u8 ((c2).toNat : Int), .int .u8 ((c3).toNat : Int), .int .u8 ((c4).toNat : Int), .int .u8 ((c5).toNat : Int), .int .u8 ((c6).toNat : Int)])), Tabs x.v := fun x => x.h.t
        clear hM2
        refine wp_region_heldq (fun w' => Mbk w w1.heap.size w' (#[.int .u8 ((c0).toNat : Int), .int .u8 ((c1).toNat : Int), .int .u8 ((c2).toNat : Int), .int .u8 ((c3).toNat : Int), .int .u8 ((c4).toNat : Int), .int .u8 ((c5).toNat : Int), .int .u8 ((c6).toNat : Int)])) (by kernel_rfl) (by kernel_rfl) HM2.out.drew ?_
        repeat (go_big_quiet_step (with_reducible exact held_below (fun _ _ h hb => Mbk.more h hb) (HGD.out _ (hgt _))))
        refine wpQuiet_nil ?_
        rintro _ ⟨x, rfl⟩
        have HX := Lib.hid x.h
        clear ne hgt m0 m1 m2 m3 m4 m5 m6
        generalize x.v = wx at *
        go_wp2
        go_roundg 7
        case measure => have := HG.out; omega
        case rel => exact ⟨1, by omega, rfl, rfl, HS.out.miss 0 (by omega) HOK.out, HX.out.t, HX.out.b⟩
      · have HOK := Lib.hid hok
        have hcx := fun W => eq7 (gd7 (fun k => (four (tp (fun j => [c0, c1, c2, c3, c4, c5, c6].getD j 0) 0)).getD k 0)) (sevenL (tp (fun j => [c0, c1, c2, c3, c4, c5, c6].getD j 0) 0)) rfl rfl W
        rw [show decide (gd7 (fun k => (four (tp (fun j => [c0, c1, c2, c3, c4, c5, c6].getD j 0) 0)).getD k 0) = sevenL (tp (fun j => [c0, c1, c2, c3, c4, c5, c6].getD j 0) 0)) = true from hok] at hcx
        have hcm : ∀ W, (binOp .eql 65 (.agg (u8s (gd7 (fun k => (four (tp (fun j => [c0, c1, c2, c3, c4, c5, c6].getD j 0) 0)).getD k 0)))) (.agg #[.int .u8 ((c0).toNat : Int), .int .u8 ((c1).toNat : Int), .int .u8 ((c2).toNat : Int), .int .u8 ((c3).toNat : Int), .int .u8 ((c4).toNat : Int), .int .u8 ((c5).toNat : Int), .int .u8 ((c6).toNat : Int)])).run Tryz.prog W = .ok (.bool true) W := hcx
        clear hcx
        have HGR := Lib.hid (show ∀ W, Tabs W → Calls Tryz.prog 64 #[.agg #[.int .u8 ((c0).toNat : Int), .int .u8 ((c1).toNat : Int), .int .u8 ((c2).toNat : Int), .int .u8 ((c3).toNat : Int), .int .u8 ((c4).toNat : Int), .int .u8 ((c5).toNat : Int), .int .u8 ((c6).toNat : Int)]] W fun e w' => e = .returned (.string ⟨(four (tp (fun j => [c0, c1, c2, c3, c4, c5, c6].getD j 0) 0)).toArray⟩) ∧ Below W.heap.size W w' from fun W hT => igr_any W hT (tp (fun j => [c0, c1, c2, c3, c4, c5, c6].getD j 0) 0))
        have HGD := Lib.hid (show ∀ W, Tabs W → Calls Tryz.prog 65 #[.string ⟨(four (tp (fun j => [c0, c1, c2, c3, c4, c5, c6].getD j 0) 0)).toArray⟩] W fun e w' => e = .returned (.agg (u8s (gd7 (fun k => (four (tp (fun j => [c0, c1, c2, c3, c4, c5, c6].getD j 0) 0)).getD k 0)))) ∧ Below W.heap.size W w' from fun W hT => igd_any W hT _ (fun k => (four (tp (fun j => [c0, c1, c2, c3, c4, c5, c6].getD j 0) 0)).getD k 0) rfl (fun k hk => four_at _ k hk) (four_bits 0 HB7.out))
        generalize hfs : (⟨(four (tp (fun j => [c0, c1, c2, c3, c4, c5, c6].getD j 0) 0)).toArray⟩ : ByteArray) = fs at *
        have HFS := Lib.hid hfs
        clear hfs
        generalize gd7 (fun k => (four (tp (fun j => [c0, c1, c2, c3, c4, c5, c6].getD j 0) 0)).getD k 0) = gg at *
        have hsp := arrAt wr.heap.size cc
        have ht1 := HT.out.below hb1 HT.out.sz
        have hbw := HBB.out.trans (hb1.mono HBB.out.size)
        have HT1 := Lib.hid ht1
        have HBW := Lib.hid hbw
        have HM := Lib.hid (Mbk.new (w := w) (w1 := w1) (#[.int .u8 ((c0).toNat : Int), .int .u8 ((c1).toNat : Int), .int .u8 ((c2).toNat : Int), .int .u8 ((c3).toNat : Int), .int .u8 ((c4).toNat : Int), .int .u8 ((c5).toNat : Int), .int .u8 ((c6).toNat : Int)]) HZ.out ht1 hbw (Nat.lt_of_le_of_lt HBB.out.size hz1))
        clear ht1 hbw hb1 hok
        have k0 := HOW.out.cellAt 0 (by rw [HL.out]; simp)
        rw [HL.out] at k0
        simp only [List.getD_cons_zero] at k0
        have k1 := HOW.out.cellAt 1 (by rw [HL.out]; simp)
        rw [HL.out] at k1
        simp only [List.getD_cons_zero, List.getD_cons_succ] at k1
        have k2 := HOW.out.cellAt 2 (by rw [HL.out]; simp)
        rw [HL.out] at k2
        simp only [List.getD_cons_zero, List.getD_cons_succ] at k2
        have k3 := HOW.out.cellAt 3 (by rw [HL.out]; simp)
        rw [HL.out] at k3
        simp only [List.getD_cons_zero, List.getD_cons_succ] at k3
        have k4 := HOW.out.cellAt 4 (by rw [HL.out]; simp)
        rw [HL.out] at k4
        simp only [List.getD_cons_zero, List.getD_cons_succ] at k4
        have k5 := HOW.out.cellAt 5 (by rw [HL.out]; simp)
        rw [HL.out] at k5
        simp only [List.getD_cons_zero, List.getD_cons_succ] at k5
        have k6 := HOW.out.cellAt 6 (by rw [HL.out]; simp)
        rw [HL.out] at k6
        simp only [List.getD_cons_zero, List.getD_cons_succ] at k6
        go_wp2_with fail
        refine (HGR.out _ HM.out.t).mono ?_
        rintro e w2 ⟨rfl, hb2⟩
        have hM2 := HM.out.more hb2
        have HM2 := Lib.hid hM2
        clear hb2 k0 k1 k2 k3 k4 k5 k6
        go_wp2_with fail
        have ne := Wld.ne (S := (fun w' => Mbk w w1.heap.size w' (#[.int .u8 ((c0).toNat : Int), .int .u8 ((c1).toNat : Int), .int .u8 ((c2).toNat : Int), .int .u8 ((c3).toNat : Int), .int .u8 ((c4).toNat : Int), .int .u8 ((c5).toNat : Int), .int .u8 ((c6).toNat : Int)]))) hM2
        have m0 : ∀ x : Wld (fun w' => Mbk w w1.heap.size w' (#[.int .u8 ((c0).toNat : Int), .int .u8 ((c1).toNat : Int), .int .u8 ((c2).toNat : Int), .int .u8 ((c3).toNat : Int), .int .u8 ((c4).toNat : Int), .int .u8 ((c5).toNat : Int), .int .u8 ((c6).toNat : Int)])), x.v.cell? ⟨w1.heap.size, 0, none⟩ = some (.int .u8 ((c0).toNat : Int)) := fun x => x.h.cell 0
        have m1 : ∀ x : Wld (fun w' => Mbk w w1.heap.size w' (#[.int .u8 ((c0).toNat : Int), .int .u8 ((c1).toNat : Int), .int .u8 ((c2).toNat : Int), .int .u8 ((c3).toNat : Int), .int .u8 ((c4).toNat : Int), .int .u8 ((c5).toNat : Int), .int .u8 ((c6).toNat : Int)])), x.v.cell? ⟨w1.heap.size, 1, none⟩ = some (.int .u8 ((c1).toNat : Int)) := fun x => x.h.cell 1
        have m2 : ∀ x : Wld (fun w' => Mbk w w1.heap.size w' (#[.int .u8 ((c0).toNat : Int), .int .u8 ((c1).toNat : Int), .int .u8 ((c2).toNat : Int), .int .u8 ((c3).toNat : Int), .int .u8 ((c4).toNat : Int), .int .u8 ((c5).toNat : Int), .int .u8 ((c6).toNat : Int)])), x.v.cell? ⟨w1.heap.size, 2, none⟩ = some (.int .u8 ((c2).toNat : Int)) := fun x => x.h.cell 2
        have m3 : ∀ x : Wld (fun w' => Mbk w w1.heap.size w' (#[.int .u8 ((c0).toNat : Int), .int .u8 ((c1).toNat : Int), .int .u8 ((c2).toNat : Int), .int .u8 ((c3).toNat : Int), .int .u8 ((c4).toNat : Int), .int .u8 ((c5).toNat : Int), .int .u8 ((c6).toNat : Int)])), x.v.cell? ⟨w1.heap.size, 3, none⟩ = some (.int .u8 ((c3).toNat : Int)) := fun x => x.h.cell 3
        have m4 : ∀ x : Wld (fun w' => Mbk w w1.heap.size w' (#[.int .u8 ((c0).toNat : Int), .int .u8 ((c1).toNat : Int), .int .u8 ((c2).toNat : Int), .int .u8 ((c3).toNat : Int), .int .u8 ((c4).toNat : Int), .int .u8 ((c5).toNat : Int), .int .u8 ((c6).toNat : Int)])), x.v.cell? ⟨w1.heap.size, 4, none⟩ = some (.int .u8 ((c4).toNat : Int)) := fun x => x.h.cell 4
        have m5 : ∀ x : Wld (fun w' => Mbk w w1.heap.size w' (#[.int .u8 ((c0).toNat : Int), .int .u8 ((c1).toNat : Int), .int .u8 ((c2).toNat : Int), .int .u8 ((c3).toNat : Int), .int .u8 ((c4).toNat : Int), .int .u8 ((c5).toNat : Int), .int .u8 ((c6).toNat : Int)])), x.v.cell? ⟨w1.heap.size, 5, none⟩ = some (.int .u8 ((c5).toNat : Int)) := fun x => x.h.cell 5
        have m6 : ∀ x : Wld (fun w' => Mbk w w1.heap.size w' (#[.int .u8 ((c0).toNat : Int), .int .u8 ((c1).toNat : Int), .int .u8 ((c2).toNat : Int), .int .u8 ((c3).toNat : Int), .int .u8 ((c4).toNat : Int), .int .u8 ((c5).toNat : Int), .int .u8 ((c6).toNat : Int)])), x.v.cell? ⟨w1.heap.size, 6, none⟩ = some (.int .u8 ((c6).toNat : Int)) := fun x => x.h.cell 6
        have hgt : ∀ x : Wld (fun w' => Mbk w w1.heap.size w' (#[.int .u8 ((c0).toNat : Int), .int .u8 ((c1).toNat : Int), .int .u8 ((c2).toNat : Int), .int .u8 ((c3).toNat : Int), .int .u8 ((c4).toNat : Int), .int .u8 ((c5).toNat : Int), .int .u8 ((c6).toNat : Int)])), Tabs x.v := fun x => x.h.t
        clear hM2
        refine wp_region_heldq (fun w' => Mbk w w1.heap.size w' (#[.int .u8 ((c0).toNat : Int), .int .u8 ((c1).toNat : Int), .int .u8 ((c2).toNat : Int), .int .u8 ((c3).toNat : Int), .int .u8 ((c4).toNat : Int), .int .u8 ((c5).toNat : Int), .int .u8 ((c6).toNat : Int)])) (by kernel_rfl) (by kernel_rfl) HM2.out.drew ?_
        repeat (go_big_quiet_step (with_reducible exact held_below (fun _ _ h hb => Mbk.more h hb) (HGD.out _ (hgt _))))
        refine wpQuiet_nil ?_
        rintro _ ⟨x, rfl⟩
        have HX := Lib.hid x.h
        clear ne hgt m0 m1 m2 m3 m4 m5 m6
        generalize x.v = wx at *
        go_wp2
        go_ret2
        exact ⟨by rw [← HRES.out, HS.out.hit 0 (by omega) HOK.out, HFS.out]; rfl, HX.out.b⟩
    · cases hok : okP (fun j => [c0, c1, c2, c3, c4, c5, c6].getD j 0) 1
      · have HOK := Lib.hid hok
        have hcx := fun W => eq7 (gd7 (fun k => (four (tp (fun j => [c0, c1, c2, c3, c4, c5, c6].getD j 0) 1)).getD k 0)) (sevenL (tp (fun j => [c0, c1, c2, c3, c4, c5, c6].getD j 0) 1)) rfl rfl W
        rw [show decide (gd7 (fun k => (four (tp (fun j => [c0, c1, c2, c3, c4, c5, c6].getD j 0) 1)).getD k 0) = sevenL (tp (fun j => [c0, c1, c2, c3, c4, c5, c6].getD j 0) 1)) = false from hok] at hcx
        have hcm : ∀ W, (binOp .eql 65 (.agg (u8s (gd7 (fun k => (four (tp (fun j => [c0, c1, c2, c3, c4, c5, c6].getD j 0) 1)).getD k 0)))) (.agg #[.int .u8 (((flp c0)).toNat : Int), .int .u8 ((c1).toNat : Int), .int .u8 ((c2).toNat : Int), .int .u8 ((c3).toNat : Int), .int .u8 ((c4).toNat : Int), .int .u8 ((c5).toNat : Int), .int .u8 ((c6).toNat : Int)])).run Tryz.prog W = .ok (.bool false) W := hcx
        clear hcx
        have HGR := Lib.hid (show ∀ W, Tabs W → Calls Tryz.prog 64 #[.agg #[.int .u8 (((flp c0)).toNat : Int), .int .u8 ((c1).toNat : Int), .int .u8 ((c2).toNat : Int), .int .u8 ((c3).toNat : Int), .int .u8 ((c4).toNat : Int), .int .u8 ((c5).toNat : Int), .int .u8 ((c6).toNat : Int)]] W fun e w' => e = .returned (.string ⟨(four (tp (fun j => [c0, c1, c2, c3, c4, c5, c6].getD j 0) 1)).toArray⟩) ∧ Below W.heap.size W w' from fun W hT => igr_any W hT (tp (fun j => [c0, c1, c2, c3, c4, c5, c6].getD j 0) 1))
        have HGD := Lib.hid (show ∀ W, Tabs W → Calls Tryz.prog 65 #[.string ⟨(four (tp (fun j => [c0, c1, c2, c3, c4, c5, c6].getD j 0) 1)).toArray⟩] W fun e w' => e = .returned (.agg (u8s (gd7 (fun k => (four (tp (fun j => [c0, c1, c2, c3, c4, c5, c6].getD j 0) 1)).getD k 0)))) ∧ Below W.heap.size W w' from fun W hT => igd_any W hT _ (fun k => (four (tp (fun j => [c0, c1, c2, c3, c4, c5, c6].getD j 0) 1)).getD k 0) rfl (fun k hk => four_at _ k hk) (four_bits 1 HB7.out))
        have HTU := Lib.hid (fun W => turG_any c0 W (HB7.out 0 (by omega)))
        generalize hfs : (⟨(four (tp (fun j => [c0, c1, c2, c3, c4, c5, c6].getD j 0) 1)).toArray⟩ : ByteArray) = fs at *
        have HFS := Lib.hid hfs
        clear hfs
        generalize gd7 (fun k => (four (tp (fun j => [c0, c1, c2, c3, c4, c5, c6].getD j 0) 1)).getD k 0) = gg at *
        have hsp := arrAt wr.heap.size cc
        have ht1 := HT.out.below hb1 HT.out.sz
        have hbw := HBB.out.trans (hb1.mono HBB.out.size)
        have HT1 := Lib.hid ht1
        have HBW := Lib.hid hbw
        have HM := Lib.hid (Mbk.new (w := w) (w1 := w1) (#[.int .u8 (((flp c0)).toNat : Int), .int .u8 ((c1).toNat : Int), .int .u8 ((c2).toNat : Int), .int .u8 ((c3).toNat : Int), .int .u8 ((c4).toNat : Int), .int .u8 ((c5).toNat : Int), .int .u8 ((c6).toNat : Int)]) HZ.out ht1 hbw (Nat.lt_of_le_of_lt HBB.out.size hz1))
        clear ht1 hbw hb1 hok
        have k0 := HOW.out.cellAt 0 (by rw [HL.out]; simp)
        rw [HL.out] at k0
        simp only [List.getD_cons_zero] at k0
        have k1 := HOW.out.cellAt 1 (by rw [HL.out]; simp)
        rw [HL.out] at k1
        simp only [List.getD_cons_zero, List.getD_cons_succ] at k1
        have k2 := HOW.out.cellAt 2 (by rw [HL.out]; simp)
        rw [HL.out] at k2
        simp only [List.getD_cons_zero, List.getD_cons_succ] at k2
        have k3 := HOW.out.cellAt 3 (by rw [HL.out]; simp)
        rw [HL.out] at k3
        simp only [List.getD_cons_zero, List.getD_cons_succ] at k3
        have k4 := HOW.out.cellAt 4 (by rw [HL.out]; simp)
        rw [HL.out] at k4
        simp only [List.getD_cons_zero, List.getD_cons_succ] at k4
        have k5 := HOW.out.cellAt 5 (by rw [HL.out]; simp)
        rw [HL.out] at k5
        simp only [List.getD_cons_zero, List.getD_cons_succ] at k5
        have k6 := HOW.out.cellAt 6 (by rw [HL.out]; simp)
        rw [HL.out] at k6
        simp only [List.getD_cons_zero, List.getD_cons_succ] at k6
        go_wp2_with fail
        refine (HTU.out _).mono ?_
        rintro e w9 ⟨rfl, rfl⟩
        go_wp2_with fail
        refine (HGR.out _ HM.out.t).mono ?_
        rintro e w2 ⟨rfl, hb2⟩
        have hM2 := HM.out.more hb2
        have HM2 := Lib.hid hM2
        clear hb2 k0 k1 k2 k3 k4 k5 k6
        go_wp2_with fail
        have ne := Wld.ne (S := (fun w' => Mbk w w1.heap.size w' (#[.int .u8 (((flp c0)).toNat : Int), .int .u8 ((c1).toNat : Int), .int .u8 ((c2).toNat : Int), .int .u8 ((c3).toNat : Int), .int .u8 ((c4).toNat : Int), .int .u8 ((c5).toNat : Int), .int .u8 ((c6).toNat : Int)]))) hM2
        have m0 : ∀ x : Wld (fun w' => Mbk w w1.heap.size w' (#[.int .u8 (((flp c0)).toNat : Int), .int .u8 ((c1).toNat : Int), .int .u8 ((c2).toNat : Int), .int .u8 ((c3).toNat : Int), .int .u8 ((c4).toNat : Int), .int .u8 ((c5).toNat : Int), .int .u8 ((c6).toNat : Int)])), x.v.cell? ⟨w1.heap.size, 0, none⟩ = some (.int .u8 (((flp c0)).toNat : Int)) := fun x => x.h.cell 0
        have m1 : ∀ x : Wld (fun w' => Mbk w w1.heap.size w' (#[.int .u8 (((flp c0)).toNat : Int), .int .u8 ((c1).toNat : Int), .int .u8 ((c2).toNat : Int), .int .u8 ((c3).toNat : Int), .int .u8 ((c4).toNat : Int), .int .u8 ((c5).toNat : Int), .int .u8 ((c6).toNat : Int)])), x.v.cell? ⟨w1.heap.size, 1, none⟩ = some (.int .u8 ((c1).toNat : Int)) := fun x => x.h.cell 1
        have m2 : ∀ x : Wld (fun w' => Mbk w w1.heap.size w' (#[.int .u8 (((flp c0)).toNat : Int), .int .u8 ((c1).toNat : Int), .int .u8 ((c2).toNat : Int), .int .u8 ((c3).toNat : Int), .int .u8 ((c4).toNat : Int), .int .u8 ((c5).toNat : Int), .int .u8 ((c6).toNat : Int)])), x.v.cell? ⟨w1.heap.size, 2, none⟩ = some (.int .u8 ((c2).toNat : Int)) := fun x => x.h.cell 2
        have m3 : ∀ x : Wld (fun w' => Mbk w w1.heap.size w' (#[.int .u8 (((flp c0)).toNat : Int), .int .u8 ((c1).toNat : Int), .int .u8 ((c2).toNat : Int), .int .u8 ((c3).toNat : Int), .int .u8 ((c4).toNat : Int), .int .u8 ((c5).toNat : Int), .int .u8 ((c6).toNat : Int)])), x.v.cell? ⟨w1.heap.size, 3, none⟩ = some (.int .u8 ((c3).toNat : Int)) := fun x => x.h.cell 3
        have m4 : ∀ x : Wld (fun w' => Mbk w w1.heap.size w' (#[.int .u8 (((flp c0)).toNat : Int), .int .u8 ((c1).toNat : Int), .int .u8 ((c2).toNat : Int), .int .u8 ((c3).toNat : Int), .int .u8 ((c4).toNat : Int), .int .u8 ((c5).toNat : Int), .int .u8 ((c6).toNat : Int)])), x.v.cell? ⟨w1.heap.size, 4, none⟩ = some (.int .u8 ((c4).toNat : Int)) := fun x => x.h.cell 4
        have m5 : ∀ x : Wld (fun w' => Mbk w w1.heap.size w' (#[.int .u8 (((flp c0)).toNat : Int), .int .u8 ((c1).toNat : Int), .int .u8 ((c2).toNat : Int), .int .u8 ((c3).toNat : Int), .int .u8 ((c4).toNat : Int), .int .u8 ((c5).toNat : Int), .int .u8 ((c6).toNat : Int)])), x.v.cell? ⟨w1.heap.size, 5, none⟩ = some (.int .u8 ((c5).toNat : Int)) := fun x => x.h.cell 5
        have m6 : ∀ x : Wld (fun w' => Mbk w w1.heap.size w' (#[.int .u8 (((flp c0)).toNat : Int), .int .u8 ((c1).toNat : Int), .int .u8 ((c2).toNat : Int), .int .u8 ((c3).toNat : Int), .int .u8 ((c4).toNat : Int), .int .u8 ((c5).toNat : Int), .int .u8 ((c6).toNat : Int)])), x.v.cell? ⟨w1.heap.size, 6, none⟩ = some (.int .u8 ((c6).toNat : Int)) := fun x => x.h.cell 6
        have hgt : ∀ x : Wld (fun w' => Mbk w w1.heap.size w' (#[.int .u8 (((flp c0)).toNat : Int), .int .u8 ((c1).toNat : Int), .int .u8 ((c2).toNat : Int), .int .u8 ((c3).toNat : Int), .int .u8 ((c4).toNat : Int), .int .u8 ((c5).toNat : Int), .int .u8 ((c6).toNat : Int)])), Tabs x.v := fun x => x.h.t
        clear hM2
        refine wp_region_heldq (fun w' => Mbk w w1.heap.size w' (#[.int .u8 (((flp c0)).toNat : Int), .int .u8 ((c1).toNat : Int), .int .u8 ((c2).toNat : Int), .int .u8 ((c3).toNat : Int), .int .u8 ((c4).toNat : Int), .int .u8 ((c5).toNat : Int), .int .u8 ((c6).toNat : Int)])) (by kernel_rfl) (by kernel_rfl) HM2.out.drew ?_
        repeat (go_big_quiet_step (with_reducible exact held_below (fun _ _ h hb => Mbk.more h hb) (HGD.out _ (hgt _))))
        refine wpQuiet_nil ?_
        rintro _ ⟨x, rfl⟩
        have HX := Lib.hid x.h
        clear ne hgt m0 m1 m2 m3 m4 m5 m6
        generalize x.v = wx at *
        go_wp2
        go_roundg 6
        case measure => have := HG.out; omega
        case rel => exact ⟨2, by omega, rfl, rfl, HS.out.miss 1 (by omega) HOK.out, HX.out.t, HX.out.b⟩
      · have HOK := Lib.hid hok
        have hcx := fun W => eq7 (gd7 (fun k => (four (tp (fun j => [c0, c1, c2, c3, c4, c5, c6].getD j 0) 1)).getD k 0)) (sevenL (tp (fun j => [c0, c1, c2, c3, c4, c5, c6].getD j 0) 1)) rfl rfl W
        rw [show decide (gd7 (fun k => (four (tp (fun j => [c0, c1, c2, c3, c4, c5, c6].getD j 0) 1)).getD k 0) = sevenL (tp (fun j => [c0, c1, c2, c3, c4, c5, c6].getD j 0) 1)) = true from hok] at hcx
        have hcm : ∀ W, (binOp .eql 65 (.agg (u8s (gd7 (fun k => (four (tp (fun j => [c0, c1, c2, c3, c4, c5, c6].getD j 0) 1)).getD k 0)))) (.agg #[.int .u8 (((flp c0)).toNat : Int), .int .u8 ((c1).toNat : Int), .int .u8 ((c2).toNat : Int), .int .u8 ((c3).toNat : Int), .int .u8 ((c4).toNat : Int), .int .u8 ((c5).toNat : Int), .int .u8 ((c6).toNat : Int)])).run Tryz.prog W = .ok (.bool true) W := hcx
        clear hcx
        have HGR := Lib.hid (show ∀ W, Tabs W → Calls Tryz.prog 64 #[.agg #[.int .u8 (((flp c0)).toNat : Int), .int .u8 ((c1).toNat : Int), .int .u8 ((c2).toNat : Int), .int .u8 ((c3).toNat : Int), .int .u8 ((c4).toNat : Int), .int .u8 ((c5).toNat : Int), .int .u8 ((c6).toNat : Int)]] W fun e w' => e = .returned (.string ⟨(four (tp (fun j => [c0, c1, c2, c3, c4, c5, c6].getD j 0) 1)).toArray⟩) ∧ Below W.heap.size W w' from fun W hT => igr_any W hT (tp (fun j => [c0, c1, c2, c3, c4, c5, c6].getD j 0) 1))
        have HGD := Lib.hid (show ∀ W, Tabs W → Calls Tryz.prog 65 #[.string ⟨(four (tp (fun j => [c0, c1, c2, c3, c4, c5, c6].getD j 0) 1)).toArray⟩] W fun e w' => e = .returned (.agg (u8s (gd7 (fun k => (four (tp (fun j => [c0, c1, c2, c3, c4, c5, c6].getD j 0) 1)).getD k 0)))) ∧ Below W.heap.size W w' from fun W hT => igd_any W hT _ (fun k => (four (tp (fun j => [c0, c1, c2, c3, c4, c5, c6].getD j 0) 1)).getD k 0) rfl (fun k hk => four_at _ k hk) (four_bits 1 HB7.out))
        have HTU := Lib.hid (fun W => turG_any c0 W (HB7.out 0 (by omega)))
        generalize hfs : (⟨(four (tp (fun j => [c0, c1, c2, c3, c4, c5, c6].getD j 0) 1)).toArray⟩ : ByteArray) = fs at *
        have HFS := Lib.hid hfs
        clear hfs
        generalize gd7 (fun k => (four (tp (fun j => [c0, c1, c2, c3, c4, c5, c6].getD j 0) 1)).getD k 0) = gg at *
        have hsp := arrAt wr.heap.size cc
        have ht1 := HT.out.below hb1 HT.out.sz
        have hbw := HBB.out.trans (hb1.mono HBB.out.size)
        have HT1 := Lib.hid ht1
        have HBW := Lib.hid hbw
        have HM := Lib.hid (Mbk.new (w := w) (w1 := w1) (#[.int .u8 (((flp c0)).toNat : Int), .int .u8 ((c1).toNat : Int), .int .u8 ((c2).toNat : Int), .int .u8 ((c3).toNat : Int), .int .u8 ((c4).toNat : Int), .int .u8 ((c5).toNat : Int), .int .u8 ((c6).toNat : Int)]) HZ.out ht1 hbw (Nat.lt_of_le_of_lt HBB.out.size hz1))
        clear ht1 hbw hb1 hok
        have k0 := HOW.out.cellAt 0 (by rw [HL.out]; simp)
        rw [HL.out] at k0
        simp only [List.getD_cons_zero] at k0
        have k1 := HOW.out.cellAt 1 (by rw [HL.out]; simp)
        rw [HL.out] at k1
        simp only [List.getD_cons_zero, List.getD_cons_succ] at k1
        have k2 := HOW.out.cellAt 2 (by rw [HL.out]; simp)
        rw [HL.out] at k2
        simp only [List.getD_cons_zero, List.getD_cons_succ] at k2
        have k3 := HOW.out.cellAt 3 (by rw [HL.out]; simp)
        rw [HL.out] at k3
        simp only [List.getD_cons_zero, List.getD_cons_succ] at k3
        have k4 := HOW.out.cellAt 4 (by rw [HL.out]; simp)
        rw [HL.out] at k4
        simp only [List.getD_cons_zero, List.getD_cons_succ] at k4
        have k5 := HOW.out.cellAt 5 (by rw [HL.out]; simp)
        rw [HL.out] at k5
        simp only [List.getD_cons_zero, List.getD_cons_succ] at k5
        have k6 := HOW.out.cellAt 6 (by rw [HL.out]; simp)
        rw [HL.out] at k6
        simp only [List.getD_cons_zero, List.getD_cons_succ] at k6
        go_wp2_with fail
        refine (HTU.out _).mono ?_
        rintro e w9 ⟨rfl, rfl⟩
        go_wp2_with fail
        refine (HGR.out _ HM.out.t).mono ?_
        rintro e w2 ⟨rfl, hb2⟩
        have hM2 := HM.out.more hb2
        have HM2 := Lib.hid hM2
        clear hb2 k0 k1 k2 k3 k4 k5 k6
        go_wp2_with fail
        have ne := Wld.ne (S := (fun w' => Mbk w w1.heap.size w' (#[.int .u8 (((flp c0)).toNat : Int), .int .u8 ((c1).toNat : Int), .int .u8 ((c2).toNat : Int), .int .u8 ((c3).toNat : Int), .int .u8 ((c4).toNat : Int), .int .u8 ((c5).toNat : Int), .int .u8 ((c6).toNat : Int)]))) hM2
        have m0 : ∀ x : Wld (fun w' => Mbk w w1.heap.size w' (#[.int .u8 (((flp c0)).toNat : Int), .int .u8 ((c1).toNat : Int), .int .u8 ((c2).toNat : Int), .int .u8 ((c3).toNat : Int), .int .u8 ((c4).toNat : Int), .int .u8 ((c5).toNat : Int), .int .u8 ((c6).toNat : Int)])), x.v.cell? ⟨w1.heap.size, 0, none⟩ = some (.int .u8 (((flp c0)).toNat : Int)) := fun x => x.h.cell 0
        have m1 : ∀ x : Wld (fun w' => Mbk w w1.heap.size w' (#[.int .u8 (((flp c0)).toNat : Int), .int .u8 ((c1).toNat : Int), .int .u8 ((c2).toNat : Int), .int .u8 ((c3).toNat : Int), .int .u8 ((c4).toNat : Int), .int .u8 ((c5).toNat : Int), .int .u8 ((c6).toNat : Int)])), x.v.cell? ⟨w1.heap.size, 1, none⟩ = some (.int .u8 ((c1).toNat : Int)) := fun x => x.h.cell 1
        have m2 : ∀ x : Wld (fun w' => Mbk w w1.heap.size w' (#[.int .u8 (((flp c0)).toNat : Int), .int .u8 ((c1).toNat : Int), .int .u8 ((c2).toNat : Int), .int .u8 ((c3).toNat : Int), .int .u8 ((c4).toNat : Int), .int .u8 ((c5).toNat : Int), .int .u8 ((c6).toNat : Int)])), x.v.cell? ⟨w1.heap.size, 2, none⟩ = some (.int .u8 ((c2).toNat : Int)) := fun x => x.h.cell 2
        have m3 : ∀ x : Wld (fun w' => Mbk w w1.heap.size w' (#[.int .u8 (((flp c0)).toNat : Int), .int .u8 ((c1).toNat : Int), .int .u8 ((c2).toNat : Int), .int .u8 ((c3).toNat : Int), .int .u8 ((c4).toNat : Int), .int .u8 ((c5).toNat : Int), .int .u8 ((c6).toNat : Int)])), x.v.cell? ⟨w1.heap.size, 3, none⟩ = some (.int .u8 ((c3).toNat : Int)) := fun x => x.h.cell 3
        have m4 : ∀ x : Wld (fun w' => Mbk w w1.heap.size w' (#[.int .u8 (((flp c0)).toNat : Int), .int .u8 ((c1).toNat : Int), .int .u8 ((c2).toNat : Int), .int .u8 ((c3).toNat : Int), .int .u8 ((c4).toNat : Int), .int .u8 ((c5).toNat : Int), .int .u8 ((c6).toNat : Int)])), x.v.cell? ⟨w1.heap.size, 4, none⟩ = some (.int .u8 ((c4).toNat : Int)) := fun x => x.h.cell 4
        have m5 : ∀ x : Wld (fun w' => Mbk w w1.heap.size w' (#[.int .u8 (((flp c0)).toNat : Int), .int .u8 ((c1).toNat : Int), .int .u8 ((c2).toNat : Int), .int .u8 ((c3).toNat : Int), .int .u8 ((c4).toNat : Int), .int .u8 ((c5).toNat : Int), .int .u8 ((c6).toNat : Int)])), x.v.cell? ⟨w1.heap.size, 5, none⟩ = some (.int .u8 ((c5).toNat : Int)) := fun x => x.h.cell 5
        have m6 : ∀ x : Wld (fun w' => Mbk w w1.heap.size w' (#[.int .u8 (((flp c0)).toNat : Int), .int .u8 ((c1).toNat : Int), .int .u8 ((c2).toNat : Int), .int .u8 ((c3).toNat : Int), .int .u8 ((c4).toNat : Int), .int .u8 ((c5).toNat : Int), .int .u8 ((c6).toNat : Int)])), x.v.cell? ⟨w1.heap.size, 6, none⟩ = some (.int .u8 ((c6).toNat : Int)) := fun x => x.h.cell 6
        have hgt : ∀ x : Wld (fun w' => Mbk w w1.heap.size w' (#[.int .u8 (((flp c0)).toNat : Int), .int .u8 ((c1).toNat : Int), .int .u8 ((c2).toNat : Int), .int .u8 ((c3).toNat : Int), .int .u8 ((c4).toNat : Int), .int .u8 ((c5).toNat : Int), .int .u8 ((c6).toNat : Int)])), Tabs x.v := fun x => x.h.t
        clear hM2
        refine wp_region_heldq (fun w' => Mbk w w1.heap.size w' (#[.int .u8 (((flp c0)).toNat : Int), .int .u8 ((c1).toNat : Int), .int .u8 ((c2).toNat : Int), .int .u8 ((c3).toNat : Int), .int .u8 ((c4).toNat : Int), .int .u8 ((c5).toNat : Int), .int .u8 ((c6).toNat : Int)])) (by kernel_rfl) (by kernel_rfl) HM2.out.drew ?_
        repeat (go_big_quiet_step (with_reducible exact held_below (fun _ _ h hb => Mbk.more h hb) (HGD.out _ (hgt _))))
        refine wpQuiet_nil ?_
        rintro _ ⟨x, rfl⟩
        have HX := Lib.hid x.h
        clear ne hgt m0 m1 m2 m3 m4 m5 m6
        generalize x.v = wx at *
        go_wp2
        go_ret2
        exact ⟨by rw [← HRES.out, HS.out.hit 1 (by omega) HOK.out, HFS.out]; rfl, HX.out.b⟩
    · cases hok : okP (fun j => [c0, c1, c2, c3, c4, c5, c6].getD j 0) 2
      · have HOK := Lib.hid hok
        have hcx := fun W => eq7 (gd7 (fun k => (four (tp (fun j => [c0, c1, c2, c3, c4, c5, c6].getD j 0) 2)).getD k 0)) (sevenL (tp (fun j => [c0, c1, c2, c3, c4, c5, c6].getD j 0) 2)) rfl rfl W
        rw [show decide (gd7 (fun k => (four (tp (fun j => [c0, c1, c2, c3, c4, c5, c6].getD j 0) 2)).getD k 0) = sevenL (tp (fun j => [c0, c1, c2, c3, c4, c5, c6].getD j 0) 2)) = false from hok] at hcx
        have hcm : ∀ W, (binOp .eql 65 (.agg (u8s (gd7 (fun k => (four (tp (fun j => [c0, c1, c2, c3, c4, c5, c6].getD j 0) 2)).getD k 0)))) (.agg #[.int .u8 ((c0).toNat : Int), .int .u8 (((flp c1)).toNat : Int), .int .u8 ((c2).toNat : Int), .int .u8 ((c3).toNat : Int), .int .u8 ((c4).toNat : Int), .int .u8 ((c5).toNat : Int), .int .u8 ((c6).toNat : Int)])).run Tryz.prog W = .ok (.bool false) W := hcx
        clear hcx
        have HGR := Lib.hid (show ∀ W, Tabs W → Calls Tryz.prog 64 #[.agg #[.int .u8 ((c0).toNat : Int), .int .u8 (((flp c1)).toNat : Int), .int .u8 ((c2).toNat : Int), .int .u8 ((c3).toNat : Int), .int .u8 ((c4).toNat : Int), .int .u8 ((c5).toNat : Int), .int .u8 ((c6).toNat : Int)]] W fun e w' => e = .returned (.string ⟨(four (tp (fun j => [c0, c1, c2, c3, c4, c5, c6].getD j 0) 2)).toArray⟩) ∧ Below W.heap.size W w' from fun W hT => igr_any W hT (tp (fun j => [c0, c1, c2, c3, c4, c5, c6].getD j 0) 2))
        have HGD := Lib.hid (show ∀ W, Tabs W → Calls Tryz.prog 65 #[.string ⟨(four (tp (fun j => [c0, c1, c2, c3, c4, c5, c6].getD j 0) 2)).toArray⟩] W fun e w' => e = .returned (.agg (u8s (gd7 (fun k => (four (tp (fun j => [c0, c1, c2, c3, c4, c5, c6].getD j 0) 2)).getD k 0)))) ∧ Below W.heap.size W w' from fun W hT => igd_any W hT _ (fun k => (four (tp (fun j => [c0, c1, c2, c3, c4, c5, c6].getD j 0) 2)).getD k 0) rfl (fun k hk => four_at _ k hk) (four_bits 2 HB7.out))
        have HTU := Lib.hid (fun W => turG_any c1 W (HB7.out 1 (by omega)))
        generalize hfs : (⟨(four (tp (fun j => [c0, c1, c2, c3, c4, c5, c6].getD j 0) 2)).toArray⟩ : ByteArray) = fs at *
        have HFS := Lib.hid hfs
        clear hfs
        generalize gd7 (fun k => (four (tp (fun j => [c0, c1, c2, c3, c4, c5, c6].getD j 0) 2)).getD k 0) = gg at *
        have hsp := arrAt wr.heap.size cc
        have ht1 := HT.out.below hb1 HT.out.sz
        have hbw := HBB.out.trans (hb1.mono HBB.out.size)
        have HT1 := Lib.hid ht1
        have HBW := Lib.hid hbw
        have HM := Lib.hid (Mbk.new (w := w) (w1 := w1) (#[.int .u8 ((c0).toNat : Int), .int .u8 (((flp c1)).toNat : Int), .int .u8 ((c2).toNat : Int), .int .u8 ((c3).toNat : Int), .int .u8 ((c4).toNat : Int), .int .u8 ((c5).toNat : Int), .int .u8 ((c6).toNat : Int)]) HZ.out ht1 hbw (Nat.lt_of_le_of_lt HBB.out.size hz1))
        clear ht1 hbw hb1 hok
        have k0 := HOW.out.cellAt 0 (by rw [HL.out]; simp)
        rw [HL.out] at k0
        simp only [List.getD_cons_zero] at k0
        have k1 := HOW.out.cellAt 1 (by rw [HL.out]; simp)
        rw [HL.out] at k1
        simp only [List.getD_cons_zero, List.getD_cons_succ] at k1
        have k2 := HOW.out.cellAt 2 (by rw [HL.out]; simp)
        rw [HL.out] at k2
        simp only [List.getD_cons_zero, List.getD_cons_succ] at k2
        have k3 := HOW.out.cellAt 3 (by rw [HL.out]; simp)
        rw [HL.out] at k3
        simp only [List.getD_cons_zero, List.getD_cons_succ] at k3
        have k4 := HOW.out.cellAt 4 (by rw [HL.out]; simp)
        rw [HL.out] at k4
        simp only [List.getD_cons_zero, List.getD_cons_succ] at k4
        have k5 := HOW.out.cellAt 5 (by rw [HL.out]; simp)
        rw [HL.out] at k5
        simp only [List.getD_cons_zero, List.getD_cons_succ] at k5
        have k6 := HOW.out.cellAt 6 (by rw [HL.out]; simp)
        rw [HL.out] at k6
        simp only [List.getD_cons_zero, List.getD_cons_succ] at k6
        go_wp2_with fail
        refine (HTU.out _).mono ?_
        rintro e w9 ⟨rfl, rfl⟩
        go_wp2_with fail
        refine (HGR.out _ HM.out.t).mono ?_
        rintro e w2 ⟨rfl, hb2⟩
        have hM2 := HM.out.more hb2
        have HM2 := Lib.hid hM2
        clear hb2 k0 k1 k2 k3 k4 k5 k6
        go_wp2_with fail
        have ne := Wld.ne (S := (fun w' => Mbk w w1.heap.size w' (#[.int .u8 ((c0).toNat : Int), .int .u8 (((flp c1)).toNat : Int), .int .u8 ((c2).toNat : Int), .int .u8 ((c3).toNat : Int), .int .u8 ((c4).toNat : Int), .int .u8 ((c5).toNat : Int), .int .u8 ((c6).toNat : Int)]))) hM2
        have m0 : ∀ x : Wld (fun w' => Mbk w w1.heap.size w' (#[.int .u8 ((c0).toNat : Int), .int .u8 (((flp c1)).toNat : Int), .int .u8 ((c2).toNat : Int), .int .u8 ((c3).toNat : Int), .int .u8 ((c4).toNat : Int), .int .u8 ((c5).toNat : Int), .int .u8 ((c6).toNat : Int)])), x.v.cell? ⟨w1.heap.size, 0, none⟩ = some (.int .u8 ((c0).toNat : Int)) := fun x => x.h.cell 0
        have m1 : ∀ x : Wld (fun w' => Mbk w w1.heap.size w' (#[.int .u8 ((c0).toNat : Int), .int .u8 (((flp c1)).toNat : Int), .int .u8 ((c2).toNat : Int), .int .u8 ((c3).toNat : Int), .int .u8 ((c4).toNat : Int), .int .u8 ((c5).toNat : Int), .int .u8 ((c6).toNat : Int)])), x.v.cell? ⟨w1.heap.size, 1, none⟩ = some (.int .u8 (((flp c1)).toNat : Int)) := fun x => x.h.cell 1
        have m2 : ∀ x : Wld (fun w' => Mbk w w1.heap.size w' (#[.int .u8 ((c0).toNat : Int), .int .u8 (((flp c1)).toNat : Int), .int .u8 ((c2).toNat : Int), .int .u8 ((c3).toNat : Int), .int .u8 ((c4).toNat : Int), .int .u8 ((c5).toNat : Int), .int .u8 ((c6).toNat : Int)])), x.v.cell? ⟨w1.heap.size, 2, none⟩ = some (.int .u8 ((c2).toNat : Int)) := fun x => x.h.cell 2
        have m3 : ∀ x : Wld (fun w' => Mbk w w1.heap.size w' (#[.int .u8 ((c0).toNat : Int), .int .u8 (((flp c1)).toNat : Int), .int .u8 ((c2).toNat : Int), .int .u8 ((c3).toNat : Int), .int .u8 ((c4).toNat : Int), .int .u8 ((c5).toNat : Int), .int .u8 ((c6).toNat : Int)])), x.v.cell? ⟨w1.heap.size, 3, none⟩ = some (.int .u8 ((c3).toNat : Int)) := fun x => x.h.cell 3
        have m4 : ∀ x : Wld (fun w' => Mbk w w1.heap.size w' (#[.int .u8 ((c0).toNat : Int), .int .u8 (((flp c1)).toNat : Int), .int .u8 ((c2).toNat : Int), .int .u8 ((c3).toNat : Int), .int .u8 ((c4).toNat : Int), .int .u8 ((c5).toNat : Int), .int .u8 ((c6).toNat : Int)])), x.v.cell? ⟨w1.heap.size, 4, none⟩ = some (.int .u8 ((c4).toNat : Int)) := fun x => x.h.cell 4
        have m5 : ∀ x : Wld (fun w' => Mbk w w1.heap.size w' (#[.int .u8 ((c0).toNat : Int), .int .u8 (((flp c1)).toNat : Int), .int .u8 ((c2).toNat : Int), .int .u8 ((c3).toNat : Int), .int .u8 ((c4).toNat : Int), .int .u8 ((c5).toNat : Int), .int .u8 ((c6).toNat : Int)])), x.v.cell? ⟨w1.heap.size, 5, none⟩ = some (.int .u8 ((c5).toNat : Int)) := fun x => x.h.cell 5
        have m6 : ∀ x : Wld (fun w' => Mbk w w1.heap.size w' (#[.int .u8 ((c0).toNat : Int), .int .u8 (((flp c1)).toNat : Int), .int .u8 ((c2).toNat : Int), .int .u8 ((c3).toNat : Int), .int .u8 ((c4).toNat : Int), .int .u8 ((c5).toNat : Int), .int .u8 ((c6).toNat : Int)])), x.v.cell? ⟨w1.heap.size, 6, none⟩ = some (.int .u8 ((c6).toNat : Int)) := fun x => x.h.cell 6
        have hgt : ∀ x : Wld (fun w' => Mbk w w1.heap.size w' (#[.int .u8 ((c0).toNat : Int), .int .u8 (((flp c1)).toNat : Int), .int .u8 ((c2).toNat : Int), .int .u8 ((c3).toNat : Int), .int .u8 ((c4).toNat : Int), .int .u8 ((c5).toNat : Int), .int .u8 ((c6).toNat : Int)])), Tabs x.v := fun x => x.h.t
        clear hM2
        refine wp_region_heldq (fun w' => Mbk w w1.heap.size w' (#[.int .u8 ((c0).toNat : Int), .int .u8 (((flp c1)).toNat : Int), .int .u8 ((c2).toNat : Int), .int .u8 ((c3).toNat : Int), .int .u8 ((c4).toNat : Int), .int .u8 ((c5).toNat : Int), .int .u8 ((c6).toNat : Int)])) (by kernel_rfl) (by kernel_rfl) HM2.out.drew ?_
        repeat (go_big_quiet_step (with_reducible exact held_below (fun _ _ h hb => Mbk.more h hb) (HGD.out _ (hgt _))))
        refine wpQuiet_nil ?_
        rintro _ ⟨x, rfl⟩
        have HX := Lib.hid x.h
        clear ne hgt m0 m1 m2 m3 m4 m5 m6
        generalize x.v = wx at *
        go_wp2
        go_roundg 5
        case measure => have := HG.out; omega
        case rel => exact ⟨3, by omega, rfl, rfl, HS.out.miss 2 (by omega) HOK.out, HX.out.t, HX.out.b⟩
      · have HOK := Lib.hid hok
        have hcx := fun W => eq7 (gd7 (fun k => (four (tp (fun j => [c0, c1, c2, c3, c4, c5, c6].getD j 0) 2)).getD k 0)) (sevenL (tp (fun j => [c0, c1, c2, c3, c4, c5, c6].getD j 0) 2)) rfl rfl W
        rw [show decide (gd7 (fun k => (four (tp (fun j => [c0, c1, c2, c3, c4, c5, c6].getD j 0) 2)).getD k 0) = sevenL (tp (fun j => [c0, c1, c2, c3, c4, c5, c6].getD j 0) 2)) = true from hok] at hcx
        have hcm : ∀ W, (binOp .eql 65 (.agg (u8s (gd7 (fun k => (four (tp (fun j => [c0, c1, c2, c3, c4, c5, c6].getD j 0) 2)).getD k 0)))) (.agg #[.int .u8 ((c0).toNat : Int), .int .u8 (((flp c1)).toNat : Int), .int .u8 ((c2).toNat : Int), .int .u8 ((c3).toNat : Int), .int .u8 ((c4).toNat : Int), .int .u8 ((c5).toNat : Int), .int .u8 ((c6).toNat : Int)])).run Tryz.prog W = .ok (.bool true) W := hcx
        clear hcx
        have HGR := Lib.hid (show ∀ W, Tabs W → Calls Tryz.prog 64 #[.agg #[.int .u8 ((c0).toNat : Int), .int .u8 (((flp c1)).toNat : Int), .int .u8 ((c2).toNat : Int), .int .u8 ((c3).toNat : Int), .int .u8 ((c4).toNat : Int), .int .u8 ((c5).toNat : Int), .int .u8 ((c6).toNat : Int)]] W fun e w' => e = .returned (.string ⟨(four (tp (fun j => [c0, c1, c2, c3, c4, c5, c6].getD j 0) 2)).toArray⟩) ∧ Below W.heap.size W w' from fun W hT => igr_any W hT (tp (fun j => [c0, c1, c2, c3, c4, c5, c6].getD j 0) 2))
        have HGD := Lib.hid (show ∀ W, Tabs W → Calls Tryz.prog 65 #[.string ⟨(four (tp (fun j => [c0, c1, c2, c3, c4, c5, c6].getD j 0) 2)).toArray⟩] W fun e w' => e = .returned (.agg (u8s (gd7 (fun k => (four (tp (fun j => [c0, c1, c2, c3, c4, c5, c6].getD j 0) 2)).getD k 0)))) ∧ Below W.heap.size W w' from fun W hT => igd_any W hT _ (fun k => (four (tp (fun j => [c0, c1, c2, c3, c4, c5, c6].getD j 0) 2)).getD k 0) rfl (fun k hk => four_at _ k hk) (four_bits 2 HB7.out))
        have HTU := Lib.hid (fun W => turG_any c1 W (HB7.out 1 (by omega)))
        generalize hfs : (⟨(four (tp (fun j => [c0, c1, c2, c3, c4, c5, c6].getD j 0) 2)).toArray⟩ : ByteArray) = fs at *
        have HFS := Lib.hid hfs
        clear hfs
        generalize gd7 (fun k => (four (tp (fun j => [c0, c1, c2, c3, c4, c5, c6].getD j 0) 2)).getD k 0) = gg at *
        have hsp := arrAt wr.heap.size cc
        have ht1 := HT.out.below hb1 HT.out.sz
        have hbw := HBB.out.trans (hb1.mono HBB.out.size)
        have HT1 := Lib.hid ht1
        have HBW := Lib.hid hbw
        have HM := Lib.hid (Mbk.new (w := w) (w1 := w1) (#[.int .u8 ((c0).toNat : Int), .int .u8 (((flp c1)).toNat : Int), .int .u8 ((c2).toNat : Int), .int .u8 ((c3).toNat : Int), .int .u8 ((c4).toNat : Int), .int .u8 ((c5).toNat : Int), .int .u8 ((c6).toNat : Int)]) HZ.out ht1 hbw (Nat.lt_of_le_of_lt HBB.out.size hz1))
        clear ht1 hbw hb1 hok
        have k0 := HOW.out.cellAt 0 (by rw [HL.out]; simp)
        rw [HL.out] at k0
        simp only [List.getD_cons_zero] at k0
        have k1 := HOW.out.cellAt 1 (by rw [HL.out]; simp)
        rw [HL.out] at k1
        simp only [List.getD_cons_zero, List.getD_cons_succ] at k1
        have k2 := HOW.out.cellAt 2 (by rw [HL.out]; simp)
        rw [HL.out] at k2
        simp only [List.getD_cons_zero, List.getD_cons_succ] at k2
        have k3 := HOW.out.cellAt 3 (by rw [HL.out]; simp)
        rw [HL.out] at k3
        simp only [List.getD_cons_zero, List.getD_cons_succ] at k3
        have k4 := HOW.out.cellAt 4 (by rw [HL.out]; simp)
        rw [HL.out] at k4
        simp only [List.getD_cons_zero, List.getD_cons_succ] at k4
        have k5 := HOW.out.cellAt 5 (by rw [HL.out]; simp)
        rw [HL.out] at k5
        simp only [List.getD_cons_zero, List.getD_cons_succ] at k5
        have k6 := HOW.out.cellAt 6 (by rw [HL.out]; simp)
        rw [HL.out] at k6
        simp only [List.getD_cons_zero, List.getD_cons_succ] at k6
        go_wp2_with fail
        refine (HTU.out _).mono ?_
        rintro e w9 ⟨rfl, rfl⟩
        go_wp2_with fail
        refine (HGR.out _ HM.out.t).mono ?_
        rintro e w2 ⟨rfl, hb2⟩
        have hM2 := HM.out.more hb2
        have HM2 := Lib.hid hM2
        clear hb2 k0 k1 k2 k3 k4 k5 k6
        go_wp2_with fail
        have ne := Wld.ne (S := (fun w' => Mbk w w1.heap.size w' (#[.int .u8 ((c0).toNat : Int), .int .u8 (((flp c1)).toNat : Int), .int .u8 ((c2).toNat : Int), .int .u8 ((c3).toNat : Int), .int .u8 ((c4).toNat : Int), .int .u8 ((c5).toNat : Int), .int .u8 ((c6).toNat : Int)]))) hM2
        have m0 : ∀ x : Wld (fun w' => Mbk w w1.heap.size w' (#[.int .u8 ((c0).toNat : Int), .int .u8 (((flp c1)).toNat : Int), .int .u8 ((c2).toNat : Int), .int .u8 ((c3).toNat : Int), .int .u8 ((c4).toNat : Int), .int .u8 ((c5).toNat : Int), .int .u8 ((c6).toNat : Int)])), x.v.cell? ⟨w1.heap.size, 0, none⟩ = some (.int .u8 ((c0).toNat : Int)) := fun x => x.h.cell 0
        have m1 : ∀ x : Wld (fun w' => Mbk w w1.heap.size w' (#[.int .u8 ((c0).toNat : Int), .int .u8 (((flp c1)).toNat : Int), .int .u8 ((c2).toNat : Int), .int .u8 ((c3).toNat : Int), .int .u8 ((c4).toNat : Int), .int .u8 ((c5).toNat : Int), .int .u8 ((c6).toNat : Int)])), x.v.cell? ⟨w1.heap.size, 1, none⟩ = some (.int .u8 (((flp c1)).toNat : Int)) := fun x => x.h.cell 1
        have m2 : ∀ x : Wld (fun w' => Mbk w w1.heap.size w' (#[.int .u8 ((c0).toNat : Int), .int .u8 (((flp c1)).toNat : Int), .int .u8 ((c2).toNat : Int), .int .u8 ((c3).toNat : Int), .int .u8 ((c4).toNat : Int), .int .u8 ((c5).toNat : Int), .int .u8 ((c6).toNat : Int)])), x.v.cell? ⟨w1.heap.size, 2, none⟩ = some (.int .u8 ((c2).toNat : Int)) := fun x => x.h.cell 2
        have m3 : ∀ x : Wld (fun w' => Mbk w w1.heap.size w' (#[.int .u8 ((c0).toNat : Int), .int .u8 (((flp c1)).toNat : Int), .int .u8 ((c2).toNat : Int), .int .u8 ((c3).toNat : Int), .int .u8 ((c4).toNat : Int), .int .u8 ((c5).toNat : Int), .int .u8 ((c6).toNat : Int)])), x.v.cell? ⟨w1.heap.size, 3, none⟩ = some (.int .u8 ((c3).toNat : Int)) := fun x => x.h.cell 3
        have m4 : ∀ x : Wld (fun w' => Mbk w w1.heap.size w' (#[.int .u8 ((c0).toNat : Int), .int .u8 (((flp c1)).toNat : Int), .int .u8 ((c2).toNat : Int), .int .u8 ((c3).toNat : Int), .int .u8 ((c4).toNat : Int), .int .u8 ((c5).toNat : Int), .int .u8 ((c6).toNat : Int)])), x.v.cell? ⟨w1.heap.size, 4, none⟩ = some (.int .u8 ((c4).toNat : Int)) := fun x => x.h.cell 4
        have m5 : ∀ x : Wld (fun w' => Mbk w w1.heap.size w' (#[.int .u8 ((c0).toNat : Int), .int .u8 (((flp c1)).toNat : Int), .int .u8 ((c2).toNat : Int), .int .u8 ((c3).toNat : Int), .int .u8 ((c4).toNat : Int), .int .u8 ((c5).toNat : Int), .int .u8 ((c6).toNat : Int)])), x.v.cell? ⟨w1.heap.size, 5, none⟩ = some (.int .u8 ((c5).toNat : Int)) := fun x => x.h.cell 5
        have m6 : ∀ x : Wld (fun w' => Mbk w w1.heap.size w' (#[.int .u8 ((c0).toNat : Int), .int .u8 (((flp c1)).toNat : Int), .int .u8 ((c2).toNat : Int), .int .u8 ((c3).toNat : Int), .int .u8 ((c4).toNat : Int), .int .u8 ((c5).toNat : Int), .int .u8 ((c6).toNat : Int)])), x.v.cell? ⟨w1.heap.size, 6, none⟩ = some (.int .u8 ((c6).toNat : Int)) := fun x => x.h.cell 6
        have hgt : ∀ x : Wld (fun w' => Mbk w w1.heap.size w' (#[.int .u8 ((c0).toNat : Int), .int .u8 (((flp c1)).toNat : Int), .int .u8 ((c2).toNat : Int), .int .u8 ((c3).toNat : Int), .int .u8 ((c4).toNat : Int), .int .u8 ((c5).toNat : Int), .int .u8 ((c6).toNat : Int)])), Tabs x.v := fun x => x.h.t
        clear hM2
        refine wp_region_heldq (fun w' => Mbk w w1.heap.size w' (#[.int .u8 ((c0).toNat : Int), .int .u8 (((flp c1)).toNat : Int), .int .u8 ((c2).toNat : Int), .int .u8 ((c3).toNat : Int), .int .u8 ((c4).toNat : Int), .int .u8 ((c5).toNat : Int), .int .u8 ((c6).toNat : Int)])) (by kernel_rfl) (by kernel_rfl) HM2.out.drew ?_
        repeat (go_big_quiet_step (with_reducible exact held_below (fun _ _ h hb => Mbk.more h hb) (HGD.out _ (hgt _))))
        refine wpQuiet_nil ?_
        rintro _ ⟨x, rfl⟩
        have HX := Lib.hid x.h
        clear ne hgt m0 m1 m2 m3 m4 m5 m6
        generalize x.v = wx at *
        go_wp2
        go_ret2
        exact ⟨by rw [← HRES.out, HS.out.hit 2 (by omega) HOK.out, HFS.out]; rfl, HX.out.b⟩
    · cases hok : okP (fun j => [c0, c1, c2, c3, c4, c5, c6].getD j 0) 3
      · have HOK := Lib.hid hok
        have hcx := fun W => eq7 (gd7 (fun k => (four (tp (fun j => [c0, c1, c2, c3, c4, c5, c6].getD j 0) 3)).getD k 0)) (sevenL (tp (fun j => [c0, c1, c2, c3, c4, c5, c6].getD j 0) 3)) rfl rfl W
        rw [show decide (gd7 (fun k => (four (tp (fun j => [c0, c1, c2, c3, c4, c5, c6].getD j 0) 3)).getD k 0) = sevenL (tp (fun j => [c0, c1, c2, c3, c4, c5, c6].getD j 0) 3)) = false from hok] at hcx
        have hcm : ∀ W, (binOp .eql 65 (.agg (u8s (gd7 (fun k => (four (tp (fun j => [c0, c1, c2, c3, c4, c5, c6].getD j 0) 3)).getD k 0)))) (.agg #[.int .u8 ((c0).toNat : Int), .int .u8 ((c1).toNat : Int), .int .u8 (((flp c2)).toNat : Int), .int .u8 ((c3).toNat : Int), .int .u8 ((c4).toNat : Int), .int .u8 ((c5).toNat : Int), .int .u8 ((c6).toNat : Int)])).run Tryz.prog W = .ok (.bool false) W := hcx
        clear hcx
        have HGR := Lib.hid (show ∀ W, Tabs W → Calls Tryz.prog 64 #[.agg #[.int .u8 ((c0).toNat : Int), .int .u8 ((c1).toNat : Int), .int .u8 (((flp c2)).toNat : Int), .int .u8 ((c3).toNat : Int), .int .u8 ((c4).toNat : Int), .int .u8 ((c5).toNat : Int), .int .u8 ((c6).toNat : Int)]] W fun e w' => e = .returned (.string ⟨(four (tp (fun j => [c0, c1, c2, c3, c4, c5, c6].getD j 0) 3)).toArray⟩) ∧ Below W.heap.size W w' from fun W hT => igr_any W hT (tp (fun j => [c0, c1, c2, c3, c4, c5, c6].getD j 0) 3))
        have HGD := Lib.hid (show ∀ W, Tabs W → Calls Tryz.prog 65 #[.string ⟨(four (tp (fun j => [c0, c1, c2, c3, c4, c5, c6].getD j 0) 3)).toArray⟩] W fun e w' => e = .returned (.agg (u8s (gd7 (fun k => (four (tp (fun j => [c0, c1, c2, c3, c4, c5, c6].getD j 0) 3)).getD k 0)))) ∧ Below W.heap.size W w' from fun W hT => igd_any W hT _ (fun k => (four (tp (fun j => [c0, c1, c2, c3, c4, c5, c6].getD j 0) 3)).getD k 0) rfl (fun k hk => four_at _ k hk) (four_bits 3 HB7.out))
        have HTU := Lib.hid (fun W => turG_any c2 W (HB7.out 2 (by omega)))
        generalize hfs : (⟨(four (tp (fun j => [c0, c1, c2, c3, c4, c5, c6].getD j 0) 3)).toArray⟩ : ByteArray) = fs at *
        have HFS := Lib.hid hfs
        clear hfs
        generalize gd7 (fun k => (four (tp (fun j => [c0, c1, c2, c3, c4, c5, c6].getD j 0) 3)).getD k 0) = gg at *
        have hsp := arrAt wr.heap.size cc
        have ht1 := HT.out.below hb1 HT.out.sz
        have hbw := HBB.out.trans (hb1.mono HBB.out.size)
        have HT1 := Lib.hid ht1
        have HBW := Lib.hid hbw
        have HM := Lib.hid (Mbk.new (w := w) (w1 := w1) (#[.int .u8 ((c0).toNat : Int), .int .u8 ((c1).toNat : Int), .int .u8 (((flp c2)).toNat : Int), .int .u8 ((c3).toNat : Int), .int .u8 ((c4).toNat : Int), .int .u8 ((c5).toNat : Int), .int .u8 ((c6).toNat : Int)]) HZ.out ht1 hbw (Nat.lt_of_le_of_lt HBB.out.size hz1))
        clear ht1 hbw hb1 hok
        have k0 := HOW.out.cellAt 0 (by rw [HL.out]; simp)
        rw [HL.out] at k0
        simp only [List.getD_cons_zero] at k0
        have k1 := HOW.out.cellAt 1 (by rw [HL.out]; simp)
        rw [HL.out] at k1
        simp only [List.getD_cons_zero, List.getD_cons_succ] at k1
        have k2 := HOW.out.cellAt 2 (by rw [HL.out]; simp)
        rw [HL.out] at k2
        simp only [List.getD_cons_zero, List.getD_cons_succ] at k2
        have k3 := HOW.out.cellAt 3 (by rw [HL.out]; simp)
        rw [HL.out] at k3
        simp only [List.getD_cons_zero, List.getD_cons_succ] at k3
        have k4 := HOW.out.cellAt 4 (by rw [HL.out]; simp)
        rw [HL.out] at k4
        simp only [List.getD_cons_zero, List.getD_cons_succ] at k4
        have k5 := HOW.out.cellAt 5 (by rw [HL.out]; simp)
        rw [HL.out] at k5
        simp only [List.getD_cons_zero, List.getD_cons_succ] at k5
        have k6 := HOW.out.cellAt 6 (by rw [HL.out]; simp)
        rw [HL.out] at k6
        simp only [List.getD_cons_zero, List.getD_cons_succ] at k6
        go_wp2_with fail
        refine (HTU.out _).mono ?_
        rintro e w9 ⟨rfl, rfl⟩
        go_wp2_with fail
        refine (HGR.out _ HM.out.t).mono ?_
        rintro e w2 ⟨rfl, hb2⟩
        have hM2 := HM.out.more hb2
        have HM2 := Lib.hid hM2
        clear hb2 k0 k1 k2 k3 k4 k5 k6
        go_wp2_with fail
        have ne := Wld.ne (S := (fun w' => Mbk w w1.heap.size w' (#[.int .u8 ((c0).toNat : Int), .int .u8 ((c1).toNat : Int), .int .u8 (((flp c2)).toNat : Int), .int .u8 ((c3).toNat : Int), .int .u8 ((c4).toNat : Int), .int .u8 ((c5).toNat : Int), .int .u8 ((c6).toNat : Int)]))) hM2
        have m0 : ∀ x : Wld (fun w' => Mbk w w1.heap.size w' (#[.int .u8 ((c0).toNat : Int), .int .u8 ((c1).toNat : Int), .int .u8 (((flp c2)).toNat : Int), .int .u8 ((c3).toNat : Int), .int .u8 ((c4).toNat : Int), .int .u8 ((c5).toNat : Int), .int .u8 ((c6).toNat : Int)])), x.v.cell? ⟨w1.heap.size, 0, none⟩ = some (.int .u8 ((c0).toNat : Int)) := fun x => x.h.cell 0
        have m1 : ∀ x : Wld (fun w' => Mbk w w1.heap.size w' (#[.int .u8 ((c0).toNat : Int), .int .u8 ((c1).toNat : Int), .int .u8 (((flp c2)).toNat : Int), .int .u8 ((c3).toNat : Int), .int .u8 ((c4).toNat : Int), .int .u8 ((c5).toNat : Int), .int .u8 ((c6).toNat : Int)])), x.v.cell? ⟨w1.heap.size, 1, none⟩ = some (.int .u8 ((c1).toNat : Int)) := fun x => x.h.cell 1
        have m2 : ∀ x : Wld (fun w' => Mbk w w1.heap.size w' (#[.int .u8 ((c0).toNat : Int), .int .u8 ((c1).toNat : Int), .int .u8 (((flp c2)).toNat : Int), .int .u8 ((c3).toNat : Int), .int .u8 ((c4).toNat : Int), .int .u8 ((c5).toNat : Int), .int .u8 ((c6).toNat : Int)])), x.v.cell? ⟨w1.heap.size, 2, none⟩ = some (.int .u8 (((flp c2)).toNat : Int)) := fun x => x.h.cell 2
        have m3 : ∀ x : Wld (fun w' => Mbk w w1.heap.size w' (#[.int .u8 ((c0).toNat : Int), .int .u8 ((c1).toNat : Int), .int .u8 (((flp c2)).toNat : Int), .int .u8 ((c3).toNat : Int), .int .u8 ((c4).toNat : Int), .int .u8 ((c5).toNat : Int), .int .u8 ((c6).toNat : Int)])), x.v.cell? ⟨w1.heap.size, 3, none⟩ = some (.int .u8 ((c3).toNat : Int)) := fun x => x.h.cell 3
        have m4 : ∀ x : Wld (fun w' => Mbk w w1.heap.size w' (#[.int .u8 ((c0).toNat : Int), .int .u8 ((c1).toNat : Int), .int .u8 (((flp c2)).toNat : Int), .int .u8 ((c3).toNat : Int), .int .u8 ((c4).toNat : Int), .int .u8 ((c5).toNat : Int), .int .u8 ((c6).toNat : Int)])), x.v.cell? ⟨w1.heap.size, 4, none⟩ = some (.int .u8 ((c4).toNat : Int)) := fun x => x.h.cell 4
        have m5 : ∀ x : Wld (fun w' => Mbk w w1.heap.size w' (#[.int .u8 ((c0).toNat : Int), .int .u8 ((c1).toNat : Int), .int .u8 (((flp c2)).toNat : Int), .int .u8 ((c3).toNat : Int), .int .u8 ((c4).toNat : Int), .int .u8 ((c5).toNat : Int), .int .u8 ((c6).toNat : Int)])), x.v.cell? ⟨w1.heap.size, 5, none⟩ = some (.int .u8 ((c5).toNat : Int)) := fun x => x.h.cell 5
        have m6 : ∀ x : Wld (fun w' => Mbk w w1.heap.size w' (#[.int .u8 ((c0).toNat : Int), .int .u8 ((c1).toNat : Int), .int .u8 (((flp c2)).toNat : Int), .int .u8 ((c3).toNat : Int), .int .u8 ((c4).toNat : Int), .int .u8 ((c5).toNat : Int), .int .u8 ((c6).toNat : Int)])), x.v.cell? ⟨w1.heap.size, 6, none⟩ = some (.int .u8 ((c6).toNat : Int)) := fun x => x.h.cell 6
        have hgt : ∀ x : Wld (fun w' => Mbk w w1.heap.size w' (#[.int .u8 ((c0).toNat : Int), .int .u8 ((c1).toNat : Int), .int .u8 (((flp c2)).toNat : Int), .int .u8 ((c3).toNat : Int), .int .u8 ((c4).toNat : Int), .int .u8 ((c5).toNat : Int), .int .u8 ((c6).toNat : Int)])), Tabs x.v := fun x => x.h.t
        clear hM2
        refine wp_region_heldq (fun w' => Mbk w w1.heap.size w' (#[.int .u8 ((c0).toNat : Int), .int .u8 ((c1).toNat : Int), .int .u8 (((flp c2)).toNat : Int), .int .u8 ((c3).toNat : Int), .int .u8 ((c4).toNat : Int), .int .u8 ((c5).toNat : Int), .int .u8 ((c6).toNat : Int)])) (by kernel_rfl) (by kernel_rfl) HM2.out.drew ?_
        repeat (go_big_quiet_step (with_reducible exact held_below (fun _ _ h hb => Mbk.more h hb) (HGD.out _ (hgt _))))
        refine wpQuiet_nil ?_
        rintro _ ⟨x, rfl⟩
        have HX := Lib.hid x.h
        clear ne hgt m0 m1 m2 m3 m4 m5 m6
        generalize x.v = wx at *
        go_wp2
        go_roundg 4
        case measure => have := HG.out; omega
        case rel => exact ⟨4, by omega, rfl, rfl, HS.out.miss 3 (by omega) HOK.out, HX.out.t, HX.out.b⟩
      · have HOK := Lib.hid hok
        have hcx := fun W => eq7 (gd7 (fun k => (four (tp (fun j => [c0, c1, c2, c3, c4, c5, c6].getD j 0) 3)).getD k 0)) (sevenL (tp (fun j => [c0, c1, c2, c3, c4, c5, c6].getD j 0) 3)) rfl rfl W
        rw [show decide (gd7 (fun k => (four (tp (fun j => [c0, c1, c2, c3, c4, c5, c6].getD j 0) 3)).getD k 0) = sevenL (tp (fun j => [c0, c1, c2, c3, c4, c5, c6].getD j 0) 3)) = true from hok] at hcx
        have hcm : ∀ W, (binOp .eql 65 (.agg (u8s (gd7 (fun k => (four (tp (fun j => [c0, c1, c2, c3, c4, c5, c6].getD j 0) 3)).getD k 0)))) (.agg #[.int .u8 ((c0).toNat : Int), .int .u8 ((c1).toNat : Int), .int .u8 (((flp c2)).toNat : Int), .int .u8 ((c3).toNat : Int), .int .u8 ((c4).toNat : Int), .int .u8 ((c5).toNat : Int), .int .u8 ((c6).toNat : Int)])).run Tryz.prog W = .ok (.bool true) W := hcx
        clear hcx
        have HGR := Lib.hid (show ∀ W, Tabs W → Calls Tryz.prog 64 #[.agg #[.int .u8 ((c0).toNat : Int), .int .u8 ((c1).toNat : Int), .int .u8 (((flp c2)).toNat : Int), .int .u8 ((c3).toNat : Int), .int .u8 ((c4).toNat : Int), .int .u8 ((c5).toNat : Int), .int .u8 ((c6).toNat : Int)]] W fun e w' => e = .returned (.string ⟨(four (tp (fun j => [c0, c1, c2, c3, c4, c5, c6].getD j 0) 3)).toArray⟩) ∧ Below W.heap.size W w' from fun W hT => igr_any W hT (tp (fun j => [c0, c1, c2, c3, c4, c5, c6].getD j 0) 3))
        have HGD := Lib.hid (show ∀ W, Tabs W → Calls Tryz.prog 65 #[.string ⟨(four (tp (fun j => [c0, c1, c2, c3, c4, c5, c6].getD j 0) 3)).toArray⟩] W fun e w' => e = .returned (.agg (u8s (gd7 (fun k => (four (tp (fun j => [c0, c1, c2, c3, c4, c5, c6].getD j 0) 3)).getD k 0)))) ∧ Below W.heap.size W w' from fun W hT => igd_any W hT _ (fun k => (four (tp (fun j => [c0, c1, c2, c3, c4, c5, c6].getD j 0) 3)).getD k 0) rfl (fun k hk => four_at _ k hk) (four_bits 3 HB7.out))
        have HTU := Lib.hid (fun W => turG_any c2 W (HB7.out 2 (by omega)))
        generalize hfs : (⟨(four (tp (fun j => [c0, c1, c2, c3, c4, c5, c6].getD j 0) 3)).toArray⟩ : ByteArray) = fs at *
        have HFS := Lib.hid hfs
        clear hfs
        generalize gd7 (fun k => (four (tp (fun j => [c0, c1, c2, c3, c4, c5, c6].getD j 0) 3)).getD k 0) = gg at *
        have hsp := arrAt wr.heap.size cc
        have ht1 := HT.out.below hb1 HT.out.sz
        have hbw := HBB.out.trans (hb1.mono HBB.out.size)
        have HT1 := Lib.hid ht1
        have HBW := Lib.hid hbw
        have HM := Lib.hid (Mbk.new (w := w) (w1 := w1) (#[.int .u8 ((c0).toNat : Int), .int .u8 ((c1).toNat : Int), .int .u8 (((flp c2)).toNat : Int), .int .u8 ((c3).toNat : Int), .int .u8 ((c4).toNat : Int), .int .u8 ((c5).toNat : Int), .int .u8 ((c6).toNat : Int)]) HZ.out ht1 hbw (Nat.lt_of_le_of_lt HBB.out.size hz1))
        clear ht1 hbw hb1 hok
        have k0 := HOW.out.cellAt 0 (by rw [HL.out]; simp)
        rw [HL.out] at k0
        simp only [List.getD_cons_zero] at k0
        have k1 := HOW.out.cellAt 1 (by rw [HL.out]; simp)
        rw [HL.out] at k1
        simp only [List.getD_cons_zero, List.getD_cons_succ] at k1
        have k2 := HOW.out.cellAt 2 (by rw [HL.out]; simp)
        rw [HL.out] at k2
        simp only [List.getD_cons_zero, List.getD_cons_succ] at k2
        have k3 := HOW.out.cellAt 3 (by rw [HL.out]; simp)
        rw [HL.out] at k3
        simp only [List.getD_cons_zero, List.getD_cons_succ] at k3
        have k4 := HOW.out.cellAt 4 (by rw [HL.out]; simp)
        rw [HL.out] at k4
        simp only [List.getD_cons_zero, List.getD_cons_succ] at k4
        have k5 := HOW.out.cellAt 5 (by rw [HL.out]; simp)
        rw [HL.out] at k5
        simp only [List.getD_cons_zero, List.getD_cons_succ] at k5
        have k6 := HOW.out.cellAt 6 (by rw [HL.out]; simp)
        rw [HL.out] at k6
        simp only [List.getD_cons_zero, List.getD_cons_succ] at k6
        go_wp2_with fail
        refine (HTU.out _).mono ?_
        rintro e w9 ⟨rfl, rfl⟩
        go_wp2_with fail
        refine (HGR.out _ HM.out.t).mono ?_
        rintro e w2 ⟨rfl, hb2⟩
        have hM2 := HM.out.more hb2
        have HM2 := Lib.hid hM2
        clear hb2 k0 k1 k2 k3 k4 k5 k6
        go_wp2_with fail
        have ne := Wld.ne (S := (fun w' => Mbk w w1.heap.size w' (#[.int .u8 ((c0).toNat : Int), .int .u8 ((c1).toNat : Int), .int .u8 (((flp c2)).toNat : Int), .int .u8 ((c3).toNat : Int), .int .u8 ((c4).toNat : Int), .int .u8 ((c5).toNat : Int), .int .u8 ((c6).toNat : Int)]))) hM2
        have m0 : ∀ x : Wld (fun w' => Mbk w w1.heap.size w' (#[.int .u8 ((c0).toNat : Int), .int .u8 ((c1).toNat : Int), .int .u8 (((flp c2)).toNat : Int), .int .u8 ((c3).toNat : Int), .int .u8 ((c4).toNat : Int), .int .u8 ((c5).toNat : Int), .int .u8 ((c6).toNat : Int)])), x.v.cell? ⟨w1.heap.size, 0, none⟩ = some (.int .u8 ((c0).toNat : Int)) := fun x => x.h.cell 0
        have m1 : ∀ x : Wld (fun w' => Mbk w w1.heap.size w' (#[.int .u8 ((c0).toNat : Int), .int .u8 ((c1).toNat : Int), .int .u8 (((flp c2)).toNat : Int), .int .u8 ((c3).toNat : Int), .int .u8 ((c4).toNat : Int), .int .u8 ((c5).toNat : Int), .int .u8 ((c6).toNat : Int)])), x.v.cell? ⟨w1.heap.size, 1, none⟩ = some (.int .u8 ((c1).toNat : Int)) := fun x => x.h.cell 1
        have m2 : ∀ x : Wld (fun w' => Mbk w w1.heap.size w' (#[.int .u8 ((c0).toNat : Int), .int .u8 ((c1).toNat : Int), .int .u8 (((flp c2)).toNat : Int), .int .u8 ((c3).toNat : Int), .int .u8 ((c4).toNat : Int), .int .u8 ((c5).toNat : Int), .int .u8 ((c6).toNat : Int)])), x.v.cell? ⟨w1.heap.size, 2, none⟩ = some (.int .u8 (((flp c2)).toNat : Int)) := fun x => x.h.cell 2
        have m3 : ∀ x : Wld (fun w' => Mbk w w1.heap.size w' (#[.int .u8 ((c0).toNat : Int), .int .u8 ((c1).toNat : Int), .int .u8 (((flp c2)).toNat : Int), .int .u8 ((c3).toNat : Int), .int .u8 ((c4).toNat : Int), .int .u8 ((c5).toNat : Int), .int .u8 ((c6).toNat : Int)])), x.v.cell? ⟨w1.heap.size, 3, none⟩ = some (.int .u8 ((c3).toNat : Int)) := fun x => x.h.cell 3
        have m4 : ∀ x : Wld (fun w' => Mbk w w1.heap.size w' (#[.int .u8 ((c0).toNat : Int), .int .u8 ((c1).toNat : Int), .int .u8 (((flp c2)).toNat : Int), .int .u8 ((c3).toNat : Int), .int .u8 ((c4).toNat : Int), .int .u8 ((c5).toNat : Int), .int .u8 ((c6).toNat : Int)])), x.v.cell? ⟨w1.heap.size, 4, none⟩ = some (.int .u8 ((c4).toNat : Int)) := fun x => x.h.cell 4
        have m5 : ∀ x : Wld (fun w' => Mbk w w1.heap.size w' (#[.int .u8 ((c0).toNat : Int), .int .u8 ((c1).toNat : Int), .int .u8 (((flp c2)).toNat : Int), .int .u8 ((c3).toNat : Int), .int .u8 ((c4).toNat : Int), .int .u8 ((c5).toNat : Int), .int .u8 ((c6).toNat : Int)])), x.v.cell? ⟨w1.heap.size, 5, none⟩ = some (.int .u8 ((c5).toNat : Int)) := fun x => x.h.cell 5
        have m6 : ∀ x : Wld (fun w' => Mbk w w1.heap.size w' (#[.int .u8 ((c0).toNat : Int), .int .u8 ((c1).toNat : Int), .int .u8 (((flp c2)).toNat : Int), .int .u8 ((c3).toNat : Int), .int .u8 ((c4).toNat : Int), .int .u8 ((c5).toNat : Int), .int .u8 ((c6).toNat : Int)])), x.v.cell? ⟨w1.heap.size, 6, none⟩ = some (.int .u8 ((c6).toNat : Int)) := fun x => x.h.cell 6
        have hgt : ∀ x : Wld (fun w' => Mbk w w1.heap.size w' (#[.int .u8 ((c0).toNat : Int), .int .u8 ((c1).toNat : Int), .int .u8 (((flp c2)).toNat : Int), .int .u8 ((c3).toNat : Int), .int .u8 ((c4).toNat : Int), .int .u8 ((c5).toNat : Int), .int .u8 ((c6).toNat : Int)])), Tabs x.v := fun x => x.h.t
        clear hM2
        refine wp_region_heldq (fun w' => Mbk w w1.heap.size w' (#[.int .u8 ((c0).toNat : Int), .int .u8 ((c1).toNat : Int), .int .u8 (((flp c2)).toNat : Int), .int .u8 ((c3).toNat : Int), .int .u8 ((c4).toNat : Int), .int .u8 ((c5).toNat : Int), .int .u8 ((c6).toNat : Int)])) (by kernel_rfl) (by kernel_rfl) HM2.out.drew ?_
        repeat (go_big_quiet_step (with_reducible exact held_below (fun _ _ h hb => Mbk.more h hb) (HGD.out _ (hgt _))))
        refine wpQuiet_nil ?_
        rintro _ ⟨x, rfl⟩
        have HX := Lib.hid x.h
        clear ne hgt m0 m1 m2 m3 m4 m5 m6
        generalize x.v = wx at *
        go_wp2
        go_ret2
        exact ⟨by rw [← HRES.out, HS.out.hit 3 (by omega) HOK.out, HFS.out]; rfl, HX.out.b⟩
    · cases hok : okP (fun j => [c0, c1, c2, c3, c4, c5, c6].getD j 0) 4
      · have HOK := Lib.hid hok
        have hcx := fun W => eq7 (gd7 (fun k => (four (tp (fun j => [c0, c1, c2, c3, c4, c5, c6].getD j 0) 4)).getD k 0)) (sevenL (tp (fun j => [c0, c1, c2, c3, c4, c5, c6].getD j 0) 4)) rfl rfl W
        rw [show decide (gd7 (fun k => (four (tp (fun j => [c0, c1, c2, c3, c4, c5, c6].getD j 0) 4)).getD k 0) = sevenL (tp (fun j => [c0, c1, c2, c3, c4, c5, c6].getD j 0) 4)) = false from hok] at hcx
        have hcm : ∀ W, (binOp .eql 65 (.agg (u8s (gd7 (fun k => (four (tp (fun j => [c0, c1, c2, c3, c4, c5, c6].getD j 0) 4)).getD k 0)))) (.agg #[.int .u8 ((c0).toNat : Int), .int .u8 ((c1).toNat : Int), .int .u8 ((c2).toNat : Int), .int .u8 (((flp c3)).toNat : Int), .int .u8 ((c4).toNat : Int), .int .u8 ((c5).toNat : Int), .int .u8 ((c6).toNat : Int)])).run Tryz.prog W = .ok (.bool false) W := hcx
        clear hcx
        have HGR := Lib.hid (show ∀ W, Tabs W → Calls Tryz.prog 64 #[.agg #[.int .u8 ((c0).toNat : Int), .int .u8 ((c1).toNat : Int), .int .u8 ((c2).toNat : Int), .int .u8 (((flp c3)).toNat : Int), .int .u8 ((c4).toNat : Int), .int .u8 ((c5).toNat : Int), .int .u8 ((c6).toNat : Int)]] W fun e w' => e = .returned (.string ⟨(four (tp (fun j => [c0, c1, c2, c3, c4, c5, c6].getD j 0) 4)).toArray⟩) ∧ Below W.heap.size W w' from fun W hT => igr_any W hT (tp (fun j => [c0, c1, c2, c3, c4, c5, c6].getD j 0) 4))
        have HGD := Lib.hid (show ∀ W, Tabs W → Calls Tryz.prog 65 #[.string ⟨(four (tp (fun j => [c0, c1, c2, c3, c4, c5, c6].getD j 0) 4)).toArray⟩] W fun e w' => e = .returned (.agg (u8s (gd7 (fun k => (four (tp (fun j => [c0, c1, c2, c3, c4, c5, c6].getD j 0) 4)).getD k 0)))) ∧ Below W.heap.size W w' from fun W hT => igd_any W hT _ (fun k => (four (tp (fun j => [c0, c1, c2, c3, c4, c5, c6].getD j 0) 4)).getD k 0) rfl (fun k hk => four_at _ k hk) (four_bits 4 HB7.out))
        have HTU := Lib.hid (fun W => turG_any c3 W (HB7.out 3 (by omega)))
        generalize hfs : (⟨(four (tp (fun j => [c0, c1, c2, c3, c4, c5, c6].getD j 0) 4)).toArray⟩ : ByteArray) = fs at *
        have HFS := Lib.hid hfs
        clear hfs
        generalize gd7 (fun k => (four (tp (fun j => [c0, c1, c2, c3, c4, c5, c6].getD j 0) 4)).getD k 0) = gg at *
        have hsp := arrAt wr.heap.size cc
        have ht1 := HT.out.below hb1 HT.out.sz
        have hbw := HBB.out.trans (hb1.mono HBB.out.size)
        have HT1 := Lib.hid ht1
        have HBW := Lib.hid hbw
        have HM := Lib.hid (Mbk.new (w := w) (w1 := w1) (#[.int .u8 ((c0).toNat : Int), .int .u8 ((c1).toNat : Int), .int .u8 ((c2).toNat : Int), .int .u8 (((flp c3)).toNat : Int), .int .u8 ((c4).toNat : Int), .int .u8 ((c5).toNat : Int), .int .u8 ((c6).toNat : Int)]) HZ.out ht1 hbw (Nat.lt_of_le_of_lt HBB.out.size hz1))
        clear ht1 hbw hb1 hok
        have k0 := HOW.out.cellAt 0 (by rw [HL.out]; simp)
        rw [HL.out] at k0
        simp only [List.getD_cons_zero] at k0
        have k1 := HOW.out.cellAt 1 (by rw [HL.out]; simp)
        rw [HL.out] at k1
        simp only [List.getD_cons_zero, List.getD_cons_succ] at k1
        have k2 := HOW.out.cellAt 2 (by rw [HL.out]; simp)
        rw [HL.out] at k2
        simp only [List.getD_cons_zero, List.getD_cons_succ] at k2
        have k3 := HOW.out.cellAt 3 (by rw [HL.out]; simp)
        rw [HL.out] at k3
        simp only [List.getD_cons_zero, List.getD_cons_succ] at k3
        have k4 := HOW.out.cellAt 4 (by rw [HL.out]; simp)
        rw [HL.out] at k4
        simp only [List.getD_cons_zero, List.getD_cons_succ] at k4
        have k5 := HOW.out.cellAt 5 (by rw [HL.out]; simp)
        rw [HL.out] at k5
        simp only [List.getD_cons_zero, List.getD_cons_succ] at k5
        have k6 := HOW.out.cellAt 6 (by rw [HL.out]; simp)
        rw [HL.out] at k6
        simp only [List.getD_cons_zero, List.getD_cons_succ] at k6
        go_wp2_with fail
        refine (HTU.out _).mono ?_
        rintro e w9 ⟨rfl, rfl⟩
        go_wp2_with fail
        refine (HGR.out _ HM.out.t).mono ?_
        rintro e w2 ⟨rfl, hb2⟩
        have hM2 := HM.out.more hb2
        have HM2 := Lib.hid hM2
        clear hb2 k0 k1 k2 k3 k4 k5 k6
        go_wp2_with fail
        have ne := Wld.ne (S := (fun w' => Mbk w w1.heap.size w' (#[.int .u8 ((c0).toNat : Int), .int .u8 ((c1).toNat : Int), .int .u8 ((c2).toNat : Int), .int .u8 (((flp c3)).toNat : Int), .int .u8 ((c4).toNat : Int), .int .u8 ((c5).toNat : Int), .int .u8 ((c6).toNat : Int)]))) hM2
        have m0 : ∀ x : Wld (fun w' => Mbk w w1.heap.size w' (#[.int .u8 ((c0).toNat : Int), .int .u8 ((c1).toNat : Int), .int .u8 ((c2).toNat : Int), .int .u8 (((flp c3)).toNat : Int), .int .u8 ((c4).toNat : Int), .int .u8 ((c5).toNat : Int), .int .u8 ((c6).toNat : Int)])), x.v.cell? ⟨w1.heap.size, 0, none⟩ = some (.int .u8 ((c0).toNat : Int)) := fun x => x.h.cell 0
        have m1 : ∀ x : Wld (fun w' => Mbk w w1.heap.size w' (#[.int .u8 ((c0).toNat : Int), .int .u8 ((c1).toNat : Int), .int .u8 ((c2).toNat : Int), .int .u8 (((flp c3)).toNat : Int), .int .u8 ((c4).toNat : Int), .int .u8 ((c5).toNat : Int), .int .u8 ((c6).toNat : Int)])), x.v.cell? ⟨w1.heap.size, 1, none⟩ = some (.int .u8 ((c1).toNat : Int)) := fun x => x.h.cell 1
        have m2 : ∀ x : Wld (fun w' => Mbk w w1.heap.size w' (#[.int .u8 ((c0).toNat : Int), .int .u8 ((c1).toNat : Int), .int .u8 ((c2).toNat : Int), .int .u8 (((flp c3)).toNat : Int), .int .u8 ((c4).toNat : Int), .int .u8 ((c5).toNat : Int), .int .u8 ((c6).toNat : Int)])), x.v.cell? ⟨w1.heap.size, 2, none⟩ = some (.int .u8 ((c2).toNat : Int)) := fun x => x.h.cell 2
        have m3 : ∀ x : Wld (fun w' => Mbk w w1.heap.size w' (#[.int .u8 ((c0).toNat : Int), .int .u8 ((c1).toNat : Int), .int .u8 ((c2).toNat : Int), .int .u8 (((flp c3)).toNat : Int), .int .u8 ((c4).toNat : Int), .int .u8 ((c5).toNat : Int), .int .u8 ((c6).toNat : Int)])), x.v.cell? ⟨w1.heap.size, 3, none⟩ = some (.int .u8 (((flp c3)).toNat : Int)) := fun x => x.h.cell 3
        have m4 : ∀ x : Wld (fun w' => Mbk w w1.heap.size w' (#[.int .u8 ((c0).toNat : Int), .int .u8 ((c1).toNat : Int), .int .u8 ((c2).toNat : Int), .int .u8 (((flp c3)).toNat : Int), .int .u8 ((c4).toNat : Int), .int .u8 ((c5).toNat : Int), .int .u8 ((c6).toNat : Int)])), x.v.cell? ⟨w1.heap.size, 4, none⟩ = some (.int .u8 ((c4).toNat : Int)) := fun x => x.h.cell 4
        have m5 : ∀ x : Wld (fun w' => Mbk w w1.heap.size w' (#[.int .u8 ((c0).toNat : Int), .int .u8 ((c1).toNat : Int), .int .u8 ((c2).toNat : Int), .int .u8 (((flp c3)).toNat : Int), .int .u8 ((c4).toNat : Int), .int .u8 ((c5).toNat : Int), .int .u8 ((c6).toNat : Int)])), x.v.cell? ⟨w1.heap.size, 5, none⟩ = some (.int .u8 ((c5).toNat : Int)) := fun x => x.h.cell 5
        have m6 : ∀ x : Wld (fun w' => Mbk w w1.heap.size w' (#[.int .u8 ((c0).toNat : Int), .int .u8 ((c1).toNat : Int), .int .u8 ((c2).toNat : Int), .int .u8 (((flp c3)).toNat : Int), .int .u8 ((c4).toNat : Int), .int .u8 ((c5).toNat : Int), .int .u8 ((c6).toNat : Int)])), x.v.cell? ⟨w1.heap.size, 6, none⟩ = some (.int .u8 ((c6).toNat : Int)) := fun x => x.h.cell 6
        have hgt : ∀ x : Wld (fun w' => Mbk w w1.heap.size w' (#[.int .u8 ((c0).toNat : Int), .int .u8 ((c1).toNat : Int), .int .u8 ((c2).toNat : Int), .int .u8 (((flp c3)).toNat : Int), .int .u8 ((c4).toNat : Int), .int .u8 ((c5).toNat : Int), .int .u8 ((c6).toNat : Int)])), Tabs x.v := fun x => x.h.t
        clear hM2
        refine wp_region_heldq (fun w' => Mbk w w1.heap.size w' (#[.int .u8 ((c0).toNat : Int), .int .u8 ((c1).toNat : Int), .int .u8 ((c2).toNat : Int), .int .u8 (((flp c3)).toNat : Int), .int .u8 ((c4).toNat : Int), .int .u8 ((c5).toNat : Int), .int .u8 ((c6).toNat : Int)])) (by kernel_rfl) (by kernel_rfl) HM2.out.drew ?_
        repeat (go_big_quiet_step (with_reducible exact held_below (fun _ _ h hb => Mbk.more h hb) (HGD.out _ (hgt _))))
        refine wpQuiet_nil ?_
        rintro _ ⟨x, rfl⟩
        have HX := Lib.hid x.h
        clear ne hgt m0 m1 m2 m3 m4 m5 m6
        generalize x.v = wx at *
        go_wp2
        go_roundg 3
        case measure => have := HG.out; omega
        case rel => exact ⟨5, by omega, rfl, rfl, HS.out.miss 4 (by omega) HOK.out, HX.out.t, HX.out.b⟩
      · have HOK := Lib.hid hok
        have hcx := fun W => eq7 (gd7 (fun k => (four (tp (fun j => [c0, c1, c2, c3, c4, c5, c6].getD j 0) 4)).getD k 0)) (sevenL (tp (fun j => [c0, c1, c2, c3, c4, c5, c6].getD j 0) 4)) rfl rfl W
        rw [show decide (gd7 (fun k => (four (tp (fun j => [c0, c1, c2, c3, c4, c5, c6].getD j 0) 4)).getD k 0) = sevenL (tp (fun j => [c0, c1, c2, c3, c4, c5, c6].getD j 0) 4)) = true from hok] at hcx
        have hcm : ∀ W, (binOp .eql 65 (.agg (u8s (gd7 (fun k => (four (tp (fun j => [c0, c1, c2, c3, c4, c5, c6].getD j 0) 4)).getD k 0)))) (.agg #[.int .u8 ((c0).toNat : Int), .int .u8 ((c1).toNat : Int), .int .u8 ((c2).toNat : Int), .int .u8 (((flp c3)).toNat : Int), .int .u8 ((c4).toNat : Int), .int .u8 ((c5).toNat : Int), .int .u8 ((c6).toNat : Int)])).run Tryz.prog W = .ok (.bool true) W := hcx
        clear hcx
        have HGR := Lib.hid (show ∀ W, Tabs W → Calls Tryz.prog 64 #[.agg #[.int .u8 ((c0).toNat : Int), .int .u8 ((c1).toNat : Int), .int .u8 ((c2).toNat : Int), .int .u8 (((flp c3)).toNat : Int), .int .u8 ((c4).toNat : Int), .int .u8 ((c5).toNat : Int), .int .u8 ((c6).toNat : Int)]] W fun e w' => e = .returned (.string ⟨(four (tp (fun j => [c0, c1, c2, c3, c4, c5, c6].getD j 0) 4)).toArray⟩) ∧ Below W.heap.size W w' from fun W hT => igr_any W hT (tp (fun j => [c0, c1, c2, c3, c4, c5, c6].getD j 0) 4))
        have HGD := Lib.hid (show ∀ W, Tabs W → Calls Tryz.prog 65 #[.string ⟨(four (tp (fun j => [c0, c1, c2, c3, c4, c5, c6].getD j 0) 4)).toArray⟩] W fun e w' => e = .returned (.agg (u8s (gd7 (fun k => (four (tp (fun j => [c0, c1, c2, c3, c4, c5, c6].getD j 0) 4)).getD k 0)))) ∧ Below W.heap.size W w' from fun W hT => igd_any W hT _ (fun k => (four (tp (fun j => [c0, c1, c2, c3, c4, c5, c6].getD j 0) 4)).getD k 0) rfl (fun k hk => four_at _ k hk) (four_bits 4 HB7.out))
        have HTU := Lib.hid (fun W => turG_any c3 W (HB7.out 3 (by omega)))
        generalize hfs : (⟨(four (tp (fun j => [c0, c1, c2, c3, c4, c5, c6].getD j 0) 4)).toArray⟩ : ByteArray) = fs at *
        have HFS := Lib.hid hfs
        clear hfs
        generalize gd7 (fun k => (four (tp (fun j => [c0, c1, c2, c3, c4, c5, c6].getD j 0) 4)).getD k 0) = gg at *
        have hsp := arrAt wr.heap.size cc
        have ht1 := HT.out.below hb1 HT.out.sz
        have hbw := HBB.out.trans (hb1.mono HBB.out.size)
        have HT1 := Lib.hid ht1
        have HBW := Lib.hid hbw
        have HM := Lib.hid (Mbk.new (w := w) (w1 := w1) (#[.int .u8 ((c0).toNat : Int), .int .u8 ((c1).toNat : Int), .int .u8 ((c2).toNat : Int), .int .u8 (((flp c3)).toNat : Int), .int .u8 ((c4).toNat : Int), .int .u8 ((c5).toNat : Int), .int .u8 ((c6).toNat : Int)]) HZ.out ht1 hbw (Nat.lt_of_le_of_lt HBB.out.size hz1))
        clear ht1 hbw hb1 hok
        have k0 := HOW.out.cellAt 0 (by rw [HL.out]; simp)
        rw [HL.out] at k0
        simp only [List.getD_cons_zero] at k0
        have k1 := HOW.out.cellAt 1 (by rw [HL.out]; simp)
        rw [HL.out] at k1
        simp only [List.getD_cons_zero, List.getD_cons_succ] at k1
        have k2 := HOW.out.cellAt 2 (by rw [HL.out]; simp)
        rw [HL.out] at k2
        simp only [List.getD_cons_zero, List.getD_cons_succ] at k2
        have k3 := HOW.out.cellAt 3 (by rw [HL.out]; simp)
        rw [HL.out] at k3
        simp only [List.getD_cons_zero, List.getD_cons_succ] at k3
        have k4 := HOW.out.cellAt 4 (by rw [HL.out]; simp)
        rw [HL.out] at k4
        simp only [List.getD_cons_zero, List.getD_cons_succ] at k4
        have k5 := HOW.out.cellAt 5 (by rw [HL.out]; simp)
        rw [HL.out] at k5
        simp only [List.getD_cons_zero, List.getD_cons_succ] at k5
        have k6 := HOW.out.cellAt 6 (by rw [HL.out]; simp)
        rw [HL.out] at k6
        simp only [List.getD_cons_zero, List.getD_cons_succ] at k6
        go_wp2_with fail
        refine (HTU.out _).mono ?_
        rintro e w9 ⟨rfl, rfl⟩
        go_wp2_with fail
        refine (HGR.out _ HM.out.t).mono ?_
        rintro e w2 ⟨rfl, hb2⟩
        have hM2 := HM.out.more hb2
        have HM2 := Lib.hid hM2
        clear hb2 k0 k1 k2 k3 k4 k5 k6
        go_wp2_with fail
        have ne := Wld.ne (S := (fun w' => Mbk w w1.heap.size w' (#[.int .u8 ((c0).toNat : Int), .int .u8 ((c1).toNat : Int), .int .u8 ((c2).toNat : Int), .int .u8 (((flp c3)).toNat : Int), .int .u8 ((c4).toNat : Int), .int .u8 ((c5).toNat : Int), .int .u8 ((c6).toNat : Int)]))) hM2
        have m0 : ∀ x : Wld (fun w' => Mbk w w1.heap.size w' (#[.int .u8 ((c0).toNat : Int), .int .u8 ((c1).toNat : Int), .int .u8 ((c2).toNat : Int), .int .u8 (((flp c3)).toNat : Int), .int .u8 ((c4).toNat : Int), .int .u8 ((c5).toNat : Int), .int .u8 ((c6).toNat : Int)])), x.v.cell? ⟨w1.heap.size, 0, none⟩ = some (.int .u8 ((c0).toNat : Int)) := fun x => x.h.cell 0
        have m1 : ∀ x : Wld (fun w' => Mbk w w1.heap.size w' (#[.int .u8 ((c0).toNat : Int), .int .u8 ((c1).toNat : Int), .int .u8 ((c2).toNat : Int), .int .u8 (((flp c3)).toNat : Int), .int .u8 ((c4).toNat : Int), .int .u8 ((c5).toNat : Int), .int .u8 ((c6).toNat : Int)])), x.v.cell? ⟨w1.heap.size, 1, none⟩ = some (.int .u8 ((c1).toNat : Int)) := fun x => x.h.cell 1
        have m2 : ∀ x : Wld (fun w' => Mbk w w1.heap.size w' (#[.int .u8 ((c0).toNat : Int), .int .u8 ((c1).toNat : Int), .int .u8 ((c2).toNat : Int), .int .u8 (((flp c3)).toNat : Int), .int .u8 ((c4).toNat : Int), .int .u8 ((c5).toNat : Int), .int .u8 ((c6).toNat : Int)])), x.v.cell? ⟨w1.heap.size, 2, none⟩ = some (.int .u8 ((c2).toNat : Int)) := fun x => x.h.cell 2
        have m3 : ∀ x : Wld (fun w' => Mbk w w1.heap.size w' (#[.int .u8 ((c0).toNat : Int), .int .u8 ((c1).toNat : Int), .int .u8 ((c2).toNat : Int), .int .u8 (((flp c3)).toNat : Int), .int .u8 ((c4).toNat : Int), .int .u8 ((c5).toNat : Int), .int .u8 ((c6).toNat : Int)])), x.v.cell? ⟨w1.heap.size, 3, none⟩ = some (.int .u8 (((flp c3)).toNat : Int)) := fun x => x.h.cell 3
        have m4 : ∀ x : Wld (fun w' => Mbk w w1.heap.size w' (#[.int .u8 ((c0).toNat : Int), .int .u8 ((c1).toNat : Int), .int .u8 ((c2).toNat : Int), .int .u8 (((flp c3)).toNat : Int), .int .u8 ((c4).toNat : Int), .int .u8 ((c5).toNat : Int), .int .u8 ((c6).toNat : Int)])), x.v.cell? ⟨w1.heap.size, 4, none⟩ = some (.int .u8 ((c4).toNat : Int)) := fun x => x.h.cell 4
        have m5 : ∀ x : Wld (fun w' => Mbk w w1.heap.size w' (#[.int .u8 ((c0).toNat : Int), .int .u8 ((c1).toNat : Int), .int .u8 ((c2).toNat : Int), .int .u8 (((flp c3)).toNat : Int), .int .u8 ((c4).toNat : Int), .int .u8 ((c5).toNat : Int), .int .u8 ((c6).toNat : Int)])), x.v.cell? ⟨w1.heap.size, 5, none⟩ = some (.int .u8 ((c5).toNat : Int)) := fun x => x.h.cell 5
        have m6 : ∀ x : Wld (fun w' => Mbk w w1.heap.size w' (#[.int .u8 ((c0).toNat : Int), .int .u8 ((c1).toNat : Int), .int .u8 ((c2).toNat : Int), .int .u8 (((flp c3)).toNat : Int), .int .u8 ((c4).toNat : Int), .int .u8 ((c5).toNat : Int), .int .u8 ((c6).toNat : Int)])), x.v.cell? ⟨w1.heap.size, 6, none⟩ = some (.int .u8 ((c6).toNat : Int)) := fun x => x.h.cell 6
        have hgt : ∀ x : Wld (fun w' => Mbk w w1.heap.size w' (#[.int .u8 ((c0).toNat : Int), .int .u8 ((c1).toNat : Int), .int .u8 ((c2).toNat : Int), .int .u8 (((flp c3)).toNat : Int), .int .u8 ((c4).toNat : Int), .int .u8 ((c5).toNat : Int), .int .u8 ((c6).toNat : Int)])), Tabs x.v := fun x => x.h.t
        clear hM2
        refine wp_region_heldq (fun w' => Mbk w w1.heap.size w' (#[.int .u8 ((c0).toNat : Int), .int .u8 ((c1).toNat : Int), .int .u8 ((c2).toNat : Int), .int .u8 (((flp c3)).toNat : Int), .int .u8 ((c4).toNat : Int), .int .u8 ((c5).toNat : Int), .int .u8 ((c6).toNat : Int)])) (by kernel_rfl) (by kernel_rfl) HM2.out.drew ?_
        repeat (go_big_quiet_step (with_reducible exact held_below (fun _ _ h hb => Mbk.more h hb) (HGD.out _ (hgt _))))
        refine wpQuiet_nil ?_
        rintro _ ⟨x, rfl⟩
        have HX := Lib.hid x.h
        clear ne hgt m0 m1 m2 m3 m4 m5 m6
        generalize x.v = wx at *
        go_wp2
        go_ret2
        exact ⟨by rw [← HRES.out, HS.out.hit 4 (by omega) HOK.out, HFS.out]; rfl, HX.out.b⟩
    · cases hok : okP (fun j => [c0, c1, c2, c3, c4, c5, c6].getD j 0) 5
      · have HOK := Lib.hid hok
        have hcx := fun W => eq7 (gd7 (fun k => (four (tp (fun j => [c0, c1, c2, c3, c4, c5, c6].getD j 0) 5)).getD k 0)) (sevenL (tp (fun j => [c0, c1, c2, c3, c4, c5, c6].getD j 0) 5)) rfl rfl W
        rw [show decide (gd7 (fun k => (four (tp (fun j => [c0, c1, c2, c3, c4, c5, c6].getD j 0) 5)).getD k 0) = sevenL (tp (fun j => [c0, c1, c2, c3, c4, c5, c6].getD j 0) 5)) = false from hok] at hcx
        have hcm : ∀ W, (binOp .eql 65 (.agg (u8s (gd7 (fun k => (four (tp (fun j => [c0, c1, c2, c3, c4, c5, c6].getD j 0) 5)).getD k 0)))) (.agg #[.int .u8 ((c0).toNat : Int), .int .u8 ((c1).toNat : Int), .int .u8 ((c2).toNat : Int), .int .u8 ((c3).toNat : Int), .int .u8 (((flp c4)).toNat : Int), .int .u8 ((c5).toNat : Int), .int .u8 ((c6).toNat : Int)])).run Tryz.prog W = .ok (.bool false) W := hcx
        clear hcx
        have HGR := Lib.hid (show ∀ W, Tabs W → Calls Tryz.prog 64 #[.agg #[.int .u8 ((c0).toNat : Int), .int .u8 ((c1).toNat : Int), .int .u8 ((c2).toNat : Int), .int .u8 ((c3).toNat : Int), .int .u8 (((flp c4)).toNat : Int), .int .u8 ((c5).toNat : Int), .int .u8 ((c6).toNat : Int)]] W fun e w' => e = .returned (.string ⟨(four (tp (fun j => [c0, c1, c2, c3, c4, c5, c6].getD j 0) 5)).toArray⟩) ∧ Below W.heap.size W w' from fun W hT => igr_any W hT (tp (fun j => [c0, c1, c2, c3, c4, c5, c6].getD j 0) 5))
        have HGD := Lib.hid (show ∀ W, Tabs W → Calls Tryz.prog 65 #[.string ⟨(four (tp (fun j => [c0, c1, c2, c3, c4, c5, c6].getD j 0) 5)).toArray⟩] W fun e w' => e = .returned (.agg (u8s (gd7 (fun k => (four (tp (fun j => [c0, c1, c2, c3, c4, c5, c6].getD j 0) 5)).getD k 0)))) ∧ Below W.heap.size W w' from fun W hT => igd_any W hT _ (fun k => (four (tp (fun j => [c0, c1, c2, c3, c4, c5, c6].getD j 0) 5)).getD k 0) rfl (fun k hk => four_at _ k hk) (four_bits 5 HB7.out))
        have HTU := Lib.hid (fun W => turG_any c4 W (HB7.out 4 (by omega)))
        generalize hfs : (⟨(four (tp (fun j => [c0, c1, c2, c3, c4, c5, c6].getD j 0) 5)).toArray⟩ : ByteArray) = fs at *
        have HFS := Lib.hid hfs
        clear hfs
        generalize gd7 (fun k => (four (tp (fun j => [c0, c1, c2, c3, c4, c5, c6].getD j 0) 5)).getD k 0) = gg at *
        have hsp := arrAt wr.heap.size cc
        have ht1 := HT.out.below hb1 HT.out.sz
        have hbw := HBB.out.trans (hb1.mono HBB.out.size)
        have HT1 := Lib.hid ht1
        have HBW := Lib.hid hbw
        have HM := Lib.hid (Mbk.new (w := w) (w1 := w1) (#[.int .u8 ((c0).toNat : Int), .int .u8 ((c1).toNat : Int), .int .u8 ((c2).toNat : Int), .int .u8 ((c3).toNat : Int), .int .u8 (((flp c4)).toNat : Int), .int .u8 ((c5).toNat : Int), .int .u8 ((c6).toNat : Int)]) HZ.out ht1 hbw (Nat.lt_of_le_of_lt HBB.out.size hz1))
        clear ht1 hbw hb1 hok
        have k0 := HOW.out.cellAt 0 (by rw [HL.out]; simp)
        rw [HL.out] at k0
        simp only [List.getD_cons_zero] at k0
        have k1 := HOW.out.cellAt 1 (by rw [HL.out]; simp)
        rw [HL.out] at k1
        simp only [List.getD_cons_zero, List.getD_cons_succ] at k1
        have k2 := HOW.out.cellAt 2 (by rw [HL.out]; simp)
        rw [HL.out] at k2
        simp only [List.getD_cons_zero, List.getD_cons_succ] at k2
        have k3 := HOW.out.cellAt 3 (by rw [HL.out]; simp)
        rw [HL.out] at k3
        simp only [List.getD_cons_zero, List.getD_cons_succ] at k3
        have k4 := HOW.out.cellAt 4 (by rw [HL.out]; simp)
        rw [HL.out] at k4
        simp only [List.getD_cons_zero, List.getD_cons_succ] at k4
        have k5 := HOW.out.cellAt 5 (by rw [HL.out]; simp)
        rw [HL.out] at k5
        simp only [List.getD_cons_zero, List.getD_cons_succ] at k5
        have k6 := HOW.out.cellAt 6 (by rw [HL.out]; simp)
        rw [HL.out] at k6
        simp only [List.getD_cons_zero, List.getD_cons_succ] at k6
        go_wp2_with fail
        refine (HTU.out _).mono ?_
        rintro e w9 ⟨rfl, rfl⟩
        go_wp2_with fail
        refine (HGR.out _ HM.out.t).mono ?_
        rintro e w2 ⟨rfl, hb2⟩
        have hM2 := HM.out.more hb2
        have HM2 := Lib.hid hM2
        clear hb2 k0 k1 k2 k3 k4 k5 k6
        go_wp2_with fail
        have ne := Wld.ne (S := (fun w' => Mbk w w1.heap.size w' (#[.int .u8 ((c0).toNat : Int), .int .u8 ((c1).toNat : Int), .int .u8 ((c2).toNat : Int), .int .u8 ((c3).toNat : Int), .int .u8 (((flp c4)).toNat : Int), .int .u8 ((c5).toNat : Int), .int .u8 ((c6).toNat : Int)]))) hM2
        have m0 : ∀ x : Wld (fun w' => Mbk w w1.heap.size w' (#[.int .u8 ((c0).toNat : Int), .int .u8 ((c1).toNat : Int), .int .u8 ((c2).toNat : Int), .int .u8 ((c3).toNat : Int), .int .u8 (((flp c4)).toNat : Int), .int .u8 ((c5).toNat : Int), .int .u8 ((c6).toNat : Int)])), x.v.cell? ⟨w1.heap.size, 0, none⟩ = some (.int .u8 ((c0).toNat : Int)) := fun x => x.h.cell 0
        have m1 : ∀ x : Wld (fun w' => Mbk w w1.heap.size w' (#[.int .u8 ((c0).toNat : Int), .int .u8 ((c1).toNat : Int), .int .u8 ((c2).toNat : Int), .int .u8 ((c3).toNat : Int), .int .u8 (((flp c4)).toNat : Int), .int .u8 ((c5).toNat : Int), .int .u8 ((c6).toNat : Int)])), x.v.cell? ⟨w1.heap.size, 1, none⟩ = some (.int .u8 ((c1).toNat : Int)) := fun x => x.h.cell 1
        have m2 : ∀ x : Wld (fun w' => Mbk w w1.heap.size w' (#[.int .u8 ((c0).toNat : Int), .int .u8 ((c1).toNat : Int), .int .u8 ((c2).toNat : Int), .int .u8 ((c3).toNat : Int), .int .u8 (((flp c4)).toNat : Int), .int .u8 ((c5).toNat : Int), .int .u8 ((c6).toNat : Int)])), x.v.cell? ⟨w1.heap.size, 2, none⟩ = some (.int .u8 ((c2).toNat : Int)) := fun x => x.h.cell 2
        have m3 : ∀ x : Wld (fun w' => Mbk w w1.heap.size w' (#[.int .u8 ((c0).toNat : Int), .int .u8 ((c1).toNat : Int), .int .u8 ((c2).toNat : Int), .int .u8 ((c3).toNat : Int), .int .u8 (((flp c4)).toNat : Int), .int .u8 ((c5).toNat : Int), .int .u8 ((c6).toNat : Int)])), x.v.cell? ⟨w1.heap.size, 3, none⟩ = some (.int .u8 ((c3).toNat : Int)) := fun x => x.h.cell 3
        have m4 : ∀ x : Wld (fun w' => Mbk w w1.heap.size w' (#[.int .u8 ((c0).toNat : Int), .int .u8 ((c1).toNat : Int), .int .u8 ((c2).toNat : Int), .int .u8 ((c3).toNat : Int), .int .u8 (((flp c4)).toNat : Int), .int .u8 ((c5).toNat : Int), .int .u8 ((c6).toNat : Int)])), x.v.cell? ⟨w1.heap.size, 4, none⟩ = some (.int .u8 (((flp c4)).toNat : Int)) := fun x => x.h.cell 4
        have m5 : ∀ x : Wld (fun w' => Mbk w w1.heap.size w' (#[.int .u8 ((c0).toNat : Int), .int .u8 ((c1).toNat : Int), .int .u8 ((c2).toNat : Int), .int .u8 ((c3).toNat : Int), .int .u8 (((flp c4)).toNat : Int), .int .u8 ((c5).toNat : Int), .int .u8 ((c6).toNat : Int)])), x.v.cell? ⟨w1.heap.size, 5, none⟩ = some (.int .u8 ((c5).toNat : Int)) := fun x => x.h.cell 5
        have m6 : ∀ x : Wld (fun w' => Mbk w w1.heap.size w' (#[.int .u8 ((c0).toNat : Int), .int .u8 ((c1).toNat : Int), .int .u8 ((c2).toNat : Int), .int .u8 ((c3).toNat : Int), .int .u8 (((flp c4)).toNat : Int), .int .u8 ((c5).toNat : Int), .int .u8 ((c6).toNat : Int)])), x.v.cell? ⟨w1.heap.size, 6, none⟩ = some (.int .u8 ((c6).toNat : Int)) := fun x => x.h.cell 6
        have hgt : ∀ x : Wld (fun w' => Mbk w w1.heap.size w' (#[.int .u8 ((c0).toNat : Int), .int .u8 ((c1).toNat : Int), .int .u8 ((c2).toNat : Int), .int .u8 ((c3).toNat : Int), .int .u8 (((flp c4)).toNat : Int), .int .u8 ((c5).toNat : Int), .int .u8 ((c6).toNat : Int)])), Tabs x.v := fun x => x.h.t
        clear hM2
        refine wp_region_heldq (fun w' => Mbk w w1.heap.size w' (#[.int .u8 ((c0).toNat : Int), .int .u8 ((c1).toNat : Int), .int .u8 ((c2).toNat : Int), .int .u8 ((c3).toNat : Int), .int .u8 (((flp c4)).toNat : Int), .int .u8 ((c5).toNat : Int), .int .u8 ((c6).toNat : Int)])) (by kernel_rfl) (by kernel_rfl) HM2.out.drew ?_
        repeat (go_big_quiet_step (with_reducible exact held_below (fun _ _ h hb => Mbk.more h hb) (HGD.out _ (hgt _))))
        refine wpQuiet_nil ?_
        rintro _ ⟨x, rfl⟩
        have HX := Lib.hid x.h
        clear ne hgt m0 m1 m2 m3 m4 m5 m6
        generalize x.v = wx at *
        go_wp2
        go_roundg 2
        case measure => have := HG.out; omega
        case rel => exact ⟨6, by omega, rfl, rfl, HS.out.miss 5 (by omega) HOK.out, HX.out.t, HX.out.b⟩
      · have HOK := Lib.hid hok
        have hcx := fun W => eq7 (gd7 (fun k => (four (tp (fun j => [c0, c1, c2, c3, c4, c5, c6].getD j 0) 5)).getD k 0)) (sevenL (tp (fun j => [c0, c1, c2, c3, c4, c5, c6].getD j 0) 5)) rfl rfl W
        rw [show decide (gd7 (fun k => (four (tp (fun j => [c0, c1, c2, c3, c4, c5, c6].getD j 0) 5)).getD k 0) = sevenL (tp (fun j => [c0, c1, c2, c3, c4, c5, c6].getD j 0) 5)) = true from hok] at hcx
        have hcm : ∀ W, (binOp .eql 65 (.agg (u8s (gd7 (fun k => (four (tp (fun j => [c0, c1, c2, c3, c4, c5, c6].getD j 0) 5)).getD k 0)))) (.agg #[.int .u8 ((c0).toNat : Int), .int .u8 ((c1).toNat : Int), .int .u8 ((c2).toNat : Int), .int .u8 ((c3).toNat : Int), .int .u8 (((flp c4)).toNat : Int), .int .u8 ((c5).toNat : Int), .int .u8 ((c6).toNat : Int)])).run Tryz.prog W = .ok (.bool true) W := hcx
        clear hcx
        have HGR := Lib.hid (show ∀ W, Tabs W → Calls Tryz.prog 64 #[.agg #[.int .u8 ((c0).toNat : Int), .int .u8 ((c1).toNat : Int), .int .u8 ((c2).toNat : Int), .int .u8 ((c3).toNat : Int), .int .u8 (((flp c4)).toNat : Int), .int .u8 ((c5).toNat : Int), .int .u8 ((c6).toNat : Int)]] W fun e w' => e = .returned (.string ⟨(four (tp (fun j => [c0, c1, c2, c3, c4, c5, c6].getD j 0) 5)).toArray⟩) ∧ Below W.heap.size W w' from fun W hT => igr_any W hT (tp (fun j => [c0, c1, c2, c3, c4, c5, c6].getD j 0) 5))
        have HGD := Lib.hid (show ∀ W, Tabs W → Calls Tryz.prog 65 #[.string ⟨(four (tp (fun j => [c0, c1, c2, c3, c4, c5, c6].getD j 0) 5)).toArray⟩] W fun e w' => e = .returned (.agg (u8s (gd7 (fun k => (four (tp (fun j => [c0, c1, c2, c3, c4, c5, c6].getD j 0) 5)).getD k 0)))) ∧ Below W.heap.size W w' from fun W hT => igd_any W hT _ (fun k => (four (tp (fun j => [c0, c1, c2, c3, c4, c5, c6].getD j 0) 5)).getD k 0) rfl (fun k hk => four_at _ k hk) (four_bits 5 HB7.out))
        have HTU := Lib.hid (fun W => turG_any c4 W (HB7.out 4 (by omega)))
        generalize hfs : (⟨(four (tp (fun j => [c0, c1, c2, c3, c4, c5, c6].getD j 0) 5)).toArray⟩ : ByteArray) = fs at *
        have HFS := Lib.hid hfs
        clear hfs
        generalize gd7 (fun k => (four (tp (fun j => [c0, c1, c2, c3, c4, c5, c6].getD j 0) 5)).getD k 0) = gg at *
        have hsp := arrAt wr.heap.size cc
        have ht1 := HT.out.below hb1 HT.out.sz
        have hbw := HBB.out.trans (hb1.mono HBB.out.size)
        have HT1 := Lib.hid ht1
        have HBW := Lib.hid hbw
        have HM := Lib.hid (Mbk.new (w := w) (w1 := w1) (#[.int .u8 ((c0).toNat : Int), .int .u8 ((c1).toNat : Int), .int .u8 ((c2).toNat : Int), .int .u8 ((c3).toNat : Int), .int .u8 (((flp c4)).toNat : Int), .int .u8 ((c5).toNat : Int), .int .u8 ((c6).toNat : Int)]) HZ.out ht1 hbw (Nat.lt_of_le_of_lt HBB.out.size hz1))
        clear ht1 hbw hb1 hok
        have k0 := HOW.out.cellAt 0 (by rw [HL.out]; simp)
        rw [HL.out] at k0
        simp only [List.getD_cons_zero] at k0
        have k1 := HOW.out.cellAt 1 (by rw [HL.out]; simp)
        rw [HL.out] at k1
        simp only [List.getD_cons_zero, List.getD_cons_succ] at k1
        have k2 := HOW.out.cellAt 2 (by rw [HL.out]; simp)
        rw [HL.out] at k2
        simp only [List.getD_cons_zero, List.getD_cons_succ] at k2
        have k3 := HOW.out.cellAt 3 (by rw [HL.out]; simp)
        rw [HL.out] at k3
        simp only [List.getD_cons_zero, List.getD_cons_succ] at k3
        have k4 := HOW.out.cellAt 4 (by rw [HL.out]; simp)
        rw [HL.out] at k4
        simp only [List.getD_cons_zero, List.getD_cons_succ] at k4
        have k5 := HOW.out.cellAt 5 (by rw [HL.out]; simp)
        rw [HL.out] at k5
        simp only [List.getD_cons_zero, List.getD_cons_succ] at k5
        have k6 := HOW.out.cellAt 6 (by rw [HL.out]; simp)
        rw [HL.out] at k6
        simp only [List.getD_cons_zero, List.getD_cons_succ] at k6
        go_wp2_with fail
        refine (HTU.out _).mono ?_
        rintro e w9 ⟨rfl, rfl⟩
        go_wp2_with fail
        refine (HGR.out _ HM.out.t).mono ?_
        rintro e w2 ⟨rfl, hb2⟩
        have hM2 := HM.out.more hb2
        have HM2 := Lib.hid hM2
        clear hb2 k0 k1 k2 k3 k4 k5 k6
        go_wp2_with fail
        have ne := Wld.ne (S := (fun w' => Mbk w w1.heap.size w' (#[.int .u8 ((c0).toNat : Int), .int .u8 ((c1).toNat : Int), .int .u8 ((c2).toNat : Int), .int .u8 ((c3).toNat : Int), .int .u8 (((flp c4)).toNat : Int), .int .u8 ((c5).toNat : Int), .int .u8 ((c6).toNat : Int)]))) hM2
        have m0 : ∀ x : Wld (fun w' => Mbk w w1.heap.size w' (#[.int .u8 ((c0).toNat : Int), .int .u8 ((c1).toNat : Int), .int .u8 ((c2).toNat : Int), .int .u8 ((c3).toNat : Int), .int .u8 (((flp c4)).toNat : Int), .int .u8 ((c5).toNat : Int), .int .u8 ((c6).toNat : Int)])), x.v.cell? ⟨w1.heap.size, 0, none⟩ = some (.int .u8 ((c0).toNat : Int)) := fun x => x.h.cell 0
        have m1 : ∀ x : Wld (fun w' => Mbk w w1.heap.size w' (#[.int .u8 ((c0).toNat : Int), .int .u8 ((c1).toNat : Int), .int .u8 ((c2).toNat : Int), .int .u8 ((c3).toNat : Int), .int .u8 (((flp c4)).toNat : Int), .int .u8 ((c5).toNat : Int), .int .u8 ((c6).toNat : Int)])), x.v.cell? ⟨w1.heap.size, 1, none⟩ = some (.int .u8 ((c1).toNat : Int)) := fun x => x.h.cell 1
        have m2 : ∀ x : Wld (fun w' => Mbk w w1.heap.size w' (#[.int .u8 ((c0).toNat : Int), .int .u8 ((c1).toNat : Int), .int .u8 ((c2).toNat : Int), .int .u8 ((c3).toNat : Int), .int .u8 (((flp c4)).toNat : Int), .int .u8 ((c5).toNat : Int), .int .u8 ((c6).toNat : Int)])), x.v.cell? ⟨w1.heap.size, 2, none⟩ = some (.int .u8 ((c2).toNat : Int)) := fun x => x.h.cell 2
        have m3 : ∀ x : Wld (fun w' => Mbk w w1.heap.size w' (#[.int .u8 ((c0).toNat : Int), .int .u8 ((c1).toNat : Int), .int .u8 ((c2).toNat : Int), .int .u8 ((c3).toNat : Int), .int .u8 (((flp c4)).toNat : Int), .int .u8 ((c5).toNat : Int), .int .u8 ((c6).toNat : Int)])), x.v.cell? ⟨w1.heap.size, 3, none⟩ = some (.int .u8 ((c3).toNat : Int)) := fun x => x.h.cell 3
        have m4 : ∀ x : Wld (fun w' => Mbk w w1.heap.size w' (#[.int .u8 ((c0).toNat : Int), .int .u8 ((c1).toNat : Int), .int .u8 ((c2).toNat : Int), .int .u8 ((c3).toNat : Int), .int .u8 (((flp c4)).toNat : Int), .int .u8 ((c5).toNat : Int), .int .u8 ((c6).toNat : Int)])), x.v.cell? ⟨w1.heap.size, 4, none⟩ = some (.int .u8 (((flp c4)).toNat : Int)) := fun x => x.h.cell 4
        have m5 : ∀ x : Wld (fun w' => Mbk w w1.heap.size w' (#[.int .u8 ((c0).toNat : Int), .int .u8 ((c1).toNat : Int), .int .u8 ((c2).toNat : Int), .int .u8 ((c3).toNat : Int), .int .u8 (((flp c4)).toNat : Int), .int .u8 ((c5).toNat : Int), .int .u8 ((c6).toNat : Int)])), x.v.cell? ⟨w1.heap.size, 5, none⟩ = some (.int .u8 ((c5).toNat : Int)) := fun x => x.h.cell 5
        have m6 : ∀ x : Wld (fun w' => Mbk w w1.heap.size w' (#[.int .u8 ((c0).toNat : Int), .int .u8 ((c1).toNat : Int), .int .u8 ((c2).toNat : Int), .int .u8 ((c3).toNat : Int), .int .u8 (((flp c4)).toNat : Int), .int .u8 ((c5).toNat : Int), .int .u8 ((c6).toNat : Int)])), x.v.cell? ⟨w1.heap.size, 6, none⟩ = some (.int .u8 ((c6).toNat : Int)) := fun x => x.h.cell 6
        have hgt : ∀ x : Wld (fun w' => Mbk w w1.heap.size w' (#[.int .u8 ((c0).toNat : Int), .int .u8 ((c1).toNat : Int), .int .u8 ((c2).toNat : Int), .int .u8 ((c3).toNat : Int), .int .u8 (((flp c4)).toNat : Int), .int .u8 ((c5).toNat : Int), .int .u8 ((c6).toNat : Int)])), Tabs x.v := fun x => x.h.t
        clear hM2
        refine wp_region_heldq (fun w' => Mbk w w1.heap.size w' (#[.int .u8 ((c0).toNat : Int), .int .u8 ((c1).toNat : Int), .int .u8 ((c2).toNat : Int), .int .u8 ((c3).toNat : Int), .int .u8 (((flp c4)).toNat : Int), .int .u8 ((c5).toNat : Int), .int .u8 ((c6).toNat : Int)])) (by kernel_rfl) (by kernel_rfl) HM2.out.drew ?_
        repeat (go_big_quiet_step (with_reducible exact held_below (fun _ _ h hb => Mbk.more h hb) (HGD.out _ (hgt _))))
        refine wpQuiet_nil ?_
        rintro _ ⟨x, rfl⟩
        have HX := Lib.hid x.h
        clear ne hgt m0 m1 m2 m3 m4 m5 m6
        generalize x.v = wx at *
        go_wp2
        go_ret2
        exact ⟨by rw [← HRES.out, HS.out.hit 5 (by omega) HOK.out, HFS.out]; rfl, HX.out.b⟩
    · cases hok : okP (fun j => [c0, c1, c2, c3, c4, c5, c6].getD j 0) 6
      · have HOK := Lib.hid hok
        have hcx := fun W => eq7 (gd7 (fun k => (four (tp (fun j => [c0, c1, c2, c3, c4, c5, c6].getD j 0) 6)).getD k 0)) (sevenL (tp (fun j => [c0, c1, c2, c3, c4, c5, c6].getD j 0) 6)) rfl rfl W
        rw [show decide (gd7 (fun k => (four (tp (fun j => [c0, c1, c2, c3, c4, c5, c6].getD j 0) 6)).getD k 0) = sevenL (tp (fun j => [c0, c1, c2, c3, c4, c5, c6].getD j 0) 6)) = false from hok] at hcx
        have hcm : ∀ W, (binOp .eql 65 (.agg (u8s (gd7 (fun k => (four (tp (fun j => [c0, c1, c2, c3, c4, c5, c6].getD j 0) 6)).getD k 0)))) (.agg #[.int .u8 ((c0).toNat : Int), .int .u8 ((c1).toNat : Int), .int .u8 ((c2).toNat : Int), .int .u8 ((c3).toNat : Int), .int .u8 ((c4).toNat : Int), .int .u8 (((flp c5)).toNat : Int), .int .u8 ((c6).toNat : Int)])).run Tryz.prog W = .ok (.bool false) W := hcx
        clear hcx
        have HGR := Lib.hid (show ∀ W, Tabs W → Calls Tryz.prog 64 #[.agg #[.int .u8 ((c0).toNat : Int), .int .u8 ((c1).toNat : Int), .int .u8 ((c2).toNat : Int), .int .u8 ((c3).toNat : Int), .int .u8 ((c4).toNat : Int), .int .u8 (((flp c5)).toNat : Int), .int .u8 ((c6).toNat : Int)]] W fun e w' => e = .returned (.string ⟨(four (tp (fun j => [c0, c1, c2, c3, c4, c5, c6].getD j 0) 6)).toArray⟩) ∧ Below W.heap.size W w' from fun W hT => igr_any W hT (tp (fun j => [c0, c1, c2, c3, c4, c5, c6].getD j 0) 6))
        have HGD := Lib.hid (show ∀ W, Tabs W → Calls Tryz.prog 65 #[.string ⟨(four (tp (fun j => [c0, c1, c2, c3, c4, c5, c6].getD j 0) 6)).toArray⟩] W fun e w' => e = .returned (.agg (u8s (gd7 (fun k => (four (tp (fun j => [c0, c1, c2, c3, c4, c5, c6].getD j 0) 6)).getD k 0)))) ∧ Below W.heap.size W w' from fun W hT => igd_any W hT _ (fun k => (four (tp (fun j => [c0, c1, c2, c3, c4, c5, c6].getD j 0) 6)).getD k 0) rfl (fun k hk => four_at _ k hk) (four_bits 6 HB7.out))
        have HTU := Lib.hid (fun W => turG_any c5 W (HB7.out 5 (by omega)))
        generalize hfs : (⟨(four (tp (fun j => [c0, c1, c2, c3, c4, c5, c6].getD j 0) 6)).toArray⟩ : ByteArray) = fs at *
        have HFS := Lib.hid hfs
        clear hfs
        generalize gd7 (fun k => (four (tp (fun j => [c0, c1, c2, c3, c4, c5, c6].getD j 0) 6)).getD k 0) = gg at *
        have hsp := arrAt wr.heap.size cc
        have ht1 := HT.out.below hb1 HT.out.sz
        have hbw := HBB.out.trans (hb1.mono HBB.out.size)
        have HT1 := Lib.hid ht1
        have HBW := Lib.hid hbw
        have HM := Lib.hid (Mbk.new (w := w) (w1 := w1) (#[.int .u8 ((c0).toNat : Int), .int .u8 ((c1).toNat : Int), .int .u8 ((c2).toNat : Int), .int .u8 ((c3).toNat : Int), .int .u8 ((c4).toNat : Int), .int .u8 (((flp c5)).toNat : Int), .int .u8 ((c6).toNat : Int)]) HZ.out ht1 hbw (Nat.lt_of_le_of_lt HBB.out.size hz1))
        clear ht1 hbw hb1 hok
        have k0 := HOW.out.cellAt 0 (by rw [HL.out]; simp)
        rw [HL.out] at k0
        simp only [List.getD_cons_zero] at k0
        have k1 := HOW.out.cellAt 1 (by rw [HL.out]; simp)
        rw [HL.out] at k1
        simp only [List.getD_cons_zero, List.getD_cons_succ] at k1
        have k2 := HOW.out.cellAt 2 (by rw [HL.out]; simp)
        rw [HL.out] at k2
        simp only [List.getD_cons_zero, List.getD_cons_succ] at k2
        have k3 := HOW.out.cellAt 3 (by rw [HL.out]; simp)
        rw [HL.out] at k3
        simp only [List.getD_cons_zero, List.getD_cons_succ] at k3
        have k4 := HOW.out.cellAt 4 (by rw [HL.out]; simp)
        rw [HL.out] at k4
        simp only [List.getD_cons_zero, List.getD_cons_succ] at k4
        have k5 := HOW.out.cellAt 5 (by rw [HL.out]; simp)
        rw [HL.out] at k5
        simp only [List.getD_cons_zero, List.getD_cons_succ] at k5
        have k6 := HOW.out.cellAt 6 (by rw [HL.out]; simp)
        rw [HL.out] at k6
        simp only [List.getD_cons_zero, List.getD_cons_succ] at k6
        go_wp2_with fail
        refine (HTU.out _).mono ?_
        rintro e w9 ⟨rfl, rfl⟩
        go_wp2_with fail
        refine (HGR.out _ HM.out.t).mono ?_
        rintro e w2 ⟨rfl, hb2⟩
        have hM2 := HM.out.more hb2
        have HM2 := Lib.hid hM2
        clear hb2 k0 k1 k2 k3 k4 k5 k6
        go_wp2_with fail
        have ne := Wld.ne (S := (fun w' => Mbk w w1.heap.size w' (#[.int .u8 ((c0).toNat : Int), .int .u8 ((c1).toNat : Int), .int .u8 ((c2).toNat : Int), .int .u8 ((c3).toNat : Int), .int .u8 ((c4).toNat : Int), .int .u8 (((flp c5)).toNat : Int), .int .u8 ((c6).toNat : Int)]))) hM2
        have m0 : ∀ x : Wld (fun w' => Mbk w w1.heap.size w' (#[.int .u8 ((c0).toNat : Int), .int .u8 ((c1).toNat : Int), .int .u8 ((c2).toNat : Int), .int .u8 ((c3).toNat : Int), .int .u8 ((c4).toNat : Int), .int .u8 (((flp c5)).toNat : Int), .int .u8 ((c6).toNat : Int)])), x.v.cell? ⟨w1.heap.size, 0, none⟩ = some (.int .u8 ((c0).toNat : Int)) := fun x => x.h.cell 0
        have m1 : ∀ x : Wld (fun w' => Mbk w w1.heap.size w' (#[.int .u8 ((c0).toNat : Int), .int .u8 ((c1).toNat : Int), .int .u8 ((c2).toNat : Int), .int .u8 ((c3).toNat : Int), .int .u8 ((c4).toNat : Int), .int .u8 (((flp c5)).toNat : Int), .int .u8 ((c6).toNat : Int)])), x.v.cell? ⟨w1.heap.size, 1, none⟩ = some (.int .u8 ((c1).toNat : Int)) := fun x => x.h.cell 1
        have m2 : ∀ x : Wld (fun w' => Mbk w w1.heap.size w' (#[.int .u8 ((c0).toNat : Int), .int .u8 ((c1).toNat : Int), .int .u8 ((c2).toNat : Int), .int .u8 ((c3).toNat : Int), .int .u8 ((c4).toNat : Int), .int .u8 (((flp c5)).toNat : Int), .int .u8 ((c6).toNat : Int)])), x.v.cell? ⟨w1.heap.size, 2, none⟩ = some (.int .u8 ((c2).toNat : Int)) := fun x => x.h.cell 2
        have m3 : ∀ x : Wld (fun w' => Mbk w w1.heap.size w' (#[.int .u8 ((c0).toNat : Int), .int .u8 ((c1).toNat : Int), .int .u8 ((c2).toNat : Int), .int .u8 ((c3).toNat : Int), .int .u8 ((c4).toNat : Int), .int .u8 (((flp c5)).toNat : Int), .int .u8 ((c6).toNat : Int)])), x.v.cell? ⟨w1.heap.size, 3, none⟩ = some (.int .u8 ((c3).toNat : Int)) := fun x => x.h.cell 3
        have m4 : ∀ x : Wld (fun w' => Mbk w w1.heap.size w' (#[.int .u8 ((c0).toNat : Int), .int .u8 ((c1).toNat : Int), .int .u8 ((c2).toNat : Int), .int .u8 ((c3).toNat : Int), .int .u8 ((c4).toNat : Int), .int .u8 (((flp c5)).toNat : Int), .int .u8 ((c6).toNat : Int)])), x.v.cell? ⟨w1.heap.size, 4, none⟩ = some (.int .u8 ((c4).toNat : Int)) := fun x => x.h.cell 4
        have m5 : ∀ x : Wld (fun w' => Mbk w w1.heap.size w' (#[.int .u8 ((c0).toNat : Int), .int .u8 ((c1).toNat : Int), .int .u8 ((c2).toNat : Int), .int .u8 ((c3).toNat : Int), .int .u8 ((c4).toNat : Int), .int .u8 (((flp c5)).toNat : Int), .int .u8 ((c6).toNat : Int)])), x.v.cell? ⟨w1.heap.size, 5, none⟩ = some (.int .u8 (((flp c5)).toNat : Int)) := fun x => x.h.cell 5
        have m6 : ∀ x : Wld (fun w' => Mbk w w1.heap.size w' (#[.int .u8 ((c0).toNat : Int), .int .u8 ((c1).toNat : Int), .int .u8 ((c2).toNat : Int), .int .u8 ((c3).toNat : Int), .int .u8 ((c4).toNat : Int), .int .u8 (((flp c5)).toNat : Int), .int .u8 ((c6).toNat : Int)])), x.v.cell? ⟨w1.heap.size, 6, none⟩ = some (.int .u8 ((c6).toNat : Int)) := fun x => x.h.cell 6
        have hgt : ∀ x : Wld (fun w' => Mbk w w1.heap.size w' (#[.int .u8 ((c0).toNat : Int), .int .u8 ((c1).toNat : Int), .int .u8 ((c2).toNat : Int), .int .u8 ((c3).toNat : Int), .int .u8 ((c4).toNat : Int), .int .u8 (((flp c5)).toNat : Int), .int .u8 ((c6).toNat : Int)])), Tabs x.v := fun x => x.h.t
        clear hM2
        refine wp_region_heldq (fun w' => Mbk w w1.heap.size w' (#[.int .u8 ((c0).toNat : Int), .int .u8 ((c1).toNat : Int), .int .u8 ((c2).toNat : Int), .int .u8 ((c3).toNat : Int), .int .u8 ((c4).toNat : Int), .int .u8 (((flp c5)).toNat : Int), .int .u8 ((c6).toNat : Int)])) (by kernel_rfl) (by kernel_rfl) HM2.out.drew ?_
        repeat (go_big_quiet_step (with_reducible exact held_below (fun _ _ h hb => Mbk.more h hb) (HGD.out _ (hgt _))))
        refine wpQuiet_nil ?_
        rintro _ ⟨x, rfl⟩
        have HX := Lib.hid x.h
        clear ne hgt m0 m1 m2 m3 m4 m5 m6
        generalize x.v = wx at *
        go_wp2
        go_roundg 1
        case measure => have := HG.out; omega
        case rel => exact ⟨7, by omega, rfl, rfl, HS.out.miss 6 (by omega) HOK.out, HX.out.t, HX.out.b⟩
      · have HOK := Lib.hid hok
        have hcx := fun W => eq7 (gd7 (fun k => (four (tp (fun j => [c0, c1, c2, c3, c4, c5, c6].getD j 0) 6)).getD k 0)) (sevenL (tp (fun j => [c0, c1, c2, c3, c4, c5, c6].getD j 0) 6)) rfl rfl W
        rw [show decide (gd7 (fun k => (four (tp (fun j => [c0, c1, c2, c3, c4, c5, c6].getD j 0) 6)).getD k 0) = sevenL (tp (fun j => [c0, c1, c2, c3, c4, c5, c6].getD j 0) 6)) = true from hok] at hcx
        have hcm : ∀ W, (binOp .eql 65 (.agg (u8s (gd7 (fun k => (four (tp (fun j => [c0, c1, c2, c3, c4, c5, c6].getD j 0) 6)).getD k 0)))) (.agg #[.int .u8 ((c0).toNat : Int), .int .u8 ((c1).toNat : Int), .int .u8 ((c2).toNat : Int), .int .u8 ((c3).toNat : Int), .int .u8 ((c4).toNat : Int), .int .u8 (((flp c5)).toNat : Int), .int .u8 ((c6).toNat : Int)])).run Tryz.prog W = .ok (.bool true) W := hcx
        clear hcx
        have HGR := Lib.hid (show ∀ W, Tabs W → Calls Tryz.prog 64 #[.agg #[.int .u8 ((c0).toNat : Int), .int .u8 ((c1).toNat : Int), .int .u8 ((c2).toNat : Int), .int .u8 ((c3).toNat : Int), .int .u8 ((c4).toNat : Int), .int .u8 (((flp c5)).toNat : Int), .int .u8 ((c6).toNat : Int)]] W fun e w' => e = .returned (.string ⟨(four (tp (fun j => [c0, c1, c2, c3, c4, c5, c6].getD j 0) 6)).toArray⟩) ∧ Below W.heap.size W w' from fun W hT => igr_any W hT (tp (fun j => [c0, c1, c2, c3, c4, c5, c6].getD j 0) 6))
        have HGD := Lib.hid (show ∀ W, Tabs W → Calls Tryz.prog 65 #[.string ⟨(four (tp (fun j => [c0, c1, c2, c3, c4, c5, c6].getD j 0) 6)).toArray⟩] W fun e w' => e = .returned (.agg (u8s (gd7 (fun k => (four (tp (fun j => [c0, c1, c2, c3, c4, c5, c6].getD j 0) 6)).getD k 0)))) ∧ Below W.heap.size W w' from fun W hT => igd_any W hT _ (fun k => (four (tp (fun j => [c0, c1, c2, c3, c4, c5, c6].getD j 0) 6)).getD k 0) rfl (fun k hk => four_at _ k hk) (four_bits 6 HB7.out))
        have HTU := Lib.hid (fun W => turG_any c5 W (HB7.out 5 (by omega)))
        generalize hfs : (⟨(four (tp (fun j => [c0, c1, c2, c3, c4, c5, c6].getD j 0) 6)).toArray⟩ : ByteArray) = fs at *
        have HFS := Lib.hid hfs
        clear hfs
        generalize gd7 (fun k => (four (tp (fun j => [c0, c1, c2, c3, c4, c5, c6].getD j 0) 6)).getD k 0) = gg at *
        have hsp := arrAt wr.heap.size cc
        have ht1 := HT.out.below hb1 HT.out.sz
        have hbw := HBB.out.trans (hb1.mono HBB.out.size)
        have HT1 := Lib.hid ht1
        have HBW := Lib.hid hbw
        have HM := Lib.hid (Mbk.new (w := w) (w1 := w1) (#[.int .u8 ((c0).toNat : Int), .int .u8 ((c1).toNat : Int), .int .u8 ((c2).toNat : Int), .int .u8 ((c3).toNat : Int), .int .u8 ((c4).toNat : Int), .int .u8 (((flp c5)).toNat : Int), .int .u8 ((c6).toNat : Int)]) HZ.out ht1 hbw (Nat.lt_of_le_of_lt HBB.out.size hz1))
        clear ht1 hbw hb1 hok
        have k0 := HOW.out.cellAt 0 (by rw [HL.out]; simp)
        rw [HL.out] at k0
        simp only [List.getD_cons_zero] at k0
        have k1 := HOW.out.cellAt 1 (by rw [HL.out]; simp)
        rw [HL.out] at k1
        simp only [List.getD_cons_zero, List.getD_cons_succ] at k1
        have k2 := HOW.out.cellAt 2 (by rw [HL.out]; simp)
        rw [HL.out] at k2
        simp only [List.getD_cons_zero, List.getD_cons_succ] at k2
        have k3 := HOW.out.cellAt 3 (by rw [HL.out]; simp)
        rw [HL.out] at k3
        simp only [List.getD_cons_zero, List.getD_cons_succ] at k3
        have k4 := HOW.out.cellAt 4 (by rw [HL.out]; simp)
        rw [HL.out] at k4
        simp only [List.getD_cons_zero, List.getD_cons_succ] at k4
        have k5 := HOW.out.cellAt 5 (by rw [HL.out]; simp)
        rw [HL.out] at k5
        simp only [List.getD_cons_zero, List.getD_cons_succ] at k5
        have k6 := HOW.out.cellAt 6 (by rw [HL.out]; simp)
        rw [HL.out] at k6
        simp only [List.getD_cons_zero, List.getD_cons_succ] at k6
        go_wp2_with fail
        refine (HTU.out _).mono ?_
        rintro e w9 ⟨rfl, rfl⟩
        go_wp2_with fail
        refine (HGR.out _ HM.out.t).mono ?_
        rintro e w2 ⟨rfl, hb2⟩
        have hM2 := HM.out.more hb2
        have HM2 := Lib.hid hM2
        clear hb2 k0 k1 k2 k3 k4 k5 k6
        go_wp2_with fail
        have ne := Wld.ne (S := (fun w' => Mbk w w1.heap.size w' (#[.int .u8 ((c0).toNat : Int), .int .u8 ((c1).toNat : Int), .int .u8 ((c2).toNat : Int), .int .u8 ((c3).toNat : Int), .int .u8 ((c4).toNat : Int), .int .u8 (((flp c5)).toNat : Int), .int .u8 ((c6).toNat : Int)]))) hM2
        have m0 : ∀ x : Wld (fun w' => Mbk w w1.heap.size w' (#[.int .u8 ((c0).toNat : Int), .int .u8 ((c1).toNat : Int), .int .u8 ((c2).toNat : Int), .int .u8 ((c3).toNat : Int), .int .u8 ((c4).toNat : Int), .int .u8 (((flp c5)).toNat : Int), .int .u8 ((c6).toNat : Int)])), x.v.cell? ⟨w1.heap.size, 0, none⟩ = some (.int .u8 ((c0).toNat : Int)) := fun x => x.h.cell 0
        have m1 : ∀ x : Wld (fun w' => Mbk w w1.heap.size w' (#[.int .u8 ((c0).toNat : Int), .int .u8 ((c1).toNat : Int), .int .u8 ((c2).toNat : Int), .int .u8 ((c3).toNat : Int), .int .u8 ((c4).toNat : Int), .int .u8 (((flp c5)).toNat : Int), .int .u8 ((c6).toNat : Int)])), x.v.cell? ⟨w1.heap.size, 1, none⟩ = some (.int .u8 ((c1).toNat : Int)) := fun x => x.h.cell 1
        have m2 : ∀ x : Wld (fun w' => Mbk w w1.heap.size w' (#[.int .u8 ((c0).toNat : Int), .int .u8 ((c1).toNat : Int), .int .u8 ((c2).toNat : Int), .int .u8 ((c3).toNat : Int), .int .u8 ((c4).toNat : Int), .int .u8 (((flp c5)).toNat : Int), .int .u8 ((c6).toNat : Int)])), x.v.cell? ⟨w1.heap.size, 2, none⟩ = some (.int .u8 ((c2).toNat : Int)) := fun x => x.h.cell 2
        have m3 : ∀ x : Wld (fun w' => Mbk w w1.heap.size w' (#[.int .u8 ((c0).toNat : Int), .int .u8 ((c1).toNat : Int), .int .u8 ((c2).toNat : Int), .int .u8 ((c3).toNat : Int), .int .u8 ((c4).toNat : Int), .int .u8 (((flp c5)).toNat : Int), .int .u8 ((c6).toNat : Int)])), x.v.cell? ⟨w1.heap.size, 3, none⟩ = some (.int .u8 ((c3).toNat : Int)) := fun x => x.h.cell 3
        have m4 : ∀ x : Wld (fun w' => Mbk w w1.heap.size w' (#[.int .u8 ((c0).toNat : Int), .int .u8 ((c1).toNat : Int), .int .u8 ((c2).toNat : Int), .int .u8 ((c3).toNat : Int), .int .u8 ((c4).toNat : Int), .int .u8 (((flp c5)).toNat : Int), .int .u8 ((c6).toNat : Int)])), x.v.cell? ⟨w1.heap.size, 4, none⟩ = some (.int .u8 ((c4).toNat : Int)) := fun x => x.h.cell 4
        have m5 : ∀ x : Wld (fun w' => Mbk w w1.heap.size w' (#[.int .u8 ((c0).toNat : Int), .int .u8 ((c1).toNat : Int), .int .u8 ((c2).toNat : Int), .int .u8 ((c3).toNat : Int), .int .u8 ((c4).toNat : Int), .int .u8 (((flp c5)).toNat : Int), .int .u8 ((c6).toNat : Int)])), x.v.cell? ⟨w1.heap.size, 5, none⟩ = some (.int .u8 (((flp c5)).toNat : Int)) := fun x => x.h.cell 5
        have m6 : ∀ x : Wld (fun w' => Mbk w w1.heap.size w' (#[.int .u8 ((c0).toNat : Int), .int .u8 ((c1).toNat : Int), .int .u8 ((c2).toNat : Int), .int .u8 ((c3).toNat : Int), .int .u8 ((c4).toNat : Int), .int .u8 (((flp c5)).toNat : Int), .int .u8 ((c6).toNat : Int)])), x.v.cell? ⟨w1.heap.size, 6, none⟩ = some (.int .u8 ((c6).toNat : Int)) := fun x => x.h.cell 6
        have hgt : ∀ x : Wld (fun w' => Mbk w w1.heap.size w' (#[.int .u8 ((c0).toNat : Int), .int .u8 ((c1).toNat : Int), .int .u8 ((c2).toNat : Int), .int .u8 ((c3).toNat : Int), .int .u8 ((c4).toNat : Int), .int .u8 (((flp c5)).toNat : Int), .int .u8 ((c6).toNat : Int)])), Tabs x.v := fun x => x.h.t
        clear hM2
        refine wp_region_heldq (fun w' => Mbk w w1.heap.size w' (#[.int .u8 ((c0).toNat : Int), .int .u8 ((c1).toNat : Int), .int .u8 ((c2).toNat : Int), .int .u8 ((c3).toNat : Int), .int .u8 ((c4).toNat : Int), .int .u8 (((flp c5)).toNat : Int), .int .u8 ((c6).toNat : Int)])) (by kernel_rfl) (by kernel_rfl) HM2.out.drew ?_
        repeat (go_big_quiet_step (with_reducible exact held_below (fun _ _ h hb => Mbk.more h hb) (HGD.out _ (hgt _))))
        refine wpQuiet_nil ?_
        rintro _ ⟨x, rfl⟩
        have HX := Lib.hid x.h
        clear ne hgt m0 m1 m2 m3 m4 m5 m6
        generalize x.v = wx at *
        go_wp2
        go_ret2
        exact ⟨by rw [← HRES.out, HS.out.hit 6 (by omega) HOK.out, HFS.out]; rfl, HX.out.b⟩
    · cases hok : okP (fun j => [c0, c1, c2, c3, c4, c5, c6].getD j 0) 7
      · have HOK := Lib.hid hok
        have hcx := fun W => eq7 (gd7 (fun k => (four (tp (fun j => [c0, c1, c2, c3, c4, c5, c6].getD j 0) 7)).getD k 0)) (sevenL (tp (fun j => [c0, c1, c2, c3, c4, c5, c6].getD j 0) 7)) rfl rfl W
        rw [show decide (gd7 (fun k => (four (tp (fun j => [c0, c1, c2, c3, c4, c5, c6].getD j 0) 7)).getD k 0) = sevenL (tp (fun j => [c0, c1, c2, c3, c4, c5, c6].getD j 0) 7)) = false from hok] at hcx
        have hcm : ∀ W, (binOp .eql 65 (.agg (u8s (gd7 (fun k => (four (tp (fun j => [c0, c1, c2, c3, c4, c5, c6].getD j 0) 7)).getD k 0)))) (.agg #[.int .u8 ((c0).toNat : Int), .int .u8 ((c1).toNat : Int), .int .u8 ((c2).toNat : Int), .int .u8 ((c3).toNat : Int), .int .u8 ((c4).toNat : Int), .int .u8 ((c5).toNat : Int), .int .u8 (((flp c6)).toNat : Int)])).run Tryz.prog W = .ok (.bool false) W := hcx
        clear hcx
        have HGR := Lib.hid (show ∀ W, Tabs W → Calls Tryz.prog 64 #[.agg #[.int .u8 ((c0).toNat : Int), .int .u8 ((c1).toNat : Int), .int .u8 ((c2).toNat : Int), .int .u8 ((c3).toNat : Int), .int .u8 ((c4).toNat : Int), .int .u8 ((c5).toNat : Int), .int .u8 (((flp c6)).toNat : Int)]] W fun e w' => e = .returned (.string ⟨(four (tp (fun j => [c0, c1, c2, c3, c4, c5, c6].getD j 0) 7)).toArray⟩) ∧ Below W.heap.size W w' from fun W hT => igr_any W hT (tp (fun j => [c0, c1, c2, c3, c4, c5, c6].getD j 0) 7))
        have HGD := Lib.hid (show ∀ W, Tabs W → Calls Tryz.prog 65 #[.string ⟨(four (tp (fun j => [c0, c1, c2, c3, c4, c5, c6].getD j 0) 7)).toArray⟩] W fun e w' => e = .returned (.agg (u8s (gd7 (fun k => (four (tp (fun j => [c0, c1, c2, c3, c4, c5, c6].getD j 0) 7)).getD k 0)))) ∧ Below W.heap.size W w' from fun W hT => igd_any W hT _ (fun k => (four (tp (fun j => [c0, c1, c2, c3, c4, c5, c6].getD j 0) 7)).getD k 0) rfl (fun k hk => four_at _ k hk) (four_bits 7 HB7.out))
        have HTU := Lib.hid (fun W => turG_any c6 W (HB7.out 6 (by omega)))
        generalize hfs : (⟨(four (tp (fun j => [c0, c1, c2, c3, c4, c5, c6].getD j 0) 7)).toArray⟩ : ByteArray) = fs at *
        have HFS := Lib.hid hfs
        clear hfs
        generalize gd7 (fun k => (four (tp (fun j => [c0, c1, c2, c3, c4, c5, c6].getD j 0) 7)).getD k 0) = gg at *
        have hsp := arrAt wr.heap.size cc
        have ht1 := HT.out.below hb1 HT.out.sz
        have hbw := HBB.out.trans (hb1.mono HBB.out.size)
        have HT1 := Lib.hid ht1
        have HBW := Lib.hid hbw
        have HM := Lib.hid (Mbk.new (w := w) (w1 := w1) (#[.int .u8 ((c0).toNat : Int), .int .u8 ((c1).toNat : Int), .int .u8 ((c2).toNat : Int), .int .u8 ((c3).toNat : Int), .int .u8 ((c4).toNat : Int), .int .u8 ((c5).toNat : Int), .int .u8 (((flp c6)).toNat : Int)]) HZ.out ht1 hbw (Nat.lt_of_le_of_lt HBB.out.size hz1))
        clear ht1 hbw hb1 hok
        have k0 := HOW.out.cellAt 0 (by rw [HL.out]; simp)
        rw [HL.out] at k0
        simp only [List.getD_cons_zero] at k0
        have k1 := HOW.out.cellAt 1 (by rw [HL.out]; simp)
        rw [HL.out] at k1
        simp only [List.getD_cons_zero, List.getD_cons_succ] at k1
        have k2 := HOW.out.cellAt 2 (by rw [HL.out]; simp)
        rw [HL.out] at k2
        simp only [List.getD_cons_zero, List.getD_cons_succ] at k2
        have k3 := HOW.out.cellAt 3 (by rw [HL.out]; simp)
        rw [HL.out] at k3
        simp only [List.getD_cons_zero, List.getD_cons_succ] at k3
        have k4 := HOW.out.cellAt 4 (by rw [HL.out]; simp)
        rw [HL.out] at k4
        simp only [List.getD_cons_zero, List.getD_cons_succ] at k4
        have k5 := HOW.out.cellAt 5 (by rw [HL.out]; simp)
        rw [HL.out] at k5
        simp only [List.getD_cons_zero, List.getD_cons_succ] at k5
        have k6 := HOW.out.cellAt 6 (by rw [HL.out]; simp)
        rw [HL.out] at k6
        simp only [List.getD_cons_zero, List.getD_cons_succ] at k6
        go_wp2_with fail
        refine (HTU.out _).mono ?_
        rintro e w9 ⟨rfl, rfl⟩
        go_wp2_with fail
        refine (HGR.out _ HM.out.t).mono ?_
        rintro e w2 ⟨rfl, hb2⟩
        have hM2 := HM.out.more hb2
        have HM2 := Lib.hid hM2
        clear hb2 k0 k1 k2 k3 k4 k5 k6
        go_wp2_with fail
        have ne := Wld.ne (S := (fun w' => Mbk w w1.heap.size w' (#[.int .u8 ((c0).toNat : Int), .int .u8 ((c1).toNat : Int), .int .u8 ((c2).toNat : Int), .int .u8 ((c3).toNat : Int), .int .u8 ((c4).toNat : Int), .int .u8 ((c5).toNat : Int), .int .u8 (((flp c6)).toNat : Int)]))) hM2
        have m0 : ∀ x : Wld (fun w' => Mbk w w1.heap.size w' (#[.int .u8 ((c0).toNat : Int), .int .u8 ((c1).toNat : Int), .int .u8 ((c2).toNat : Int), .int .u8 ((c3).toNat : Int), .int .u8 ((c4).toNat : Int), .int .u8 ((c5).toNat : Int), .int .u8 (((flp c6)).toNat : Int)])), x.v.cell? ⟨w1.heap.size, 0, none⟩ = some (.int .u8 ((c0).toNat : Int)) := fun x => x.h.cell 0
        have m1 : ∀ x : Wld (fun w' => Mbk w w1.heap.size w' (#[.int .u8 ((c0).toNat : Int), .int .u8 ((c1).toNat : Int), .int .u8 ((c2).toNat : Int), .int .u8 ((c3).toNat : Int), .int .u8 ((c4).toNat : Int), .int .u8 ((c5).toNat : Int), .int .u8 (((flp c6)).toNat : Int)])), x.v.cell? ⟨w1.heap.size, 1, none⟩ = some (.int .u8 ((c1).toNat : Int)) := fun x => x.h.cell 1
        have m2 : ∀ x : Wld (fun w' => Mbk w w1.heap.size w' (#[.int .u8 ((c0).toNat : Int), .int .u8 ((c1).toNat : Int), .int .u8 ((c2).toNat : Int), .int .u8 ((c3).toNat : Int), .int .u8 ((c4).toNat : Int), .int .u8 ((c5).toNat : Int), .int .u8 (((flp c6)).toNat : Int)])), x.v.cell? ⟨w1.heap.size, 2, none⟩ = some (.int .u8 ((c2).toNat : Int)) := fun x => x.h.cell 2
        have m3 : ∀ x : Wld (fun w' => Mbk w w1.heap.size w' (#[.int .u8 ((c0).toNat : Int), .int .u8 ((c1).toNat : Int), .int .u8 ((c2).toNat : Int), .int .u8 ((c3).toNat : Int), .int .u8 ((c4).toNat : Int), .int .u8 ((c5).toNat : Int), .int .u8 (((flp c6)).toNat : Int)])), x.v.cell? ⟨w1.heap.size, 3, none⟩ = some (.int .u8 ((c3).toNat : Int)) := fun x => x.h.cell 3
        have m4 : ∀ x : Wld (fun w' => Mbk w w1.heap.size w' (#[.int .u8 ((c0).toNat : Int), .int .u8 ((c1).toNat : Int), .int .u8 ((c2).toNat : Int), .int .u8 ((c3).toNat : Int), .int .u8 ((c4).toNat : Int), .int .u8 ((c5).toNat : Int), .int .u8 (((flp c6)).toNat : Int)])), x.v.cell? ⟨w1.heap.size, 4, none⟩ = some (.int .u8 ((c4).toNat : Int)) := fun x => x.h.cell 4
        have m5 : ∀ x : Wld (fun w' => Mbk w w1.heap.size w' (#[.int .u8 ((c0).toNat : Int), .int .u8 ((c1).toNat : Int), .int .u8 ((c2).toNat : Int), .int .u8 ((c3).toNat : Int), .int .u8 ((c4).toNat : Int), .int .u8 ((c5).toNat : Int), .int .u8 (((flp c6)).toNat : Int)])), x.v.cell? ⟨w1.heap.size, 5, none⟩ = some (.int .u8 ((c5).toNat : Int)) := fun x => x.h.cell 5
        have m6 : ∀ x : Wld (fun w' => Mbk w w1.heap.size w' (#[.int .u8 ((c0).toNat : Int), .int .u8 ((c1).toNat : Int), .int .u8 ((c2).toNat : Int), .int .u8 ((c3).toNat : Int), .int .u8 ((c4).toNat : Int), .int .u8 ((c5).toNat : Int), .int .u8 (((flp c6)).toNat : Int)])), x.v.cell? ⟨w1.heap.size, 6, none⟩ = some (.int .u8 (((flp c6)).toNat : Int)) := fun x => x.h.cell 6
        have hgt : ∀ x : Wld (fun w' => Mbk w w1.heap.size w' (#[.int .u8 ((c0).toNat : Int), .int .u8 ((c1).toNat : Int), .int .u8 ((c2).toNat : Int), .int .u8 ((c3).toNat : Int), .int .u8 ((c4).toNat : Int), .int .u8 ((c5).toNat : Int), .int .u8 (((flp c6)).toNat : Int)])), Tabs x.v := fun x => x.h.t
        clear hM2
        refine wp_region_heldq (fun w' => Mbk w w1.heap.size w' (#[.int .u8 ((c0).toNat : Int), .int .u8 ((c1).toNat : Int), .int .u8 ((c2).toNat : Int), .int .u8 ((c3).toNat : Int), .int .u8 ((c4).toNat : Int), .int .u8 ((c5).toNat : Int), .int .u8 (((flp c6)).toNat : Int)])) (by kernel_rfl) (by kernel_rfl) HM2.out.drew ?_
        repeat (go_big_quiet_step (with_reducible exact held_below (fun _ _ h hb => Mbk.more h hb) (HGD.out _ (hgt _))))
        refine wpQuiet_nil ?_
        rintro _ ⟨x, rfl⟩
        have HX := Lib.hid x.h
        clear ne hgt m0 m1 m2 m3 m4 m5 m6
        generalize x.v = wx at *
        go_wp2
        go_roundg 0
        case measure => have := HG.out; omega
        case rel => exact ⟨8, by omega, rfl, rfl, HS.out.miss 7 (by omega) HOK.out, HX.out.t, HX.out.b⟩
      · have HOK := Lib.hid hok
        have hcx := fun W => eq7 (gd7 (fun k => (four (tp (fun j => [c0, c1, c2, c3, c4, c5, c6].getD j 0) 7)).getD k 0)) (sevenL (tp (fun j => [c0, c1, c2, c3, c4, c5, c6].getD j 0) 7)) rfl rfl W
        rw [show decide (gd7 (fun k => (four (tp (fun j => [c0, c1, c2, c3, c4, c5, c6].getD j 0) 7)).getD k 0) = sevenL (tp (fun j => [c0, c1, c2, c3, c4, c5, c6].getD j 0) 7)) = true from hok] at hcx
        have hcm : ∀ W, (binOp .eql 65 (.agg (u8s (gd7 (fun k => (four (tp (fun j => [c0, c1, c2, c3, c4, c5, c6].getD j 0) 7)).getD k 0)))) (.agg #[.int .u8 ((c0).toNat : Int), .int .u8 ((c1).toNat : Int), .int .u8 ((c2).toNat : Int), .int .u8 ((c3).toNat : Int), .int .u8 ((c4).toNat : Int), .int .u8 ((c5).toNat : Int), .int .u8 (((flp c6)).toNat : Int)])).run Tryz.prog W = .ok (.bool true) W := hcx
        clear hcx
        have HGR := Lib.hid (show ∀ W, Tabs W → Calls Tryz.prog 64 #[.agg #[.int .u8 ((c0).toNat : Int), .int .u8 ((c1).toNat : Int), .int .u8 ((c2).toNat : Int), .int .u8 ((c3).toNat : Int), .int .u8 ((c4).toNat : Int), .int .u8 ((c5).toNat : Int), .int .u8 (((flp c6)).toNat : Int)]] W fun e w' => e = .returned (.string ⟨(four (tp (fun j => [c0, c1, c2, c3, c4, c5, c6].getD j 0) 7)).toArray⟩) ∧ Below W.heap.size W w' from fun W hT => igr_any W hT (tp (fun j => [c0, c1, c2, c3, c4, c5, c6].getD j 0) 7))
        have HGD := Lib.hid (show ∀ W, Tabs W → Calls Tryz.prog 65 #[.string ⟨(four (tp (fun j => [c0, c1, c2, c3, c4, c5, c6].getD j 0) 7)).toArray⟩] W fun e w' => e = .returned (.agg (u8s (gd7 (fun k => (four (tp (fun j => [c0, c1, c2, c3, c4, c5, c6].getD j 0) 7)).getD k 0)))) ∧ Below W.heap.size W w' from fun W hT => igd_any W hT _ (fun k => (four (tp (fun j => [c0, c1, c2, c3, c4, c5, c6].getD j 0) 7)).getD k 0) rfl (fun k hk => four_at _ k hk) (four_bits 7 HB7.out))
        have HTU := Lib.hid (fun W => turG_any c6 W (HB7.out 6 (by omega)))
        generalize hfs : (⟨(four (tp (fun j => [c0, c1, c2, c3, c4, c5, c6].getD j 0) 7)).toArray⟩ : ByteArray) = fs at *
        have HFS := Lib.hid hfs
        clear hfs
        generalize gd7 (fun k => (four (tp (fun j => [c0, c1, c2, c3, c4, c5, c6].getD j 0) 7)).getD k 0) = gg at *
        have hsp := arrAt wr.heap.size cc
        have ht1 := HT.out.below hb1 HT.out.sz
        have hbw := HBB.out.trans (hb1.mono HBB.out.size)
        have HT1 := Lib.hid ht1
        have HBW := Lib.hid hbw
        have HM := Lib.hid (Mbk.new (w := w) (w1 := w1) (#[.int .u8 ((c0).toNat : Int), .int .u8 ((c1).toNat : Int), .int .u8 ((c2).toNat : Int), .int .u8 ((c3).toNat : Int), .int .u8 ((c4).toNat : Int), .int .u8 ((c5).toNat : Int), .int .u8 (((flp c6)).toNat : Int)]) HZ.out ht1 hbw (Nat.lt_of_le_of_lt HBB.out.size hz1))
        clear ht1 hbw hb1 hok
        have k0 := HOW.out.cellAt 0 (by rw [HL.out]; simp)
        rw [HL.out] at k0
        simp only [List.getD_cons_zero] at k0
        have k1 := HOW.out.cellAt 1 (by rw [HL.out]; simp)
        rw [HL.out] at k1
        simp only [List.getD_cons_zero, List.getD_cons_succ] at k1
        have k2 := HOW.out.cellAt 2 (by rw [HL.out]; simp)
        rw [HL.out] at k2
        simp only [List.getD_cons_zero, List.getD_cons_succ] at k2
        have k3 := HOW.out.cellAt 3 (by rw [HL.out]; simp)
        rw [HL.out] at k3
        simp only [List.getD_cons_zero, List.getD_cons_succ] at k3
        have k4 := HOW.out.cellAt 4 (by rw [HL.out]; simp)
        rw [HL.out] at k4
        simp only [List.getD_cons_zero, List.getD_cons_succ] at k4
        have k5 := HOW.out.cellAt 5 (by rw [HL.out]; simp)
        rw [HL.out] at k5
        simp only [List.getD_cons_zero, List.getD_cons_succ] at k5
        have k6 := HOW.out.cellAt 6 (by rw [HL.out]; simp)
        rw [HL.out] at k6
        simp only [List.getD_cons_zero, List.getD_cons_succ] at k6
        go_wp2_with fail
        refine (HTU.out _).mono ?_
        rintro e w9 ⟨rfl, rfl⟩
        go_wp2_with fail
        refine (HGR.out _ HM.out.t).mono ?_
        rintro e w2 ⟨rfl, hb2⟩
        have hM2 := HM.out.more hb2
        have HM2 := Lib.hid hM2
        clear hb2 k0 k1 k2 k3 k4 k5 k6
        go_wp2_with fail
        have ne := Wld.ne (S := (fun w' => Mbk w w1.heap.size w' (#[.int .u8 ((c0).toNat : Int), .int .u8 ((c1).toNat : Int), .int .u8 ((c2).toNat : Int), .int .u8 ((c3).toNat : Int), .int .u8 ((c4).toNat : Int), .int .u8 ((c5).toNat : Int), .int .u8 (((flp c6)).toNat : Int)]))) hM2
        have m0 : ∀ x : Wld (fun w' => Mbk w w1.heap.size w' (#[.int .u8 ((c0).toNat : Int), .int .u8 ((c1).toNat : Int), .int .u8 ((c2).toNat : Int), .int .u8 ((c3).toNat : Int), .int .u8 ((c4).toNat : Int), .int .u8 ((c5).toNat : Int), .int .u8 (((flp c6)).toNat : Int)])), x.v.cell? ⟨w1.heap.size, 0, none⟩ = some (.int .u8 ((c0).toNat : Int)) := fun x => x.h.cell 0
        have m1 : ∀ x : Wld (fun w' => Mbk w w1.heap.size w' (#[.int .u8 ((c0).toNat : Int), .int .u8 ((c1).toNat : Int), .int .u8 ((c2).toNat : Int), .int .u8 ((c3).toNat : Int), .int .u8 ((c4).toNat : Int), .int .u8 ((c5).toNat : Int), .int .u8 (((flp c6)).toNat : Int)])), x.v.cell? ⟨w1.heap.size, 1, none⟩ = some (.int .u8 ((c1).toNat : Int)) := fun x => x.h.cell 1
        have m2 : ∀ x : Wld (fun w' => Mbk w w1.heap.size w' (#[.int .u8 ((c0).toNat : Int), .int .u8 ((c1).toNat : Int), .int .u8 ((c2).toNat : Int), .int .u8 ((c3).toNat : Int), .int .u8 ((c4).toNat : Int), .int .u8 ((c5).toNat : Int), .int .u8 (((flp c6)).toNat : Int)])), x.v.cell? ⟨w1.heap.size, 2, none⟩ = some (.int .u8 ((c2).toNat : Int)) := fun x => x.h.cell 2
        have m3 : ∀ x : Wld (fun w' => Mbk w w1.heap.size w' (#[.int .u8 ((c0).toNat : Int), .int .u8 ((c1).toNat : Int), .int .u8 ((c2).toNat : Int), .int .u8 ((c3).toNat : Int), .int .u8 ((c4).toNat : Int), .int .u8 ((c5).toNat : Int), .int .u8 (((flp c6)).toNat : Int)])), x.v.cell? ⟨w1.heap.size, 3, none⟩ = some (.int .u8 ((c3).toNat : Int)) := fun x => x.h.cell 3
        have m4 : ∀ x : Wld (fun w' => Mbk w w1.heap.size w' (#[.int .u8 ((c0).toNat : Int), .int .u8 ((c1).toNat : Int), .int .u8 ((c2).toNat : Int), .int .u8 ((c3).toNat : Int), .int .u8 ((c4).toNat : Int), .int .u8 ((c5).toNat : Int), .int .u8 (((flp c6)).toNat : Int)])), x.v.cell? ⟨w1.heap.size, 4, none⟩ = some (.int .u8 ((c4).toNat : Int)) := fun x => x.h.cell 4
        have m5 : ∀ x : Wld (fun w' => Mbk w w1.heap.size w' (#[.int .u8 ((c0).toNat : Int), .int .u8 ((c1).toNat : Int), .int .u8 ((c2).toNat : Int), .int .u8 ((c3).toNat : Int), .int .u8 ((c4).toNat : Int), .int .u8 ((c5).toNat : Int), .int .u8 (((flp c6)).toNat : Int)])), x.v.cell? ⟨w1.heap.size, 5, none⟩ = some (.int .u8 ((c5).toNat : Int)) := fun x => x.h.cell 5
        have m6 : ∀ x : Wld (fun w' => Mbk w w1.heap.size w' (#[.int .u8 ((c0).toNat : Int), .int .u8 ((c1).toNat : Int), .int .u8 ((c2).toNat : Int), .int .u8 ((c3).toNat : Int), .int .u8 ((c4).toNat : Int), .int .u8 ((c5).toNat : Int), .int .u8 (((flp c6)).toNat : Int)])), x.v.cell? ⟨w1.heap.size, 6, none⟩ = some (.int .u8 (((flp c6)).toNat : Int)) := fun x => x.h.cell 6
        have hgt : ∀ x : Wld (fun w' => Mbk w w1.heap.size w' (#[.int .u8 ((c0).toNat : Int), .int .u8 ((c1).toNat : Int), .int .u8 ((c2).toNat : Int), .int .u8 ((c3).toNat : Int), .int .u8 ((c4).toNat : Int), .int .u8 ((c5).toNat : Int), .int .u8 (((flp c6)).toNat : Int)])), Tabs x.v := fun x => x.h.t
        clear hM2
        refine wp_region_heldq (fun w' => Mbk w w1.heap.size w' (#[.int .u8 ((c0).toNat : Int), .int .u8 ((c1).toNat : Int), .int .u8 ((c2).toNat : Int), .int .u8 ((c3).toNat : Int), .int .u8 ((c4).toNat : Int), .int .u8 ((c5).toNat : Int), .int .u8 (((flp c6)).toNat : Int)])) (by kernel_rfl) (by kernel_rfl) HM2.out.drew ?_
        repeat (go_big_quiet_step (with_reducible exact held_below (fun _ _ h hb => Mbk.more h hb) (HGD.out _ (hgt _))))
        refine wpQuiet_nil ?_
        rintro _ ⟨x, rfl⟩
        have HX := Lib.hid x.h
        clear ne hgt m0 m1 m2 m3 m4 m5 m6
        generalize x.v = wx at *
        go_wp2
        go_ret2
        exact ⟨by rw [← HRES.out, HS.out.hit 7 (by omega) HOK.out, HFS.out]; rfl, HX.out.b⟩
    · exact absurd HS.out.end_ (find_some (HB7.out 0 (by omega)) (HB7.out 1 (by omega)) (HB7.out 2 (by omega)) (HB7.out 3 (by omega)) (HB7.out 4 (by omega)) (HB7.out 5 (by omega)) (HB7.out 6 (by omega)))
end Go.Proofs.YtndpbhmokobbpaaGreatDoor
