/-
  The walk of the program's function that divides in place. Conditions: where the bits lie, and the lengths that are typed.
  The walk of slices.Repeat at one byte 0, and of the function that makes noughts. Condition: the number is at least 1 and small.
-/
import Derived.Test.YtndpbhmokobbpaaGreatDoorDm20
import Derived.Test.YtndpbhmokobbpaaGreatDoorDm09
import Derived.IntWalk
import Derived.Laws.CopyOwn
import Derived.Deep.RegionLaw
namespace Go.Proofs.YtndpbhmokobbpaaGreatDoor
open Go.RowKit
set_option linter.unusedVariables false

/-- The first k bits from place i on turned as the divisor says. -/
def mixk (p l : List UInt8) (i k : Nat) : List UInt8 := l.take i ++ xrl ((l.drop i).take k) (p.take k) ++ l.drop (i + k)
theorem mixk_zero (p l : List UInt8) (i : Nat) : mixk p l i 0 = l := by simp [mixk, xrl]
theorem mixk_end (p l : List UInt8) (i : Nat) : mixk p l i p.length = mixU p l i := by simp [mixk, mixU]
theorem mixk_len (p l : List UInt8) (i k : Nat) (h : i + k ≤ l.length) (hk : k ≤ p.length) : (mixk p l i k).length = l.length := by
  simp [mixk, xrl]; omega
theorem mixk_get (p l : List UInt8) (i k : Nat) (h : i + k < l.length) (hk : k < p.length) : (mixk p l i k).getD (i + k) 0 = l.getD (i + k) 0 := by
  unfold mixk
  have e1 : (l.take i ++ xrl ((l.drop i).take k) (p.take k)).length = i + k := by simp [xrl]; omega
  rw [List.getD_eq_getElem?_getD, List.getElem?_append_right (by omega), e1, Nat.sub_self, List.getElem?_drop, List.getD_eq_getElem?_getD]
  rfl
theorem mixk_step (p l : List UInt8) (i k : Nat) (h : i + k < l.length) (hk : k < p.length) : (mixk p l i k).set (i + k) (xr (l.getD (i + k) 0) (p.getD k 0)) = mixk p l i (k + 1) := by
  unfold mixk
  have e1 : (l.take i ++ xrl ((l.drop i).take k) (p.take k)).length = i + k := by simp [xrl]; omega
  have e2 : (l.drop i).take (k + 1) = (l.drop i).take k ++ [l.getD (i + k) 0] := by
    have hd : k < (l.drop i).length := by simp; omega
    rw [List.take_add_one, List.getElem?_eq_getElem hd]
    simp [List.getD_eq_getElem?_getD, List.getElem?_eq_getElem h]
  have e3 : p.take (k + 1) = p.take k ++ [p.getD k 0] := by
    rw [List.take_add_one, List.getElem?_eq_getElem hk]
    simp [List.getD_eq_getElem?_getD, List.getElem?_eq_getElem hk]
  rw [List.set_append, if_neg (by omega), e1, Nat.sub_self, e2, e3]
  have e4 : xrl ((l.drop i).take k ++ [l.getD (i + k) 0]) (p.take k ++ [p.getD k 0]) = xrl ((l.drop i).take k) (p.take k) ++ [xr (l.getD (i + k) 0) (p.getD k 0)] := by
    unfold xrl
    rw [List.zipWith_append (by simp; omega)]
    rfl
  rw [e4, List.drop_eq_getElem_cons h, List.set_cons_zero]
  simp [Nat.add_assoc]
theorem xr_bit : ∀ (a b : UInt8), isBit (xr a b) = true := by
  intro a b; unfold xr; split <;> rfl
theorem xr_48 {c : UInt8} (h : isBit c = true) : xr c 48 = c := by
  rcases isBit_cases h with rfl | rfl <;> rfl
theorem xrl_bits : ∀ (a b : List UInt8), (xrl a b).all isBit = true
  | [], b => by simp [xrl]
  | a :: l, [] => by simp [xrl]
  | a :: l, b :: m => by
    have := xrl_bits l m
    unfold xrl at this ⊢
    rw [List.zipWith_cons_cons, List.all_cons, this, xr_bit]; rfl
theorem all_take {l : List UInt8} (h : l.all isBit = true) (k : Nat) : (l.take k).all isBit = true := by
  rw [List.all_eq_true] at h ⊢; exact fun x hx => h x (List.mem_of_mem_take hx)
theorem all_drop {l : List UInt8} (h : l.all isBit = true) (k : Nat) : (l.drop k).all isBit = true := by
  rw [List.all_eq_true] at h ⊢; exact fun x hx => h x (List.mem_of_mem_drop hx)
theorem mixU_bits (p l : List UInt8) (i : Nat) (h : l.all isBit = true) : (mixU p l i).all isBit = true := by
  unfold mixU
  rw [List.all_append, List.all_append, all_take h, xrl_bits, all_drop h]; rfl
theorem redU_bits (p l : List UInt8) (h : l.all isBit = true) : ∀ i, (redU p l i).all isBit = true
  | 0 => h
  | i + 1 => by
    unfold redU
    split
    · exact mixU_bits _ _ _ (redU_bits p l h i)
    · exact redU_bits p l h i
theorem remU_bits (p l : List UInt8) (h : l.all isBit = true) : (remU p l).all isBit = true := all_drop (redU_bits p l h _) _
theorem get_bit {l : List UInt8} (h : l.all isBit = true) {k : Nat} (hk : k < l.length) : isBit (l.getD k 0) = true := by
  rw [List.getD_eq_getElem?_getD, List.getElem?_eq_getElem hk]
  exact List.all_eq_true.1 h _ (List.getElem_mem hk)

/-- The other bit. -/
def flip (c : UInt8) : UInt8 := if c = 48 then 49 else 48
theorem xr_49 {c : UInt8} (h : isBit c = true) : xr c 49 = flip c := by
  rcases isBit_cases h with rfl | rfl <;> rfl
set_option maxHeartbeats 400000 in
theorem tur_any (c : UInt8) (w : World) (h : isBit c = true) :
    Calls Tryz.prog 63 #[.int .u8 (c.toNat : Int)] w fun e w' => e = .returned (.int .u8 ((flip c).toNat : Int)) ∧ w = w' := by
  rcases isBit_cases h with rfl | rfl
  · have hx : bits .xor .u8 48 1 = 49 := by decide +kernel
    go_enter Tryz.func63, Tryz.ntmps63
    go_wp2
    go_ret
    exact ⟨rfl, rfl⟩
  · have hx : bits .xor .u8 49 1 = 48 := by decide +kernel
    go_enter Tryz.func63, Tryz.ntmps63
    go_wp2
    go_ret
    exact ⟨rfl, rfl⟩

theorem grown_trans8 {a b c : World} {row : Option Nat} (h : a.grownBy b row) (k : b.grownBy c row) : a.grownBy c row :=
  ⟨k.os.trans h.os, k.tape.trans h.tape, k.output.trans h.output, Nat.le_trans h.size k.size, fun i hi hn => (k.block i (Nat.lt_of_lt_of_le hi h.size) hn).trans (h.block i hi hn)⟩
theorem grown_alloc8 {a b : World} {row : Option Nat} (h : a.grownBy b row) (o : Obj) : a.grownBy (b.alloc o) row := by
  refine grown_trans8 h ⟨rfl, rfl, rfl, by simp, fun i hi _ => ?_⟩
  exact Below.heap_alloc _ _ _ hi
theorem grown_iter8 {a b : World} {row : Option Nat} {k p : Nat} {s : ByteArray} (h : a.grownBy b row) (hk : b.heap[k]? = some (.stringIter s p)) (hka : a.heap.size ≤ k) (q : Nat) : a.grownBy (b.iterAt k s q) row := by
  refine ⟨h.os, h.tape, h.output, by rw [Lib.iterAt_size]; exact h.size, fun i hi hn => ?_⟩
  rw [Lib.iterAt_other _ _ _ _ _ (by omega)]
  exact h.block i hi hn

set_option maxHeartbeats 400000 in
theorem div_few (p : ByteArray) (A : Option Addr) (n cap : Nat) (w : World) (hp : p.size ≤ 1000) (hn : n ≤ 2000) (h : n + 1 < p.size) :
    Calls Tryz.prog 73 #[.string p, .slice A n cap] w fun e w' => e = .returned (.slice none 0 0) ∧ w = w' := by
  have hg : (n : Int) - (p.size : Int) < -1 := by omega
  go_enter Tryz.func73, Tryz.ntmps73
  go_wp2
  go_ret
  exact ⟨rfl, rfl⟩

theorem set_self (l : List UInt8) (j : Nat) (h : j < l.length) : l.set j (l.getD j 0) = l := by
  rw [List.getD_eq_getElem?_getD, List.getElem?_eq_getElem h]; simp
/-- What divide leaves. -/
def DivPost (p : ByteArray) (w : World) (g cap n : Nat) (l : List UInt8) (e : Ending) (w' : World) : Prop :=
  e = .returned (.slice (some ⟨g, n - (p.size - 1), none⟩) (p.size - 1) (cap - (n - (p.size - 1)))) ∧
  OwnB w' g (redU p.data.toList l (n - (p.size - 1))) ∧ w.grownBy w' (some g)

set_option maxHeartbeats 3200000 in
theorem div_any (p : ByteArray) (w : World) (g cap n : Nat) (l : List UInt8) (hl : l.length = n) (hp1 : 2 ≤ p.size) (hp : p.size ≤ 9) (hpb : p.data.toList.all isBit = true) (hlb : l.all isBit = true) (hn : n ≤ 2000) (hge : p.size - 1 ≤ n) (hcap : n ≤ cap)
    (h : OwnB w g l) :
    Calls Tryz.prog 73 #[.string p, .slice (some ⟨g, 0, none⟩) n cap] w (DivPost p w g cap n l) := by
  obtain ⟨m, hpm⟩ : ∃ m, p.size = m + 1 := ⟨p.size - 1, by omega⟩
  have hlp : p.data.toList.length = m + 1 := by simpa using hpm
  have hm : m ≤ 8 := by omega
  have hm1 : 1 ≤ m := by omega
  have hgn : m ≤ n := by omega
  have HLP := Lib.hid hlp
  have HL := Lib.hid hl
  have HPB := Lib.hid hpb
  have HLB := Lib.hid hlb
  have HO := Lib.hid h
  have HPM := Lib.hid hpm
  have hg0 : decide ((n : Int) - ((m : Int) + 1) < -1) = false := by simp; omega
  have hg1 : ¬ (n : Int) - ((m : Int) + 1) < -1 := by omega
  clear hlp hl hpb hlb h hge
  go_enter Tryz.func73, Tryz.ntmps73
  go_wp2
  go_loopw [18] (fun iv wr => ∃ i : Nat, i ≤ n - m ∧ iv = .int .i64 i ∧ OwnB wr g (redU p.data.toList l i) ∧ w.grownBy wr (some g)) (fun iv _ => n - m - (intOf iv).toNat)
  case atStart => exact ⟨0, Nat.zero_le _, rfl, HO.out, World.grownBy.refl w _⟩
  case round =>
    obtain ⟨i, hi, rfl, hown, hgr⟩ := hrel
    have hLl := redU_len p.data.toList l (by rw [HLP.out]; omega) i (by rw [HLP.out, HL.out]; omega)
    rw [HL.out] at hLl
    by_cases hlt : i < n - m
    · have hLb := redU_bits p.data.toList l HLB.out i
      have hcb := get_bit hLb (k := i) (by omega)
      have hc := hown.cellAt i (by omega)
      have hR : redU p.data.toList l (i + 1) = if (redU p.data.toList l i).getD i 0 = 49 then mixU p.data.toList (redU p.data.toList l i) i else redU p.data.toList l i := rfl
      have HR := Lib.hid hR
      have HG := Lib.hid hgr
      have HLL := Lib.hid hLl
      have HLBB := Lib.hid hLb
      have HOWN := Lib.hid hown
      clear hR hgr hLl hLb hown
      have hi2 : (i : Int) < (n : Int) - ((m : Int) + 1) + 1 := by omega
      have hin : i < n := by omega
      generalize redU p.data.toList l i = L at *
      generalize hd : L.getD i 0 = d at *
      have HD := Lib.hid hd
      clear hd
      rcases isBit_cases hcb with rfl | rfl
      · have hc' : wr.cell? ⟨g, i, none⟩ = some (.int .u8 48) := hc
        clear hc hcb
        go_wp2
        go_roundw
        case rel => exact ⟨i + 1, by omega, by go_num, by rw [HR.out, if_neg (by decide)]; exact HOWN.out, HG.out⟩
        case measure => simp [intOf]; omega
      · have hc' : wr.cell? ⟨g, i, none⟩ = some (.int .u8 49) := hc
        clear hc hcb
        obtain ⟨wo, rfl⟩ : ∃ wo : World, wo = wr := ⟨_, rfl⟩
        have hzs := HG.out.size
        go_wp2
        go_loopw [] (fun w' => ∃ k : Nat, k ≤ m + 1 ∧ w'.heap[wo.heap.size]? = some (.stringIter p k) ∧ OwnB w' g (mixk p.data.toList L i k) ∧ w.grownBy w' (some g)) (fun w' => m + 1 - w'.iterPos wo.heap.size)
        case atStart =>
          refine ⟨0, Nat.zero_le _, heap_alloc_new wo _, ?_, grown_alloc8 HG.out _⟩
          rw [mixk_zero]
          exact HOWN.out.alloc _
        case round =>
          obtain ⟨k, hk, hit, hown, hgr⟩ := hrel
          by_cases hkm : k < m + 1
          · have hkp : k < p.size := by have := HPM.out; omega
            have hkl : k < p.data.toList.length := by rw [HLP.out]; exact hkm
            have hikL : i + k < L.length := by rw [HLL.out]; omega
            have hdb := all_at k hkp HPB.out
            have hnx0 := fun ty => Lib.run_next_ascii_at (P := Tryz.prog) wr wo.heap.size p k ty hit hkp (by rcases isBit_cases hdb with e | e <;> rw [e] <;> decide)
            have hit2 := Lib.iterAt_heap wr wo.heap.size p k (k + 1) hit
            have hown2 := hown.iterAt hit (k + 1)
            have hgr2 := grown_iter8 hgr hit hzs (k + 1)
            have hpos := iterPos_of hit
            have hget := mixk_get p.data.toList L i k hikL hkl
            have hst := mixk_step p.data.toList L i k hikL hkl
            have hml := mixk_len p.data.toList L i k (by omega) (by omega)
            have hyb := get_bit HLBB.out (k := i + k) hikL
            rw [poly_last p k hkp] at hst
            have hcy := hown2.cellAt (i + k) (by rw [hml]; exact hikL)
            rw [hget] at hcy
            have hfz := hown2.frozenAt (i + k) (by rw [hml]; exact hikL)
            have hsto := hown2.stored (i + k) (by rw [hml]; exact hikL)
            have hne := hown2.ne_iter hit2
            have hlt2 : wo.heap.size < (wr.iterAt wo.heap.size p (k + 1)).heap.size := (Array.getElem?_eq_some_iff.1 hit2).1
            have HST := Lib.hid hst
            have HSELF := Lib.hid (set_self (mixk p.data.toList L i k) (i + k) (by rw [hml]; exact hikL))
            have HGET := Lib.hid hget
            have HPOS := Lib.hid hpos
            have HSTO := Lib.hid hsto
            have HOWN2 := Lib.hid hown2
            have HGR2 := Lib.hid hgr2
            have HIT2 := Lib.hid hit2
            clear hst hget hpos hsto hown2 hown hgr hit hgr2 hit2 hml hkl
            generalize wr.iterAt wo.heap.size p (k + 1) = W2 at *
            generalize p[k] = dd at *
            generalize L.getD (i + k) 0 = y at *
            have hik : (i : Int) + (k : Int) < (n : Int) := by omega
            rcases isBit_cases hdb with rfl | rfl
            · have hnx : ∀ ty, (Instr.next (.pointer (some ⟨wo.heap.size, 0, none⟩)) true ty).run Tryz.prog wr = .ok (.tuple #[.bool true, .int .i64 k, .int .i32 48]) W2 := hnx0
              clear hnx0 hdb
              go_wp2
              go_roundw
              case rel => exact ⟨k + 1, by omega, HIT2.out, by rw [← HST.out, xr_48 hyb, ← HGET.out, HSELF.out]; exact HOWN2.out, HGR2.out⟩
              case measure => rw [iterPos_of HIT2.out, HPOS.out]; omega
            · have hnx : ∀ ty, (Instr.next (.pointer (some ⟨wo.heap.size, 0, none⟩)) true ty).run Tryz.prog wr = .ok (.tuple #[.bool true, .int .i64 k, .int .i32 49]) W2 := hnx0
              have HT := Lib.hid (tur_any y W2 hyb)
              have hst2 : (mixk p.data.toList L i k).set (i + k) (flip y) = mixk p.data.toList L i (k + 1) := by rw [← xr_49 hyb]; exact HST.out
              have hS := HSTO.out (flip y)
              rw [hst2] at hS
              have HS := Lib.hid hS
              clear hnx0 hdb hS hst2
              go_wp2_with (go_at_call 63; refine HT.out.mono ?_; rintro e w' ⟨rfl, rfl⟩)
              have hblk := (HS.out.2.block wo.heap.size hlt2 (fun e => hne (by injection e))).trans HIT2.out
              go_roundw
              case rel => exact ⟨k + 1, by omega, hblk, HS.out.1, grown_trans8 HGR2.out HS.out.2⟩
              case measure => rw [iterPos_of hblk, HPOS.out]; omega
          · have hkp : ¬ k < p.size := by have := HPM.out; omega
            have hnx : ∀ ty, (Instr.next (.pointer (some ⟨wo.heap.size, 0, none⟩)) true ty).run Tryz.prog wr = _ := fun ty => Lib.run_next_end_at wr wo.heap.size p k ty hit hkp
            obtain rfl : k = p.data.toList.length := by rw [HLP.out]; omega
            rw [mixk_end] at hown
            have HO2 := Lib.hid hown
            have HG2 := Lib.hid hgr
            clear hown hgr hit
            go_wp2
            go_roundw
            case rel => exact ⟨i + 1, by omega, by go_num, by rw [HR.out]; simpa using HO2.out, HG2.out⟩
            case measure => simp [intOf]; omega
    · obtain rfl : i = n - m := by omega
      have q1 : ((n : Int) - ((m : Int) + 1) + 1).toNat = n - m := by omega
      have q2 : ¬ ((n - m : Nat) : Int) < (n : Int) - ((m : Int) + 1) + 1 := by omega
      have q3 : (0 : Int) ≤ (n : Int) - ((m : Int) + 1) + 1 := by omega
      have q4 : (n : Int) - ((m : Int) + 1) + 1 ≤ (n : Int) := by omega
      have q5 : (n : Int) - ((m : Int) + 1) + 1 ≤ (cap : Int) := by omega
      have q6 : (n : Int) - ((m : Int) + 1) + 1 ≠ (cap : Int) := by omega
      have HO2 := Lib.hid hown
      have HG2 := Lib.hid hgr
      clear hown hgr hLl
      go_wp2
      go_ret
      have e1 : p.size - 1 = m := by have := HPM.out; omega
      unfold DivPost
      rw [e1]
      exact ⟨by rw [show n - (n - m) = m from by omega]; rfl, HO2.out, HG2.out⟩
end Go.Proofs.YtndpbhmokobbpaaGreatDoor

namespace Go.Proofs.YtndpbhmokobbpaaGreatDoor
open Go.RowKit
set_option linter.unusedVariables false

theorem row_full {w : World} {B e g n : Nat} {xs : List Value} (h : w.ownsRow B e 1 (.slice (some ⟨g, 0, none⟩) n n) n xs) : w.heap[g]? = some (.cells xs.toArray e (0, 0)) := by
  rcases h.2 with ⟨h1, _⟩ | ⟨g', cap', cur, hv, _, hh, h1, _, h2, h3⟩
  · cases h1
  · injection hv with a1 a2 a3
    injection a1 with a4
    injection a4 with a5
    subst a5; subst a3
    rw [Nat.mul_one] at h2 h3
    have e1 : cur.toList = xs := by rw [← h3, List.take_of_length_le (by simp; omega)]
    rw [hh, ← e1]
theorem row_of_full {w : World} {B e g n : Nat} {xs : List Value} (h : w.heap[g]? = some (.cells xs.toArray e (0, 0))) (hB : B ≤ g) (hn : xs.length = n) (hm : n ≤ maxLen) : w.ownsRow B e 1 (.slice (some ⟨g, 0, none⟩) n n) n xs := by
  refine ⟨by omega, .inr ⟨g, n, xs.toArray, rfl, hB, h, Nat.le_refl _, hm, by simp; omega, ?_⟩⟩
  rw [Nat.mul_one]
  simp [← hn]
/-- A row of which the first k bytes are noughts' bytes. -/
def fil (c k : Nat) : List Value := List.replicate k (.int .u8 48) ++ List.replicate (c - k) (.int .u8 0)
theorem fil_len (c k : Nat) (h : k ≤ c) : (fil c k).length = c := by simp [fil]; omega
theorem fil_splice (c k q : Nat) (h : k + q ≤ c) : splice (fil c k) k (List.replicate q (.int .u8 48)) = fil c (k + q) := by
  unfold splice fil
  rw [List.take_left' (by simp), List.length_replicate, List.drop_append, List.length_replicate, List.drop_eq_nil_of_le (by simp), List.nil_append, List.drop_replicate, ← List.append_assoc, List.replicate_append_replicate]
  congr 2
  omega
theorem fil_at (c k j : Nat) (h : j < k) : (fil c k)[j]? = some (.int .u8 48) := by
  unfold fil
  rw [List.getElem?_append_left (by simpa using h), List.getElem?_replicate]
  simp [h]
theorem rep_one (q : Nat) : ∀ v ∈ List.replicate q (Value.int .u8 48), v.oneCell' = true := by
  intro v hv
  rw [List.eq_of_mem_replicate hv]; rfl

theorem cp_min1 {c : Nat} (h : 1 ≤ c) : (List.replicate 1 (Value.int .u8 48)).length = Nat.min 1 c := by
  rw [List.length_replicate]; exact (Nat.min_eq_left h).symm
theorem cp_fit (c : Nat) (h : 1 ≤ c) : 0 + (List.replicate 1 (Value.int .u8 48)).length ≤ (fil c 0).length := by
  rw [fil_len c 0 (by omega), List.length_replicate]; omega
theorem cp_src {w w1 : World} {b0 : Nat} (h : w.cell? ⟨b0, 0, none⟩ = some (.int .u8 48)) (hb0 : b0 < w.heap.size) (hb : Below w.heap.size w w1) : ∀ j v, (List.replicate 1 (Value.int .u8 48))[j]? = some v → w1.cell? ((⟨b0, 0, none⟩ : Addr).add j) = some v := by
  intro j v hj
  have : j = 0 := by
    have := (List.getElem?_eq_some_iff.1 hj).1
    simp at this; omega
  subst this
  simp at hj
  subst hj
  have e : (⟨b0, 0, none⟩ : Addr).add 0 = ⟨b0, 0, none⟩ := rfl
  rw [e]
  exact (hb.cell (p := ⟨b0, 0, none⟩) hb0).trans h
theorem own_base8 {w : World} {B B' e n : Nat} {v : Value} {xs : List Value} (h : w.ownsRow B e 1 v n xs) (hB : ∀ g, v.ownBlock = some g → B' ≤ g) : w.ownsRow B' e 1 v n xs := by
  obtain ⟨h1, h2⟩ := h
  refine ⟨h1, ?_⟩
  rcases h2 with h2 | ⟨g, cap, cur, a, b, c, d⟩
  · exact .inl h2
  · exact .inr ⟨g, cap, cur, a, hB g (by rw [a]; rfl), c, d⟩
theorem fil_made (c : Nat) : (madeCells (Value.int .u8 0).cells (c * 1)).toList = fil c 0 := by
  rw [show (Value.int .u8 0).cells = #[.int .u8 0] from rfl, toList_madeCells_one]
  simp [fil]
theorem fil_end (c : Nat) : fil c c = cellsOf (List.replicate c 48) := by simp [fil, cellsOf]

set_option maxRecDepth 50000 in
set_option maxHeartbeats 3200000 in
theorem rep_any (w : World) (b0 c : Nat) (hc1 : 1 ≤ c) (hc : c ≤ 1000) (hb0 : b0 < w.heap.size) (hcell : w.cell? ⟨b0, 0, none⟩ = some (.int .u8 48)) :
    Calls Tryz.prog 85 #[.slice (some ⟨b0, 0, none⟩) 1 1, .int .i64 c] w fun e w' => e = .returned (.slice (some ⟨w.heap.size, 0, none⟩) c c) ∧ w'.ownsRow w.heap.size 5 1 (.slice (some ⟨w.heap.size, 0, none⟩) c c) c (cellsOf (List.replicate c 48)) ∧ Below w.heap.size w w' := by
  obtain ⟨i0, hi, hz0, hz1, hz2⟩ := info_parts info5
  have HI := Lib.hid hi
  have HZ0 := Lib.hid hz0
  have HZ1 := Lib.hid hz1
  have HZ2 := Lib.hid hz2
  have H := Lib.hid (mul_any c w hc)
  have HC := Lib.hid hcell
  have h4 := wrap_u64_nat c (by omega)
  have h5 : IntKind.i64.wrap (c : Int) = c := IntWalk.i64_in _ (by omega)
  have hsz : (Tryz.prog.info? 5).map (·.size) = some 1 := by rw [HI.out]; simp [HZ1.out]
  have HSZ := Lib.hid hsz
  have hd1 : decide ((c : Int) < 0) = false := by simp
  have hd2 : decide ((9223372036854775807 : Int) < (c : Int)) = false := by simp; omega
  clear hi hz0 hz1 hz2 hcell hsz
  go_enter Tryz.func85, Tryz.ntmps85
  go_wp2_with (first | (go_at_call 100; refine H.out.mono ?_; rintro e w' ⟨rfl, rfl⟩) | (at_make; refine wpList_make_full _ rfl _ _ 28 rfl w.heap.size 5 i0 (.int .u8 0) 1 Tryz.underlying28 HI.out HZ0.out HZ1.out _ _ _ _ c rfl rfl rfl rfl (by rw [HZ2.out]; omega) (by unfold maxLen; omega) (Nat.le_refl _) ?_; intro w1 hown1 hg1; have hb1 := (Below.refl w.heap.size w).grown hg1 (Nat.le_refl _) (fun k hk => by cases hk); have HF1 : Hid (w1.heap[w.heap.size]? = some (.cells (fil c 0).toArray 5 (0, 0))) := (by rw [← fil_made c]; exact row_full hown1); clear hown1) | (refine wpList_copy_splice rfl (.tmp 31) (.tmp 32) 28 28 rfl 5 Tryz.underlying28 HSZ.out (some ⟨w.heap.size, 0, none⟩) (some ⟨b0, 0, none⟩) c c 1 1 rfl rfl w.heap.size 0 (fil c 0) 5 HF1.out (List.replicate 1 (.int .u8 48)) (cp_min1 hc1) (fun _ => ⟨rfl, _, rfl, cp_src HC.out hb0 hb1⟩) (cp_fit c hc1) (rep_one 1) w.heap.size w hb1 (Nat.le_refl _) ?_; intro w2 hw2 hb2))
  rw [show splice (fil c 0) 0 (List.replicate 1 (.int .u8 48)) = fil c 1 from fil_splice c 0 1 hc1] at hw2
  have HW2 := Lib.hid hw2
  have HB2 := Lib.hid hb2
  clear HF1 hb1 hg1 hw2 hb2
  go_loopw [8] (fun nv wr => ∃ k : Nat, 1 ≤ k ∧ k ≤ c ∧ nv = .int .i64 k ∧ Hid (wr.heap[w.heap.size]? = some (.cells (fil c k).toArray 5 (0, 0))) ∧ Below w.heap.size w wr) (fun nv _ => c - (intOf nv).toNat)
  case atStart => exact ⟨1, by omega, hc1, rfl, HW2.out, HB2.out⟩
  case round =>
    obtain ⟨k, hk1, hkc, rfl, hh, hbel⟩ := hrel
    by_cases hlt : k < c
    · obtain ⟨q, hq, hq1, hqc⟩ : ∃ q, q = min k (c - k) ∧ 1 ≤ q ∧ k + q ≤ c := ⟨min k (c - k), rfl, by omega, by omega⟩
      have HQ := Lib.hid hq
      have HBEL := Lib.hid hbel
      have hmin : (List.replicate q (Value.int .u8 48)).length = Nat.min k (c - k) := by rw [List.length_replicate]; exact hq
      have hfit : k + (List.replicate q (Value.int .u8 48)).length ≤ (fil c k).length := by rw [List.length_replicate, fil_len c k hkc]; exact hqc
      have hsrc : ∀ j v, (List.replicate q (Value.int .u8 48))[j]? = some v → wr.drew.cell? ((⟨w.heap.size, 0, none⟩ : Addr).add j) = some v := by
        intro j v hj
        have hjq : j < q := by
          have := (List.getElem?_eq_some_iff.1 hj).1
          simpa using this
        have hv : v = .int .u8 48 := by
          rw [List.getElem?_replicate, if_pos hjq] at hj
          injection hj with hj; exact hj.symm
        have e : (⟨w.heap.size, 0, none⟩ : Addr).add j = ⟨w.heap.size, j, none⟩ := by unfold Addr.add; split <;> simp_all
        rw [e, hv]
        show wr.cell? ⟨w.heap.size, j, none⟩ = _
        rw [cell_of_row wr w.heap.size j _ _ (0, 0) hh]
        simp [fil_at c k j (by omega)]
      have HMIN := Lib.hid hmin
      have HFIT := Lib.hid hfit
      have HSRC := Lib.hid hsrc
      have hkc2 : (k : Int) < (c : Int) := by omega
      have hne : (k : Int) ≠ (c : Int) := by omega
      have hne2 : k ≠ c := by omega
      have hne3 : ¬ c = k := by omega
      have hwr : IntKind.i64.wrap ((k : Int) + (q : Int)) = (k : Int) + (q : Int) := IntWalk.i64_in _ (by omega)
      clear hq hmin hfit hsrc hbel
      go_wp2
      go_region_law ((refine step_copy_splice rfl (.tmp 41) (.tmp 44) 28 28 rfl 5 Tryz.underlying28 HSZ.out (some ⟨w.heap.size, k, none⟩) (some ⟨w.heap.size, 0, none⟩) (c - k) (c - k) k c (by simp [Act.eval, Act.put]) (by simp [Act.eval, Act.put]) w.heap.size k (fil c k) 5 hh.out (List.replicate q (.int .u8 48)) HMIN.out (fun _ => ⟨rfl, _, rfl, HSRC.out⟩) HFIT.out (rep_one q) w.heap.size w HBEL.out.drew (Nat.le_refl _) ?_; intro w3 hw3 hb3))
      all_goals
        have HW3 : Hid (w3.heap[w.heap.size]? = some (.cells (fil c (k + q)).toArray 5 (0, 0))) := (by rw [← fil_splice c k q hqc]; exact hw3)
        have HB3 := Lib.hid hb3
        clear hw3 hb3 hh
        go_wp2
        simp [Act.put]
        go_roundw
        case rel => exact ⟨k + q, by omega, hqc, by go_num, HW3, HB3.out⟩
        case measure => simp [intOf]; omega
    · obtain rfl : k = c := by omega
      have HB := Lib.hid hbel
      clear hbel
      go_wp2
      go_ret
      exact ⟨rfl, row_of_full (by rw [← fil_end]; exact hh) (Nat.le_refl _) (by rw [cellsOf_len]; simp) (by unfold maxLen; omega), HB.out⟩

set_option maxRecDepth 50000 in
set_option maxHeartbeats 800000 in
theorem nou_any (w : World) (c : Nat) (hc1 : 1 ≤ c) (hc : c ≤ 1000) :
    Calls Tryz.prog 72 #[.int .i64 c] w fun e w' => e = .returned (.slice (some ⟨w.heap.size + 1, 0, none⟩) c c) ∧ w'.ownsRow w.heap.size 5 1 (.slice (some ⟨w.heap.size + 1, 0, none⟩) c c) c (cellsOf (List.replicate c 48)) ∧ Below w.heap.size w w' := by
  have h1 := rep_any (w.alloc (.cells #[.int .u8 48] 5)) w.heap.size c hc1 hc (by simp) (World.cell?_alloc_at _ _ _ _ rfl)
  rw [World.size_alloc] at h1
  have H1 := Lib.hid h1
  clear h1
  go_enter Tryz.func72, Tryz.ntmps72
  go_wp2_with (go_at_call 85; refine H1.out.mono ?_; rintro e w1 ⟨rfl, ho, hb⟩)
  go_ret
  exact ⟨rfl, own_base8 ho (by intro j hj; simp [Value.ownBlock] at hj; omega), ((Below.refl w.heap.size w).alloc (Nat.le_refl _) _).trans (hb.mono (by omega))⟩
end Go.Proofs.YtndpbhmokobbpaaGreatDoor
