/-
  The walk of the program's function that divides in place. Conditions: where the bits lie, and the lengths that are typed.
-/
import Derived.Test.YtpneopldbeefhaaWpoly
import Derived.Test.YtpneopldbeefhaaOwnb
import Derived.IntWalk
namespace Go.Proofs.Ytpneopldbeefhaa
open Go.RowKit
set_option linter.unusedVariables false

/-- The first k bits from place i on turned as the divisor says. -/
def mixk (p l : List UInt8) (i k : Nat) : List UInt8 := l.take i ++ xrl ((l.drop i).take k) (p.take k) ++ l.drop (i + k)
theorem mixk_zero (p l : List UInt8) (i : Nat) : mixk p l i 0 = l := by simp [mixk, xrl]
theorem mixk_end (p l : List UInt8) (i : Nat) : mixk p l i p.length = mixU p l i := by simp [mixk, mixU]
theorem mixk_len (p l : List UInt8) (i k : Nat) (h : i + k ≤ l.length) (hk : k ≤ p.length) : (mixk p l i k).length = l.length := by
  simp [mixk, xrl]; omega
theorem mixk_get (p l : List UInt8) (i k : Nat) (h : i + k < l.length) (hk : k < p.length) : (mixk p l i k).getD (i + k) 0 = l.getD (i + k) 0 := by
  unfold mixk
  have e1 : (l.take i ++ xrl ((l.drop i).take k) (p.take k)).length = i + k := by simp [xrl]; omega
  rw [List.getD_eq_getElem?_getD, List.getElem?_append_right (by omega), e1, Nat.sub_self, List.getElem?_drop, List.getD_eq_getElem?_getD]
  rfl
theorem mixk_step (p l : List UInt8) (i k : Nat) (h : i + k < l.length) (hk : k < p.length) : (mixk p l i k).set (i + k) (xr (l.getD (i + k) 0) (p.getD k 0)) = mixk p l i (k + 1) := by
  unfold mixk
  have e1 : (l.take i ++ xrl ((l.drop i).take k) (p.take k)).length = i + k := by simp [xrl]; omega
  have e2 : (l.drop i).take (k + 1) = (l.drop i).take k ++ [l.getD (i + k) 0] := by
    have hd : k < (l.drop i).length := by simp; omega
    rw [List.take_add_one, List.getElem?_eq_getElem hd]
    simp [List.getD_eq_getElem?_getD, List.getElem?_eq_getElem h]
  have e3 : p.take (k + 1) = p.take k ++ [p.getD k 0] := by
    rw [List.take_add_one, List.getElem?_eq_getElem hk]
    simp [List.getD_eq_getElem?_getD, List.getElem?_eq_getElem hk]
  rw [List.set_append, if_neg (by omega), e1, Nat.sub_self, e2, e3]
  have e4 : xrl ((l.drop i).take k ++ [l.getD (i + k) 0]) (p.take k ++ [p.getD k 0]) = xrl ((l.drop i).take k) (p.take k) ++ [xr (l.getD (i + k) 0) (p.getD k 0)] := by
    unfold xrl
    rw [List.zipWith_append (by simp; omega)]
    rfl
  rw [e4, List.drop_eq_getElem_cons h, List.set_cons_zero]
  simp [Nat.add_assoc]
theorem xr_bit : ∀ (a b : UInt8), isBit (xr a b) = true := by
  intro a b; unfold xr; split <;> rfl
theorem xr_48 {c : UInt8} (h : isBit c = true) : xr c 48 = c := by
  rcases isBit_cases h with rfl | rfl <;> rfl
theorem xrl_bits : ∀ (a b : List UInt8), (xrl a b).all isBit = true
  | [], b => by simp [xrl]
  | a :: l, [] => by simp [xrl]
  | a :: l, b :: m => by
    have := xrl_bits l m
    unfold xrl at this ⊢
    rw [List.zipWith_cons_cons, List.all_cons, this, xr_bit]; rfl
theorem all_take {l : List UInt8} (h : l.all isBit = true) (k : Nat) : (l.take k).all isBit = true := by
  rw [List.all_eq_true] at h ⊢; exact fun x hx => h x (List.mem_of_mem_take hx)
theorem all_drop {l : List UInt8} (h : l.all isBit = true) (k : Nat) : (l.drop k).all isBit = true := by
  rw [List.all_eq_true] at h ⊢; exact fun x hx => h x (List.mem_of_mem_drop hx)
theorem mixU_bits (p l : List UInt8) (i : Nat) (h : l.all isBit = true) : (mixU p l i).all isBit = true := by
  unfold mixU
  rw [List.all_append, List.all_append, all_take h, xrl_bits, all_drop h]; rfl
theorem redU_bits (p l : List UInt8) (h : l.all isBit = true) : ∀ i, (redU p l i).all isBit = true
  | 0 => h
  | i + 1 => by
    unfold redU
    split
    · exact mixU_bits _ _ _ (redU_bits p l h i)
    · exact redU_bits p l h i
theorem remU_bits (p l : List UInt8) (h : l.all isBit = true) : (remU p l).all isBit = true := all_drop (redU_bits p l h _) _
theorem get_bit {l : List UInt8} (h : l.all isBit = true) {k : Nat} (hk : k < l.length) : isBit (l.getD k 0) = true := by
  rw [List.getD_eq_getElem?_getD, List.getElem?_eq_getElem hk]
  exact List.all_eq_true.1 h _ (List.getElem_mem hk)

/-- The other bit. -/
def flip (c : UInt8) : UInt8 := if c = 48 then 49 else 48
theorem xr_49 {c : UInt8} (h : isBit c = true) : xr c 49 = flip c := by
  rcases isBit_cases h with rfl | rfl <;> rfl
set_option maxHeartbeats 400000 in
theorem tur_any (c : UInt8) (w : World) (h : isBit c = true) :
    Calls Try.prog 44 #[.int .u8 (c.toNat : Int)] w fun e w' => e = .returned (.int .u8 ((flip c).toNat : Int)) ∧ w = w' := by
  rcases isBit_cases h with rfl | rfl
  · have hx : bits .xor .u8 48 1 = 49 := by decide +kernel
    go_enter Try.func44, Try.ntmps44
    go_wp2
    go_ret
    exact ⟨rfl, rfl⟩
  · have hx : bits .xor .u8 49 1 = 48 := by decide +kernel
    go_enter Try.func44, Try.ntmps44
    go_wp2
    go_ret
    exact ⟨rfl, rfl⟩

theorem grown_trans8 {a b c : World} {row : Option Nat} (h : a.grownBy b row) (k : b.grownBy c row) : a.grownBy c row :=
  ⟨k.os.trans h.os, k.tape.trans h.tape, k.output.trans h.output, Nat.le_trans h.size k.size, fun i hi hn => (k.block i (Nat.lt_of_lt_of_le hi h.size) hn).trans (h.block i hi hn)⟩
theorem grown_alloc8 {a b : World} {row : Option Nat} (h : a.grownBy b row) (o : Obj) : a.grownBy (b.alloc o) row := by
  refine grown_trans8 h ⟨rfl, rfl, rfl, by simp, fun i hi _ => ?_⟩
  exact Below.heap_alloc _ _ _ hi
theorem grown_iter8 {a b : World} {row : Option Nat} {k p : Nat} {s : ByteArray} (h : a.grownBy b row) (hk : b.heap[k]? = some (.stringIter s p)) (hka : a.heap.size ≤ k) (q : Nat) : a.grownBy (b.iterAt k s q) row := by
  refine ⟨h.os, h.tape, h.output, by rw [Lib.iterAt_size]; exact h.size, fun i hi hn => ?_⟩
  rw [Lib.iterAt_other _ _ _ _ _ (by omega)]
  exact h.block i hi hn

set_option maxHeartbeats 400000 in
theorem div_few (p : ByteArray) (A : Option Addr) (n cap : Nat) (w : World) (hp : p.size ≤ 1000) (hn : n ≤ 2000) (h : n + 1 < p.size) :
    Calls Try.prog 39 #[.string p, .slice A n cap] w fun e w' => e = .returned (.slice none 0 0) ∧ w = w' := by
  have hg : (n : Int) - (p.size : Int) < -1 := by omega
  go_enter Try.func39, Try.ntmps39
  go_wp2
  go_ret
  exact ⟨rfl, rfl⟩

theorem set_self (l : List UInt8) (j : Nat) (h : j < l.length) : l.set j (l.getD j 0) = l := by
  rw [List.getD_eq_getElem?_getD, List.getElem?_eq_getElem h]; simp
/-- What divide leaves. -/
def DivPost (p : ByteArray) (w : World) (g cap n : Nat) (l : List UInt8) (e : Ending) (w' : World) : Prop :=
  e = .returned (.slice (some ⟨g, n - (p.size - 1), none⟩) (p.size - 1) (cap - (n - (p.size - 1)))) ∧
  OwnB w' g (redU p.data.toList l (n - (p.size - 1))) ∧ w.grownBy w' (some g)

set_option maxHeartbeats 3200000 in
theorem div_any (p : ByteArray) (w : World) (g cap n : Nat) (l : List UInt8) (hl : l.length = n) (hp1 : 2 ≤ p.size) (hp : p.size ≤ 9) (hpb : p.data.toList.all isBit = true) (hlb : l.all isBit = true) (hn : n ≤ 2000) (hge : p.size - 1 ≤ n) (hcap : n ≤ cap)
    (h : OwnB w g l) :
    Calls Try.prog 39 #[.string p, .slice (some ⟨g, 0, none⟩) n cap] w (DivPost p w g cap n l) := by
  obtain ⟨m, hpm⟩ : ∃ m, p.size = m + 1 := ⟨p.size - 1, by omega⟩
  have hlp : p.data.toList.length = m + 1 := by simpa using hpm
  have hm : m ≤ 8 := by omega
  have hm1 : 1 ≤ m := by omega
  have hgn : m ≤ n := by omega
  have HLP := Lib.hid hlp
  have HL := Lib.hid hl
  have HPB := Lib.hid hpb
  have HLB := Lib.hid hlb
  have HO := Lib.hid h
  have HPM := Lib.hid hpm
  have hg0 : decide ((n : Int) - ((m : Int) + 1) < -1) = false := by simp; omega
  have hg1 : ¬ (n : Int) - ((m : Int) + 1) < -1 := by omega
  clear hlp hl hpb hlb h hge
  go_enter Try.func39, Try.ntmps39
  go_wp2
  go_loopw [18] (fun iv wr => ∃ i : Nat, i ≤ n - m ∧ iv = .int .i64 i ∧ OwnB wr g (redU p.data.toList l i) ∧ w.grownBy wr (some g)) (fun iv _ => n - m - (intOf iv).toNat)
  case atStart => exact ⟨0, Nat.zero_le _, rfl, HO.out, World.grownBy.refl w _⟩
  case round =>
    obtain ⟨i, hi, rfl, hown, hgr⟩ := hrel
    have hLl := redU_len p.data.toList l (by rw [HLP.out]; omega) i (by rw [HLP.out, HL.out]; omega)
    rw [HL.out] at hLl
    by_cases hlt : i < n - m
    · have hLb := redU_bits p.data.toList l HLB.out i
      have hcb := get_bit hLb (k := i) (by omega)
      have hc := hown.cellAt i (by omega)
      have hR : redU p.data.toList l (i + 1) = if (redU p.data.toList l i).getD i 0 = 49 then mixU p.data.toList (redU p.data.toList l i) i else redU p.data.toList l i := rfl
      have HR := Lib.hid hR
      have HG := Lib.hid hgr
      have HLL := Lib.hid hLl
      have HLBB := Lib.hid hLb
      have HOWN := Lib.hid hown
      clear hR hgr hLl hLb hown
      have hi2 : (i : Int) < (n : Int) - ((m : Int) + 1) + 1 := by omega
      have hin : i < n := by omega
      generalize redU p.data.toList l i = L at *
      generalize hd : L.getD i 0 = d at *
      have HD := Lib.hid hd
      clear hd
      rcases isBit_cases hcb with rfl | rfl
      · have hc' : wr.cell? ⟨g, i, none⟩ = some (.int .u8 48) := hc
        clear hc hcb
        go_wp2
        go_roundw
        case rel => exact ⟨i + 1, by omega, by go_num, by rw [HR.out, if_neg (by decide)]; exact HOWN.out, HG.out⟩
        case measure => simp [intOf]; omega
      · have hc' : wr.cell? ⟨g, i, none⟩ = some (.int .u8 49) := hc
        clear hc hcb
        obtain ⟨wo, rfl⟩ : ∃ wo : World, wo = wr := ⟨_, rfl⟩
        have hzs := HG.out.size
        go_wp2
        go_loopw [] (fun w' => ∃ k : Nat, k ≤ m + 1 ∧ w'.heap[wo.heap.size]? = some (.stringIter p k) ∧ OwnB w' g (mixk p.data.toList L i k) ∧ w.grownBy w' (some g)) (fun w' => m + 1 - w'.iterPos wo.heap.size)
        case atStart =>
          refine ⟨0, Nat.zero_le _, heap_alloc_new wo _, ?_, grown_alloc8 HG.out _⟩
          rw [mixk_zero]
          exact HOWN.out.alloc _
        case round =>
          obtain ⟨k, hk, hit, hown, hgr⟩ := hrel
          by_cases hkm : k < m + 1
          · have hkp : k < p.size := by have := HPM.out; omega
            have hkl : k < p.data.toList.length := by rw [HLP.out]; exact hkm
            have hikL : i + k < L.length := by rw [HLL.out]; omega
            have hdb := all_at k hkp HPB.out
            have hnx0 := fun ty => Lib.run_next_ascii_at (P := Try.prog) wr wo.heap.size p k ty hit hkp (by rcases isBit_cases hdb with e | e <;> rw [e] <;> decide)
            have hit2 := Lib.iterAt_heap wr wo.heap.size p k (k + 1) hit
            have hown2 := hown.iterAt hit (k + 1)
            have hgr2 := grown_iter8 hgr hit hzs (k + 1)
            have hpos := iterPos_of hit
            have hget := mixk_get p.data.toList L i k hikL hkl
            have hst := mixk_step p.data.toList L i k hikL hkl
            have hml := mixk_len p.data.toList L i k (by omega) (by omega)
            have hyb := get_bit HLBB.out (k := i + k) hikL
            rw [poly_last p k hkp] at hst
            have hcy := hown2.cellAt (i + k) (by rw [hml]; exact hikL)
            rw [hget] at hcy
            have hfz := hown2.frozenAt (i + k) (by rw [hml]; exact hikL)
            have hsto := hown2.stored (i + k) (by rw [hml]; exact hikL)
            have hne := hown2.ne_iter hit2
            have hlt2 : wo.heap.size < (wr.iterAt wo.heap.size p (k + 1)).heap.size := (Array.getElem?_eq_some_iff.1 hit2).1
            have HST := Lib.hid hst
            have HSELF := Lib.hid (set_self (mixk p.data.toList L i k) (i + k) (by rw [hml]; exact hikL))
            have HGET := Lib.hid hget
            have HPOS := Lib.hid hpos
            have HSTO := Lib.hid hsto
            have HOWN2 := Lib.hid hown2
            have HGR2 := Lib.hid hgr2
            have HIT2 := Lib.hid hit2
            clear hst hget hpos hsto hown2 hown hgr hit hgr2 hit2 hml hkl
            generalize wr.iterAt wo.heap.size p (k + 1) = W2 at *
            generalize p[k] = dd at *
            generalize L.getD (i + k) 0 = y at *
            have hik : (i : Int) + (k : Int) < (n : Int) := by omega
            rcases isBit_cases hdb with rfl | rfl
            · have hnx : ∀ ty, (Instr.next (.pointer (some ⟨wo.heap.size, 0, none⟩)) true ty).run Try.prog wr = .ok (.tuple #[.bool true, .int .i64 k, .int .i32 48]) W2 := hnx0
              clear hnx0 hdb
              go_wp2
              go_roundw
              case rel => exact ⟨k + 1, by omega, HIT2.out, by rw [← HST.out, xr_48 hyb, ← HGET.out, HSELF.out]; exact HOWN2.out, HGR2.out⟩
              case measure => rw [iterPos_of HIT2.out, HPOS.out]; omega
            · have hnx : ∀ ty, (Instr.next (.pointer (some ⟨wo.heap.size, 0, none⟩)) true ty).run Try.prog wr = .ok (.tuple #[.bool true, .int .i64 k, .int .i32 49]) W2 := hnx0
              have HT := Lib.hid (tur_any y W2 hyb)
              have hst2 : (mixk p.data.toList L i k).set (i + k) (flip y) = mixk p.data.toList L i (k + 1) := by rw [← xr_49 hyb]; exact HST.out
              have hS := HSTO.out (flip y)
              rw [hst2] at hS
              have HS := Lib.hid hS
              clear hnx0 hdb hS hst2
              go_wp2_with (go_at_call 44; refine HT.out.mono ?_; rintro e w' ⟨rfl, rfl⟩)
              have hblk := (HS.out.2.block wo.heap.size hlt2 (fun e => hne (by injection e))).trans HIT2.out
              go_roundw
              case rel => exact ⟨k + 1, by omega, hblk, HS.out.1, grown_trans8 HGR2.out HS.out.2⟩
              case measure => rw [iterPos_of hblk, HPOS.out]; omega
          · have hkp : ¬ k < p.size := by have := HPM.out; omega
            have hnx : ∀ ty, (Instr.next (.pointer (some ⟨wo.heap.size, 0, none⟩)) true ty).run Try.prog wr = _ := fun ty => Lib.run_next_end_at wr wo.heap.size p k ty hit hkp
            obtain rfl : k = p.data.toList.length := by rw [HLP.out]; omega
            rw [mixk_end] at hown
            have HO2 := Lib.hid hown
            have HG2 := Lib.hid hgr
            clear hown hgr hit
            go_wp2
            go_roundw
            case rel => exact ⟨i + 1, by omega, by go_num, by rw [HR.out]; simpa using HO2.out, HG2.out⟩
            case measure => simp [intOf]; omega
    · obtain rfl : i = n - m := by omega
      have q1 : ((n : Int) - ((m : Int) + 1) + 1).toNat = n - m := by omega
      have q2 : ¬ ((n - m : Nat) : Int) < (n : Int) - ((m : Int) + 1) + 1 := by omega
      have q3 : (0 : Int) ≤ (n : Int) - ((m : Int) + 1) + 1 := by omega
      have q4 : (n : Int) - ((m : Int) + 1) + 1 ≤ (n : Int) := by omega
      have q5 : (n : Int) - ((m : Int) + 1) + 1 ≤ (cap : Int) := by omega
      have q6 : (n : Int) - ((m : Int) + 1) + 1 ≠ (cap : Int) := by omega
      have HO2 := Lib.hid hown
      have HG2 := Lib.hid hgr
      clear hown hgr hLl
      go_wp2
      go_ret
      have e1 : p.size - 1 = m := by have := HPM.out; omega
      unfold DivPost
      rw [e1]
      exact ⟨by rw [show n - (n - m) = m from by omega]; rfl, HO2.out, HG2.out⟩
end Go.Proofs.Ytpneopldbeefhaa
