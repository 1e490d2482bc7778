/-
  The walk of the model's shares by rounds. Conditions: where the list lies, and the bounds that are typed.
-/
import Derived.Test.YtdnmoedpajkebaaWgs
import Derived.Test.YtdnmoedpajkebaaFss
import Derived.Test.YtdnmoedpajkebaaWpick
import Derived.RegionTactic
import Derived.ChangeAlike
import Derived.BigRegion
namespace Go.Proofs.Ytdnmoedpajkebaa
open Go.RowKit
set_option linter.unusedVariables false

/-- Places as numbers. -/
def nat (O : List Nat) : List Int := O.map fun (j : Nat) => (j : Int)
theorem nat_len (O : List Nat) : (nat O).length = O.length := by simp [nat]
theorem nat_snoc (O : List Nat) (j : Nat) : nat (O ++ [j]) = nat O ++ [(j : Int)] := by simp [nat]
theorem nat_get (O : List Nat) (i : Nat) (h : i < O.length) : (nat O).getD i 0 = (O.getD i 0 : Nat) := by
  simp [nat, List.getD_eq_getElem?_getD, List.getElem?_eq_getElem h]
theorem take_snocN (O : List Nat) (i : Nat) (h : i < O.length) : O.take (i + 1) = O.take i ++ [O.getD i 0] := by
  rw [List.take_add_one, List.getElem?_eq_getElem h]
  simp [List.getD_eq_getElem?_getD, List.getElem?_eq_getElem h]
theorem mem_getD (O : List Nat) (i : Nat) (h : i < O.length) : O.getD i 0 ∈ O := by
  rw [List.getD_eq_getElem?_getD, List.getElem?_eq_getElem h]; exact List.getElem_mem h
def lenW (v : Value) : Nat := match v with | .slice _ n _ => n | _ => 0
theorem own_cell {w : World} {B g c : Nat} {xs : List Int} (h : OwnL w B (.slice (some ⟨g, 0, none⟩) xs.length c) xs) (j : Nat) (hj : j < xs.length) : w.cell? ⟨g, j, none⟩ = some (.int .i64 (xs.getD j 0)) := by
  have := (OwnI.at_ (show OwnI w B g c xs from h)).2 j hj
  rwa [Nat.zero_add] at this

theorem Rds.lies5 {w : World} {v : Value} {l : List Int} (h : Rds w v l) : Lies w.heap.size v l := by
  obtain ⟨A, c, rfl, h1⟩ := h
  intro h0 g hg
  obtain ⟨b, off, rfl, hat⟩ := h1 h0
  have e : b = g := by simpa [Value.ownBlock] using hg
  subst e; exact hat.1
theorem grown_set5 {w w' : World} {g i : Nat} {u : Value} (h : w.grownBy w' (some g)) : w.grownBy (w'.setCell ⟨g, i, none⟩ u) (some g) :=
  ⟨h.os, h.tape, h.output, by simpa [World.setCell] using h.size, fun j hj hn => (Below.heap_setCell w' ⟨g, i, none⟩ u j (fun e => hn (by rw [e]))).trans (h.block j hj hn)⟩
theorem clo_ub {l : List Int} (hl : okL l = true) (O : List Nat) (e : Int) : clo l O e ≤ 30 * (O.length : Int) := by
  induction O with
  | nil => simp [clo, sumI]
  | cons j O ih =>
    have := lg_bd hl j
    unfold clo at *
    by_cases h1 : lg l j ≤ e
    · simp only [List.filter_cons, h1, decide_true, if_true, List.map_cons, sumI_cons, List.length_cons]; omega
    · simp only [List.filter_cons, h1, decide_false, Bool.false_eq_true, if_false, List.length_cons]; omega
theorem out_next {l : List Int} {t e : Int} {O : List Nat} (hO : opn l t = O) (hte : t ≤ e) (j : Nat) (hj : j < l.length) : (if j ∈ O ∧ lg l j ≤ e then lg l j else outF l t j) = outF l e j := by
  subst hO
  unfold outF
  by_cases h1 : t < lg l j
  · have hm := opn_mem hj h1
    by_cases h2 : lg l j ≤ e
    · rw [if_pos ⟨hm, h2⟩, if_pos h2]
    · rw [if_neg (fun h => h2 h.2), if_neg h2, if_neg (by omega)]
  · have h2 : lg l j ≤ e := by omega
    have h3 : ¬ (j ∈ opn l t ∧ lg l j ≤ e) := fun h => h1 (opn_lt h.1).2
    rw [if_neg h3, if_pos (by omega), if_pos h2]
theorem grown_drew5 {w w' : World} {row : Option Nat} (h : w.grownBy w' row) : w.grownBy w'.drew row := ⟨h.os, h.tape, h.output, h.size, h.block⟩
theorem flt_snoc (l : List Int) (e : Int) (a : List Nat) (j : Nat) : ((a ++ [j]).filter fun j => decide (e < lg l j)) = if e < lg l j then (a.filter fun j => decide (e < lg l j)) ++ [j] else (a.filter fun j => decide (e < lg l j)) := by
  rw [List.filter_append]
  by_cases h : e < lg l j
  · rw [if_pos h]; simp [h]
  · rw [if_neg h]; simp [h]
/-- What lies in memory: the shares so far, and the places that are open. -/
structure ShW (l : List Int) (w : World) (X : List Int) (O : List Nat) (ov : Value) (wr : World) : Prop where
  xl : X.length = l.length
  out : wr.ownsRow w.heap.size 3 1 (.slice (some ⟨w.heap.size, 0, none⟩) l.length l.length) l.length (ints X)
  op : OwnL wr (w.heap.size + 1) ov (nat O)
  bel : Below w.heap.size w wr
  sz : w.heap.size + 1 ≤ wr.heap.size
section
variable {l X : List Int} {w wr wr2 : World} {O : List Nat} {ov : Value}
theorem ShW.below (h : ShW l w X O ov wr) (hb : Below wr.heap.size wr wr2) : ShW l w X O ov wr2 :=
  ⟨h.xl, own_below h.out hb (fun g hg => (h.out.lt g hg).2), OwnL.below h.op hb (Nat.le_refl _), h.bel.trans (hb.mono (by have := h.sz; omega)), by have := h.sz; have := hb.size; omega⟩
theorem ShW.outCell (h : ShW l w X O ov wr) (j : Nat) (hj : j < l.length) : wr.cell? ⟨w.heap.size, j, none⟩ = some (.int .i64 (X.getD j 0)) := by
  rw [h.out.cellAt j (by omega), ints_get X j (by have := h.xl; omega)]
theorem ShW.put (h : ShW l w X O ov wr) (j : Nat) (hj : j < l.length) (x : Int) : ShW l w (X.set j x) O ov (wr.setCell ⟨w.heap.size, j, none⟩ (.int .i64 x)) := by
  have hst := h.out.stored j (.int .i64 x)
  rw [ints_set] at hst
  refine ⟨by rw [List.length_set]; exact h.xl, hst.1, World.ownsRow.kept h.op hst.2 ?_, below_grown h.bel hst.2 (Nat.le_refl _) (by have := h.sz; omega), by have := h.sz; simp [World.setCell]; omega⟩
  cases hob : ov.ownBlock with
  | none => exact .inl rfl
  | some k => exact .inr (by have := (World.ownsRow.lt h.op k hob).1; simp; omega)
end
theorem set_getD (X : List Int) (j k : Nat) (x : Int) (hj : j < X.length) : (X.set j x).getD k 0 = if k = j then x else X.getD k 0 := by
  rw [List.getD_eq_getElem?_getD, List.getD_eq_getElem?_getD, List.getElem?_set]
  by_cases h : j = k
  · subst h; simp [hj]
  · rw [if_neg h, if_neg (fun e => h e.symm)]
theorem mem_take_succ {O : List Nat} {i j : Nat} (hi : i < O.length) : j ∈ O.take (i + 1) ↔ j ∈ O.take i ∨ j = O.getD i 0 := by
  rw [take_snocN O i hi, List.mem_append]; simp

set_option maxHeartbeats 6400000 in
set_option maxRecDepth 20000 in
theorem ssh_any (room : Int) (w : World) (v : Value) (l : List Int) (hv : Rds w v l) (hr : 0 ≤ room ∧ room ≤ 200) (hl : okL l = true) :
    Calls Try.prog 16 #[.int .i64 room, v] w (RowPost (shaR room l) w) := by
  have hlen := okL_len hl
  have hsb : shaB room l = true := by simp [shaB, roomB, hr, hl]
  have HVB : Hid (∀ wr, Below w.heap.size w wr → Rds wr v l) := Lib.hid (fun wr hb => hv.below hb (Rds.lies5 hv))
  obtain ⟨A, c, rfl, hA⟩ := hv
  have HA := Lib.hid hA
  have HL := Lib.hid hl
  have HSB := Lib.hid hsb
  have HROOM := Lib.hid hr
  obtain ⟨i0, hi, hz0, hz1, hz2⟩ := info_parts info3
  have HI := Lib.hid hi
  have HZ0 := Lib.hid hz0
  have HZ1 := Lib.hid hz1
  have HZ2 := Lib.hid hz2
  clear hA hl hsb hi hz0 hz1 hz2
  go_enter Try.func16, Try.ntmps16
  go_wp2_with (at_make; refine wpList_make_full _ rfl _ _ 22 rfl w.heap.size 3 i0 (.int .i64 0) 1 Try.underlying22 HI.out HZ0.out HZ1.out _ _ _ _ l.length rfl rfl rfl rfl (by rw [HZ2.out]; omega) (by unfold maxLen; omega) (Nat.le_refl _) ?_; intro w1 hown1 hg1; have hb1 := (Below.refl w.heap.size w).grown hg1 (Nat.le_refl _) (fun k hk => by cases hk))
  have hz1 : w.heap.size + 1 ≤ w1.heap.size := (hown1.lt _ rfl).2
  have HW1 : Hid (ShW l w (List.replicate l.length 0) [] (.slice (some ⟨w1.heap.size, 0, none⟩) 0 0) (w1.alloc (.cells #[] 3))) := Lib.hid
    { xl := by simp
      out := by
        have e : (madeCells (Value.int .i64 0).cells (l.length * 1)).toList = ints (List.replicate l.length 0) := by
          rw [show (Value.int .i64 0).cells = #[.int .i64 0] from rfl, toList_madeCells_one]
          simp [ints]
        rw [← e]; exact hown1.alloc _
      op := OwnL.empty w1 _ hz1
      bel := hb1.alloc (by omega) _
      sz := by simp; omega }
  clear hown1 hg1 hb1
  go_loopw [6, 7] (fun sv iv wr => ∃ k : Nat, k ≤ l.length ∧ iv = .int .i64 k ∧ ShW l w (List.replicate l.length 0) (List.range k) sv wr) (fun _ iv _ => l.length - (intOf iv).toNat)
  case atStart => exact ⟨0, Nat.zero_le _, rfl, HW1.out⟩
  case round =>
    clear HW1 hz1
    obtain ⟨k, hk, rfl, hw⟩ := hrel
    obtain ⟨As, cs, hsv⟩ := hw.op.form
    subst hsv
    have hrl : (nat (List.range k)).length = k := by simp [nat]
    have HWW := Lib.hid hw
    rw [hrl] at HWW
    rw [hrl]
    by_cases hlt : k < l.length
    · have hz := hw.sz
      clear hw
      go_wp2_with (at_builtin; refine append_oneI rfl (.tmp 23) (.tmp 25) rfl (w.heap.size + 1) _ (nat (List.range k)) (k : Int) rfl rfl HWW.out.op (by omega) hz ?_; intro A9 c9 w9 ho9 hg9 hb9 hz9)
      go_roundw
      case rel =>
        refine ⟨k + 1, by omega, by go_num, HWW.out.xl, own_below HWW.out.out hb9 (fun g hg => by simp [Value.ownBlock] at hg; omega), ?_, HWW.out.bel.trans (hb9.mono (by omega)), by omega⟩
        rw [List.range_succ, nat_snoc]
        rw [hrl] at ho9
        exact ho9
      case measure => simp [intOf]; omega
    · obtain rfl : k = l.length := by omega
      clear hw hrl
      go_wp2
      go_loopw [0, 6] (fun rv sv wr => ∃ (t : Int) (X : List Int), rv = .int .i64 (room - closed l t) ∧ ShInv room l t ∧ ShW l w X (opn l t) sv wr ∧ ∀ j, j < l.length → X.getD j 0 = outF l t j) (fun _ sv _ => lenW sv)
      case atStart =>
        refine ⟨-1, List.replicate l.length 0, by rw [closed_first HL.out]; simp, ShInv.first HROOM.out.1 HL.out, by rw [opn_first HL.out]; exact HWW.out, fun j hj => ?_⟩
        have := lg_bd HL.out j
        unfold outF
        rw [if_neg (by omega), List.getD_eq_getElem?_getD]
        simp [hj]
      case round =>
        clear HWW
        obtain ⟨t, X, rfl, hinv, hw, hX⟩ := hrel
        obtain ⟨w2, hw2⟩ : ∃ w2, w2 = wr := ⟨wr, rfl⟩
        subst hw2
        obtain ⟨As, cs, hsv⟩ := hw.op.form
        subst hsv
        have hnl := nat_len (opn l t)
        have hol := opn_len l t
        have HINV := Lib.hid hinv
        have HX := Lib.hid hX
        have hpos := hinv.pos
        have hc0 := clo_nonneg HL.out (List.range l.length) t
        have hrb : room - closed l t ≤ 200 := by
          have : 0 ≤ closed l t := hc0
          have := HROOM.out.2
          omega
        have HW := Lib.hid hw
        rw [hnl] at HW
        rw [hnl]
        clear hinv hX hw hc0
        by_cases hm : 0 < (opn l t).length
        · have hgt : decide ((0 : Int) < ((opn l t).length : Int)) = true := decide_eq_true (by omega)
          have HE := Lib.hid (HINV.out.each hm)
          have HNX := Lib.hid (HINV.out.next hm HROOM.out.2 HL.out)
          have HFO := fun h => Lib.hid (fair_open HINV.out hm h)
          have hqb : 0 ≤ (room - closed l t) / ((opn l t).length : Int) ∧ (room - closed l t) / ((opn l t).length : Int) ≤ 200 := ⟨HE.out.2, Int.le_trans (Int.ediv_le_self _ hpos) hrb⟩
          have HOL : Hid (∀ j ∈ opn l t, j < l.length ∧ t < lg l j) := Lib.hid (fun j hj => opn_lt hj)
          have HON := Lib.hid (opn_next (l := l) HE.out.1)
          have HCN := Lib.hid (closed_next (l := l) HE.out.1)
          obtain ⟨e, he⟩ : ∃ e, e = (room - closed l t) / ((opn l t).length : Int) := ⟨_, rfl⟩
          rw [← he] at HE HNX hqb HON HCN
          have HFO2 : Hid ((opn l e).length = (opn l t).length → Fair room e l ∧ ∀ j, j < l.length → (if j ∈ opn l t then e else outF l t j) = min (lg l j) e) := Lib.hid (fun h => by
            have := (HFO (by rw [← he]; exact h)).out
            rw [← he] at this
            exact this)
          have HEQ := Lib.hid he
          clear HFO
          generalize hO : opn l t = O at *
          generalize hR : room - closed l t = rc at *
          have HRC := Lib.hid hR
          have hq : rc / (O.length : Int) = e := HEQ.out.symm
          have HOO := Lib.hid hO
          clear he hO hR
          have hO1 : O.length ≠ 0 := by omega
          have hO2 : ((O.length : Int) == 0) = false := beq_eq_false_iff_ne.2 (by omega)
          go_wp2
          go_loopw [9, 10] (fun nv iv wr => ∃ i : Nat, i ≤ O.length ∧ iv = .int .i64 i ∧ OwnL wr w2.heap.size nv (nat ((O.take i).filter fun j => decide (e < lg l j))) ∧ Below w2.heap.size w2 wr ∧ w2.heap.size ≤ wr.heap.size) (fun _ iv _ => O.length - (intOf iv).toNat)
          case atStart => exact ⟨0, Nat.zero_le _, rfl, OwnL.empty _ _ (Nat.le_refl _), (Below.refl _ _).alloc (Nat.le_refl _) _, by simp⟩
          case round =>
            obtain ⟨i, hi, rfl, hnx, hbn, hzn⟩ := hrel
            obtain ⟨An, cn, hnv⟩ := hnx.form
            subst hnv
            have hnn := nat_len ((O.take i).filter fun j => decide (e < lg l j))
            have HN := Lib.hid hnx
            rw [hnn] at HN
            rw [hnn]
            have HW2 := Lib.hid (ShW.below HW.out hbn)
            clear hnx
            by_cases hlt : i < O.length
            · have hgO : ∃ g cg, Value.slice As O.length cs = .slice (some ⟨g, 0, none⟩) O.length cg := by
                have := HW2.out.op
                unfold OwnL at this
                rw [nat_len] at this
                exact own_form_some this (by omega)
              obtain ⟨g, cg, hform⟩ := hgO
              injection hform with e1 e2 e3
              subst e1
              have hc1 : wr.cell? ⟨g, i, none⟩ = some (.int .i64 ((O.getD i 0 : Nat) : Int)) := by
                have h1 := HW2.out.op
                have h2 := own_cell (B := w.heap.size + 1) (g := g) (c := cs) (xs := nat O) (by rw [nat_len]; exact h1) i (by rw [nat_len]; exact hlt)
                rw [nat_get O i hlt] at h2
                exact h2
              obtain ⟨hj1, hj2⟩ := HOL.out _ (mem_getD O i hlt)
              have hRv := HVB.out wr HW2.out.bel
              obtain ⟨b, off, hA2, hat⟩ : ∃ b off, A = some ⟨b, off, none⟩ ∧ At wr b off l := by
                obtain ⟨A', c', hv', h1'⟩ := hRv
                injection hv' with e1 e2 e3
                subst e1
                exact h1' (by omega)
              subst hA2
              have hc2 := hat.2 (O.getD i 0) hj1
              have hxe : l.getD (O.getD i 0) 0 = lg l (O.getD i 0) := rfl
              rw [hxe] at hc2
              have HTK := Lib.hid (take_snocN O i hlt)
              have hxb := lg_bd HL.out (O.getD i 0)
              have HF : Hid (((O.take (i + 1)).filter fun j => decide (e < lg l j)) = if e < lg l (O.getD i 0) then ((O.take i).filter fun j => decide (e < lg l j)) ++ [O.getD i 0] else ((O.take i).filter fun j => decide (e < lg l j))) := Lib.hid (by
                rw [HTK.out]; exact flt_snoc l e _ _)
              have hfl : ((O.take i).filter fun j => decide (e < lg l j)).length ≤ 16 := by
                have h1 := List.length_filter_le (fun j => decide (e < lg l j)) (O.take i)
                have h2 := List.length_take_le i O
                omega
              clear hat hRv hxe HTK
              generalize lg l (O.getD i 0) = x at *
              generalize O.getD i 0 = j at *
              by_cases hgx : e < x
              · have hd : decide (e < x) = true := by simp; omega
                have HF2 := Lib.hid (HF.out.trans (if_pos hgx))
                clear HF
                generalize hFL : ((O.take i).filter fun j => decide (e < lg l j)) = FL at *
                have HFL := Lib.hid hFL
                clear hFL
                have ho0 : OwnL wr w2.heap.size (.slice An FL.length cn) (nat FL) := HN.out
                go_wp2_with (at_builtin; refine append_oneI rfl (.tmp 50) (.tmp 55) rfl w2.heap.size _ (nat FL) (j : Int) rfl rfl ho0 (by rw [nat_len]; omega) hzn ?_; intro A9 c9 w9 ho9 hg9 hb9 hz9)
                go_roundw
                case rel =>
                  refine ⟨i + 1, by omega, by go_num, ?_, hbn.trans (hb9.mono (by omega)), by omega⟩
                  rw [HF2.out, nat_snoc]
                  first
                    | exact ho9
                    | (rw [nat_len] at ho9; exact ho9)
                case measure => simp [intOf]; omega
              · have hd : decide (e < x) = false := by simp; omega
                have HF2 := Lib.hid (HF.out.trans (if_neg hgx))
                clear HF
                go_wp2
                go_roundw
                case rel => exact ⟨i + 1, by omega, by go_num, by rw [HF2.out]; exact HN.out, hbn, hzn⟩
                case measure => simp [intOf]; omega
            · obtain rfl : i = O.length := by omega
              have htk : O.take O.length = O := List.take_length
              rw [htk] at HN hnn
              rw [htk]
              rw [HON.out] at HN hnn
              rw [HON.out]
              have hle : (opn l e).length ≤ O.length := by
                rw [← HON.out]; exact List.length_filter_le _ _
              clear htk hlt hi
              obtain ⟨w3, hw3⟩ : ∃ w3, w3 = wr := ⟨wr, rfl⟩
              subst hw3
              have HBN := Lib.hid hbn
              have HON2 : Hid (OwnL w3 (w.heap.size + 1) (.slice An (opn l e).length cn) (nat (opn l e))) := Lib.hid (OwnL.base HN.out (by have := HW.out.sz; omega))
              obtain ⟨g, cg, hform⟩ : ∃ g cg, Value.slice As O.length cs = .slice (some ⟨g, 0, none⟩) O.length cg := by
                have := HW2.out.op
                unfold OwnL at this
                rw [nat_len] at this
                exact own_form_some this hm
              injection hform with e1 e2 e3
              subst e1
              have hgw : w.heap.size + 1 ≤ g := (World.ownsRow.lt HW2.out.op g rfl).1
              have HCI : Hid (∀ i, i < O.length → w3.cell? ⟨g, i, none⟩ = some (.int .i64 ((O.getD i 0 : Nat) : Int))) := Lib.hid (fun i hlt => by
                have h1 := HW2.out.op
                have h2 := own_cell (B := w.heap.size + 1) (g := g) (c := cs) (xs := nat O) (by rw [nat_len]; exact h1) i (by rw [nat_len]; exact hlt)
                rw [nat_get O i hlt] at h2
                exact h2)
              clear hbn hzn hnn
              by_cases heq : (opn l e).length = O.length
              · obtain ⟨hf1, hf2⟩ := HFO2.out heq
                have HR : Hid (∀ Y : List Int, Y.length = l.length → (∀ j, j < l.length → Y.getD j 0 = if j ∈ O then e else outF l t j) → shaR room l = Y) := Lib.hid (fun Y hY hj => by
                  rw [← shaR_fair HSB.out hf1]
                  exact (ext_map hY (f := fun x => min x e) (fun j h => (hj j h).trans (hf2 j h))).symm)
                have hq1 : (((opn l e).length : Int) == (O.length : Int)) = true := by rw [heq]; simp
                have hq2 : decide ((opn l e).length = O.length) = true := decide_eq_true heq
                clear hf1 hf2 HFO2 HN HON2 HNX
                go_wp2
                go_loopw [11] (fun iv wr => ∃ (i : Nat) (Y : List Int), i ≤ O.length ∧ iv = .int .i64 i ∧ ShW l w Y O (.slice (some ⟨g, 0, none⟩) O.length cs) wr ∧ w3.grownBy wr (some w.heap.size) ∧ ∀ j, j < l.length → Y.getD j 0 = if j ∈ O.take i then e else outF l t j) (fun iv _ => O.length - (intOf iv).toNat)
                case atStart => exact ⟨0, X, Nat.zero_le _, rfl, HW2.out, World.grownBy.refl _ _, fun j hj => by rw [HX.out j hj]; simp⟩
                case round =>
                  obtain ⟨i, Y, hi, rfl, hw, hgr, hY⟩ := hrel
                  by_cases hlt : i < O.length
                  · have hc1 := World.grownBy.cell hgr (HCI.out i hlt) (by simp; omega)
                    obtain ⟨hj1, hj2⟩ := HOL.out _ (mem_getD O i hlt)
                    have HMT := Lib.hid (fun j => mem_take_succ (O := O) (j := j) hlt)
                    have hyl := hw.xl
                    have HPT := Lib.hid (hw.put (O.getD i 0) hj1 e)
                    have HSG := Lib.hid (fun k => set_getD Y (O.getD i 0) k e (by omega))
                    have hf := hw.out.frozenAt (O.getD i 0)
                    have hoc := hw.outCell (O.getD i 0) hj1
                    have HYY := Lib.hid hY
                    have HGR := Lib.hid hgr
                    clear hY hgr hw hyl
                    generalize O.getD i 0 = j at *
                    generalize Y.getD j 0 = y0 at hoc
                    go_wp2
                    go_roundw
                    case rel =>
                      refine ⟨i + 1, Y.set j e, by omega, by go_num, HPT.out, grown_trans' HGR.out (grown_set5 (World.grownBy.refl _ _)), fun k hk => ?_⟩
                      rw [HSG.out k]
                      by_cases hkj : k = j
                      · rw [if_pos hkj, if_pos ((HMT.out k).2 (.inr hkj))]
                      · rw [if_neg hkj, HYY.out k hk]
                        by_cases hmem : k ∈ O.take i
                        · rw [if_pos hmem, if_pos ((HMT.out k).2 (.inl hmem))]
                        · rw [if_neg hmem, if_neg (fun h => ((HMT.out k).1 h).elim hmem hkj)]
                    case measure => simp [intOf]; omega
                  · obtain rfl : i = O.length := by omega
                    have e5 := HR.out Y hw.xl (fun j hj => by rw [hY j hj, List.take_length])
                    have HE5 := Lib.hid e5
                    have HWW := Lib.hid hw
                    clear e5 hw hgr hY
                    go_wp2
                    go_ret
                    refine rowPost_mk HE5.out ?_ HWW.out.bel
                    have h1 := HWW.out.out
                    have h2 := HWW.out.xl
                    unfold OwnL
                    rw [h2]; exact h1
              · have hq1 : (((opn l e).length : Int) == (O.length : Int)) = false := beq_eq_false_iff_ne.2 (by omega)
                have hq2 : decide ((opn l e).length = O.length) = false := decide_eq_false heq
                clear HFO2 HN
                go_wp2
                go_loopw [0, 12] (fun rv iv wr => ∃ (i : Nat) (Y : List Int), i ≤ O.length ∧ iv = .int .i64 i ∧ rv = .int .i64 (rc - clo l (O.take i) e) ∧ ShW l w Y O (.slice (some ⟨g, 0, none⟩) O.length cs) wr ∧ w3.grownBy wr (some w.heap.size) ∧ ∀ j, j < l.length → Y.getD j 0 = if j ∈ O.take i ∧ lg l j ≤ e then lg l j else outF l t j) (fun _ iv _ => O.length - (intOf iv).toNat)
                case atStart => exact ⟨0, X, Nat.zero_le _, rfl, by simp [clo, sumI], HW2.out, World.grownBy.refl _ _, fun j hj => by rw [HX.out j hj]; simp⟩
                case round =>
                  obtain ⟨i, Y, hi, rfl, rfl, hw, hgr, hY⟩ := hrel
                  have hcb := clo_nonneg HL.out (O.take i) e
                  have hcu := clo_ub HL.out (O.take i) e
                  have htl := List.length_take_le i O
                  have hcv : clo l (O.take i) e ≤ 480 := by omega
                  clear hcu htl
                  by_cases hlt : i < O.length
                  · have hc1 := World.grownBy.cell hgr (HCI.out i hlt) (by simp; omega)
                    obtain ⟨hj1, hj2⟩ := HOL.out _ (mem_getD O i hlt)
                    have HMT := Lib.hid (fun j => mem_take_succ (O := O) (j := j) hlt)
                    have hyl := hw.xl
                    obtain ⟨b, off, hA2, hat⟩ : ∃ b off, A = some ⟨b, off, none⟩ ∧ At wr b off l := by
                      obtain ⟨A', c', hv', h1'⟩ := HVB.out wr hw.bel
                      injection hv' with e1 e2 e3
                      subst e1
                      exact h1' (by omega)
                    subst hA2
                    have hbw : b < w.heap.size := (HA.out (by omega)).elim (fun b' h => h.elim (fun off' h => by have := h.1; injection this with e1; injection e1 with e2; subst e2; exact h.2.1))
                    have hc2 := hat.2 (O.getD i 0) hj1
                    have hxe : l.getD (O.getD i 0) 0 = lg l (O.getD i 0) := rfl
                    rw [hxe] at hc2
                    have hxb := lg_bd HL.out (O.getD i 0)
                    have HCS : Hid (clo l (O.take (i + 1)) e = clo l (O.take i) e + if lg l (O.getD i 0) ≤ e then lg l (O.getD i 0) else 0) := Lib.hid (by rw [take_snocN O i hlt]; exact clo_snoc l _ _ e)
                    have HPT := Lib.hid (hw.put (O.getD i 0) hj1 (lg l (O.getD i 0)))
                    have HWW := Lib.hid hw
                    have HSG := Lib.hid (fun k => set_getD Y (O.getD i 0) k (lg l (O.getD i 0)) (by omega))
                    have hf := hw.out.frozenAt (O.getD i 0)
                    have hoc := hw.outCell (O.getD i 0) hj1
                    have HYY := Lib.hid hY
                    have HGR := Lib.hid hgr
                    have HLG : Hid (∀ k, k = O.getD i 0 → lg l k = lg l (O.getD i 0)) := Lib.hid (fun k h => by rw [h])
                    clear hY hgr hw hyl hxe
                    generalize hx : lg l (O.getD i 0) = x at *
                    generalize O.getD i 0 = j at *
                    generalize Y.getD j 0 = y0 at hoc
                    generalize clo l (O.take i) e = cl at *
                    by_cases hxe : x ≤ e
                    · have hd : decide (x ≤ e) = true := decide_eq_true hxe
                      have HC2 := Lib.hid (HCS.out.trans (by rw [if_pos hxe]))
                      obtain ⟨w5, hw5⟩ : ∃ w5, w5 = (wr.setCell ⟨w.heap.size, j, none⟩ (.int .i64 x)).drew := ⟨_, rfl⟩
                      have hP5 : ShW l w (Y.set j x) O (.slice (some ⟨g, 0, none⟩) O.length cs) w5 := by
                        rw [hw5]
                        obtain ⟨a1, a2, a3, a4, a5⟩ := HPT.out
                        exact ⟨a1, a2, a3, ⟨a4.os, a4.tape, a4.output, a4.size, a4.block⟩, a5⟩
                      have hG5 : w3.grownBy w5 (some w.heap.size) := by rw [hw5]; exact grown_trans' HGR.out (grown_drew5 (grown_set5 (World.grownBy.refl _ _)))
                      have k1 := World.grownBy.cell hG5 (HCI.out i hlt) (by simp; omega)
                      have k1' : w5.cell? ⟨g, i, none⟩ = some (.int .i64 (j : Int)) := by
                        have e7 := Option.some.inj (hc1.symm.trans (World.grownBy.cell HGR.out (HCI.out i hlt) (by simp; omega)))
                        rw [e7]; exact k1
                      have k2 : w5.cell? ⟨b, off + j, none⟩ = some (.int .i64 x) := by
                        rw [hw5]
                        exact (World.cell?_of_block (w := wr) (w' := wr.setCell ⟨w.heap.size, j, none⟩ (.int .i64 x)) (a := ⟨b, off + j, none⟩) (Below.heap_setCell wr ⟨w.heap.size, j, none⟩ _ b (by simp; omega))).trans hc2
                      have HP5 := Lib.hid hP5
                      have HG5 := Lib.hid hG5
                      have HW5 := Lib.hid hw5
                      clear hP5 hG5 hw5 k1 hat HCS HPT
                      go_wp2
                      go_region
                      all_goals
                        rw [← HW5.out]
                        clear hc1 hc2 hoc hf
                        go_wp2
                        go_roundw
                        case rel =>
                          refine ⟨i + 1, Y.set j x, by omega, by go_num, by rw [HC2.out]; go_num, HP5.out, HG5.out, fun k hk => ?_⟩
                          rw [HSG.out k]
                          by_cases hkj : k = j
                          · rw [if_pos hkj, if_pos ⟨(HMT.out k).2 (.inr hkj), by rw [hkj, hx]; exact hxe⟩, hkj, hx]
                          · rw [if_neg hkj, HYY.out k hk]
                            by_cases hmem : k ∈ O.take i ∧ lg l k ≤ e
                            · rw [if_pos hmem, if_pos ⟨(HMT.out k).2 (.inl hmem.1), hmem.2⟩]
                            · rw [if_neg hmem, if_neg (fun h => ((HMT.out k).1 h.1).elim (fun h1 => hmem ⟨h1, h.2⟩) hkj)]
                        case measure => simp [intOf]; omega
                    · have hd : decide (x ≤ e) = false := decide_eq_false hxe
                      have HC2 := Lib.hid (HCS.out.trans (by rw [if_neg hxe]))
                      clear HCS hat HPT
                      go_wp2
                      go_roundw
                      case rel =>
                        refine ⟨i + 1, Y, by omega, by go_num, by rw [HC2.out]; go_num, HWW.out, HGR.out, fun k hk => ?_⟩
                        rw [HYY.out k hk]
                        by_cases hmem : k ∈ O.take i ∧ lg l k ≤ e
                        · rw [if_pos hmem, if_pos ⟨(HMT.out k).2 (.inl hmem.1), hmem.2⟩]
                        · rw [if_neg hmem, if_neg (fun h => ((HMT.out k).1 h.1).elim (fun h1 => hmem ⟨h1, h.2⟩) (fun h1 => hxe (by have := h.2; rw [h1, hx] at this; exact this)))]
                      case measure => simp [intOf]; omega
                  · obtain rfl : i = O.length := by omega
                    have HWW : Hid (ShW l w Y (opn l e) (.slice An (opn l e).length cn) wr) := Lib.hid
                      ⟨hw.xl, hw.out, World.ownsRow.kept HON2.out hgr (by
                        cases hob : (Value.slice An (opn l e).length cn).ownBlock with
                        | none => exact .inl rfl
                        | some k => exact .inr (by have := (World.ownsRow.lt HON2.out k hob).1; simp; omega)), hw.bel, hw.sz⟩
                    have HYY : Hid (∀ j, j < l.length → Y.getD j 0 = outF l e j) := Lib.hid (fun j hj => by
                      rw [hY j hj, List.take_length]; exact out_next HOO.out HE.out.1 j hj)
                    have HRR : Hid (rc - clo l (O.take O.length) e = room - closed l e) := Lib.hid (by
                      rw [List.take_length, HCN.out, ← HRC.out]; omega)
                    clear hw hgr hY
                    generalize clo l (O.take O.length) e = cl at *
                    go_wp2
                    go_roundw
                    case rel => exact ⟨e, Y, by rw [HRR.out], HNX.out, HWW.out, HYY.out⟩
                    case measure => simp [lenW]; omega
        · have h0 : (opn l t).length = 0 := by omega
          have hgt : decide ((0 : Int) < ((opn l t).length : Int)) = false := decide_eq_false (by omega)
          have hnil : opn l t = [] := List.eq_nil_of_length_eq_zero h0
          obtain ⟨hf1, hf2⟩ := fair_done HL.out HINV.out hnil
          have HR : Hid (shaR room l = X) := Lib.hid (by
            rw [← shaR_fair HSB.out hf1]
            exact (ext_map HW.out.xl (f := fun x => min x 30) (fun j hj => (HX.out j hj).trans (hf2 j hj))).symm)
          clear hf1 hf2 hnil
          go_wp2
          go_ret
          refine rowPost_mk HR.out ?_ HW.out.bel
          have h1 := HW.out.out
          have h2 := HW.out.xl
          unfold OwnL
          rw [h2]; exact h1
end Go.Proofs.Ytdnmoedpajkebaa
