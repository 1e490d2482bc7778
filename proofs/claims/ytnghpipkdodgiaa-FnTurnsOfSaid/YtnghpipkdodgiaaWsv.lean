/-
  The walk of the model's turns. Conditions: where the lists lie, and the bounds that are typed.
-/
import Derived.Test.YtnghpipkdodgiaaWse
import Derived.Test.YtnghpipkdodgiaaFtv
namespace Go.Proofs.Ytnghpipkdodgiaa
open Go.RowKit
set_option linter.unusedVariables false

theorem ints_setV (X : List Int) (j : Nat) (x : Int) : (ints X).set j (.int .i64 x) = ints (X.set j x) := by simp [ints, List.map_set]
/-- What lies in memory: where each flow stands, its credit, and what has left. -/
structure SrvW (n : Nat) (w : World) (b : Nat) (T C : List Int) (ov : Value) (O : List Int) (wr : World) : Prop where
  tl : T.length = n
  cl : C.length = n
  tat : wr.ownsRow (w.heap.size + 1) 3 1 (.slice (some ⟨w.heap.size + 1, 0, none⟩) n n) n (ints T)
  cat : wr.ownsRow (w.heap.size + 1) 3 1 (.slice (some ⟨b, 0, none⟩) n n) n (ints C)
  out : OwnE wr w.heap.size (b + 1) ov O
  bel : Below w.heap.size w wr
  bb : w.heap.size + 2 ≤ b
  sz : b + 1 ≤ wr.heap.size
section
variable {n b : Nat} {T C O : List Int} {w wr wr2 : World} {ov : Value}
theorem SrvW.tCell (h : SrvW n w b T C ov O wr) (j : Nat) (hj : j < n) : wr.cell? ⟨w.heap.size + 1, j, none⟩ = some (.int .i64 (T.getD j 0)) := by
  rw [h.tat.cellAt j (by omega), ints_get T j (by have := h.tl; omega)]
theorem SrvW.cCell (h : SrvW n w b T C ov O wr) (j : Nat) (hj : j < n) : wr.cell? ⟨b, j, none⟩ = some (.int .i64 (C.getD j 0)) := by
  rw [h.cat.cellAt j (by omega), ints_get C j (by have := h.cl; omega)]
theorem SrvW.drew (h : SrvW n w b T C ov O wr) : SrvW n w b T C ov O wr.drew := ⟨h.tl, h.cl, h.tat, h.cat, h.out, ⟨h.bel.os, h.bel.tape, h.bel.output, h.bel.size, h.bel.block⟩, h.bb, h.sz⟩
theorem SrvW.drewN (h : SrvW n w b T C ov O wr) (k : Nat) : SrvW n w b T C ov O (wr.drewN k) := ⟨h.tl, h.cl, h.tat, h.cat, h.out, ⟨h.bel.os, h.bel.tape, h.bel.output, h.bel.size, h.bel.block⟩, h.bb, h.sz⟩
theorem SrvW.setT (h : SrvW n w b T C ov O wr) (j : Nat) (x : Int) : SrvW n w b (T.set j x) C ov O (wr.setCell ⟨w.heap.size + 1, j, none⟩ (.int .i64 x)) := by
  have hst := h.tat.stored j (.int .i64 x)
  rw [ints_setV] at hst
  have hz := h.sz
  have hbb := h.bb
  exact ⟨by rw [List.length_set]; exact h.tl, h.cl, hst.1, World.ownsRow.kept h.cat hst.2 (.inr (by simp [Value.ownBlock]; omega)), h.out.set (by omega) (by omega), below_grown h.bel hst.2 (by omega) (by omega), hbb, by simp [World.setCell]; omega⟩
theorem SrvW.setC (h : SrvW n w b T C ov O wr) (j : Nat) (x : Int) : SrvW n w b T (C.set j x) ov O (wr.setCell ⟨b, j, none⟩ (.int .i64 x)) := by
  have hst := h.cat.stored j (.int .i64 x)
  rw [ints_setV] at hst
  have hz := h.sz
  have hbb := h.bb
  exact ⟨h.tl, by rw [List.length_set]; exact h.cl, World.ownsRow.kept h.tat hst.2 (.inr (by simp [Value.ownBlock]; omega)), hst.1, h.out.set (by omega) (by omega), below_grown h.bel hst.2 (by omega) (by omega), hbb, by simp [World.setCell]; omega⟩
theorem SrvW.appended (h : SrvW n w b T C ov O wr) {ov2 : Value} {O2 : List Int} (ho : OwnE wr2 w.heap.size (b + 1) ov2 O2) (hb : Below (b + 1) wr wr2) (hz : wr.heap.size ≤ wr2.heap.size) : SrvW n w b T C ov2 O2 wr2 := by
  have hbb := h.bb
  have hzz := h.sz
  exact ⟨h.tl, h.cl, own_below h.tat hb (fun g hg => by simp [Value.ownBlock] at hg; omega), own_below h.cat hb (fun g hg => by simp [Value.ownBlock] at hg; omega), ho, h.bel.trans (hb.mono (by omega)), hbb, by omega⟩
end

theorem getD_set_same {X : List Int} {j : Nat} {x : Int} (h : j < X.length) : (X.set j x).getD j 0 = x := by
  rw [List.getD_eq_getElem?_getD, List.getElem?_set_self h]; rfl
theorem getD_set_ne {X : List Int} {j k : Nat} {x : Int} (h : k ≠ j) : (X.set j x).getD k 0 = X.getD k 0 := by
  rw [List.getD_eq_getElem?_getD, List.getD_eq_getElem?_getD, List.getElem?_set_ne (fun e => h e.symm)]
theorem srvW_mes {q : Int} {L : List (List Int)} {r b : Nat} {T C O : List Int} {w wr : World} {ov : Value} (h : SrvW L.length w b T C ov O wr) (hT : KOf (fun l r => ((stt q l r).1 : Nat)) L r 0 T) (hC : KOf (crd q) L r 0 C) :
    mesW wr (w.heap.size + 1) b L 0 = sumF (fun l => mes q l r) L := by
  rw [mesW_is (F := fun l => ((stt q l r).1 : Nat)) (G := fun l => crd q l r) L 0 (fun j hj => by
    rw [Nat.zero_add, h.tCell j hj, h.cCell j hj, hT j hj, hC j hj, if_neg (by omega)]
    exact ⟨rfl, rfl⟩)]
  exact sumF_congr (fun l _ => mesV_is q l r)
theorem srvW_start {w wa w1 w2 : World} {n : Nat} (hwa : w.alloc (.cells #[] 3) = wa) (hsa : wa.heap.size = w.heap.size + 1)
    (h1 : w1.ownsRow (w.heap.size + 1) 3 1 (.slice (some ⟨w.heap.size + 1, 0, none⟩) n n) n (madeCells (Value.int .i64 0).cells (n * 1)).toList) (hg1 : wa.grownBy w1 none)
    (h2 : w2.ownsRow (w.heap.size + 1) 3 1 (.slice (some ⟨w1.heap.size, 0, none⟩) n n) n (madeCells (Value.int .i64 0).cells (n * 1)).toList) (hg2 : w1.grownBy w2 none) :
    SrvW n w w1.heap.size (List.replicate n 0) (List.replicate n 0) (.slice (some ⟨w.heap.size, 0, none⟩) 0 0) [] w2 := by
  have e : (madeCells (Value.int .i64 0).cells (n * 1)).toList = ints (List.replicate n 0) := by
    rw [show (Value.int .i64 0).cells = #[.int .i64 0] from rfl, toList_madeCells_one]
    simp [ints]
  rw [e] at h1 h2
  have z1 : w.heap.size + 1 < w1.heap.size := (World.ownsRow.lt h1 _ rfl).2
  have z2 : w1.heap.size < w2.heap.size := (World.ownsRow.lt h2 _ rfl).2
  have s1 := hg1.size
  have s2 := hg2.size
  have b0 : Below w.heap.size w wa := by rw [← hwa]; exact (Below.refl _ _).alloc (Nat.le_refl _) _
  refine ⟨by simp, by simp, World.ownsRow.kept h1 hg2 (.inr (by simp [Value.ownBlock])), h2, .inl ⟨rfl, rfl, ?_⟩, (b0.grown hg1 (by omega) (fun k hk => by cases hk)).grown hg2 (by omega) (fun k hk => by cases hk), by omega, by omega⟩
  rw [hg2.block w.heap.size (by omega) (by simp), hg1.block w.heap.size (by omega) (by simp), ← hwa]
  exact heap_alloc_new w _

set_option maxHeartbeats 6400000 in
set_option maxRecDepth 20000 in
theorem srv_any (q : Int) (w : World) (v : Value) (L : List (List Int)) (hv : RdsL w v L) (hq : 1 ≤ q ∧ q ≤ 30) (hF : okF L = true) :
    Calls Try.prog 19 #[.int .i64 q, v] w (RowPost (turR q L) w) := by
  have hlen := okF_len hF
  have HV : Hid (∀ wr, Below w.heap.size w wr → RdsL wr v L) := Lib.hid (fun wr hb => hv.more hb)
  have HTB : Hid (turB q L = true) := Lib.hid (by simp [turB, quaB, hq, hF])
  obtain ⟨A, c, hvf⟩ := hv.form
  subst hvf
  have HF := Lib.hid hF
  have HQ := Lib.hid hq
  obtain ⟨i0, hi, hz0, hz1, hz2⟩ := info_parts info3
  have HI := Lib.hid hi
  have HZ0 := Lib.hid hz0
  have HZ1 := Lib.hid hz1
  have HZ2 := Lib.hid hz2
  clear hF hi hz0 hz1 hz2 hv
  go_enter Try.func19, Try.ntmps19
  go_wp2_with (first
    | (at_make; generalize hwa : w.alloc (.cells #[] 3) = wa at *; refine wpList_make_full wa rfl (.tmp 13) (.tmp 13) 24 rfl (w.heap.size + 1) 3 i0 (.int .i64 0) 1 Try.underlying24 HI.out HZ0.out HZ1.out _ _ _ _ L.length rfl rfl rfl rfl (by rw [HZ2.out]; omega) (by unfold maxLen; omega) (by rw [← hwa]; simp) ?_; intro w1 hown1 hg1; have hsa : wa.heap.size = w.heap.size + 1 := (by rw [← hwa]; simp); rw [hsa] at hown1 ⊢)
    | (at_make; refine wpList_make_full w1 rfl (.tmp 16) (.tmp 16) 24 rfl (w.heap.size + 1) 3 i0 (.int .i64 0) 1 Try.underlying24 HI.out HZ0.out HZ1.out _ _ _ _ L.length rfl rfl rfl rfl (by rw [HZ2.out]; omega) (by unfold maxLen; omega) (by have := hg1.size; omega) ?_; intro w2 hown2 hg2))
  have HW2 : Hid (SrvW L.length w w1.heap.size (List.replicate L.length 0) (List.replicate L.length 0) (.slice (some ⟨w.heap.size, 0, none⟩) 0 0) [] w2) := Lib.hid (srvW_start hwa hsa hown1 hg1 hown2 hg2)
  obtain ⟨b2, hb2⟩ : ∃ b2, b2 = w1.heap.size := ⟨_, rfl⟩
  rw [← hb2] at HW2 ⊢
  clear hb2 hown1 hg1 hown2 hg2 hsa hwa HI HZ0 HZ1 HZ2
  have HPL := Lib.hid (allP_le HF.out)
  go_loop [8, 9] (fun sv iv => ∃ k : Nat, k ≤ L.length ∧ iv = .int .i64 k ∧ sv = .int .i64 (allP (L.take k) : Nat)) (fun _ iv => L.length - (intOf iv).toNat)
  case atStart => exact ⟨0, Nat.zero_le _, rfl, rfl⟩
  case round =>
    obtain ⟨k, hk, rfl, rfl⟩ := hrel
    by_cases hlt : k < L.length
    · obtain ⟨b, off, Au, cu, hb, hbl, hcu, _⟩ := (HV.out _ HW2.out.bel).flow k hlt
      subst hb
      have HS := Lib.hid (allP_snoc6 L k hlt)
      have hle := allP_take_le L k hlt
      have hpl := HPL.out
      generalize (L.getD k []).length = m at *
      generalize allP (L.take k) = t at *
      go_wp2
      go_round
      case rel => exact ⟨k + 1, by omega, by go_num, by rw [HS.out]; go_num⟩
      case measure => simp [intOf]; omega
    · obtain rfl : k = L.length := by omega
      rw [List.take_length]
      go_wp2
      have HL0 := Lib.hid (left_eq HQ.out HF.out 0)
      go_loopw [5, 8] (fun ov lv wr => ∃ (r : Nat) (T C : List Int), r ≤ 744 ∧ (∀ i, i < r → left q L i ≠ 0) ∧ lv = .int .i64 (left q L r : Nat) ∧ SrvW L.length w b2 T C ov (outA q L r 0) wr ∧ KOf (fun l r => ((stt q l r).1 : Nat)) L r 0 T ∧ KOf (crd q) L r 0 C) (fun _ _ wr => mesW wr (w.heap.size + 1) b2 L 0)
      case atStart =>
        refine ⟨0, _, _, Nat.zero_le _, fun i hi => absurd hi (by omega), ?_, HW2.out, ?_, ?_⟩
        · rw [← HL0.out]; simp [outA, turns, part]
        · intro j hj; simp [hj, stt]
        · intro j hj; simp [hj, crd, stt]
      case round =>
        obtain ⟨r, T, C, hr, hst, rfl, hs, hT, hC⟩ := hrel
        clear HW2 HL0
        by_cases hlz : left q L r = 0
        · have HE : Hid (turR q L = outA q L r 0) := Lib.hid (by rw [turR_ok HTB.out, turT_is hr hlz hst, outA_zero])
          have HS := Lib.hid hs
          obtain ⟨Ao, co, hov⟩ := hs.out.form
          subst hov
          clear hs hT hC hst
          rw [hlz]
          go_wp2
          go_ret
          exact rowPost_mk HE.out (HS.out.out.own (by have := HS.out.bb; omega)) HS.out.bel
        · have HLE := Lib.hid (left_eq HQ.out HF.out r)
          have hl48 : left q L r ≤ 24 := by have := gone_left HQ.out HF.out r; have := HPL.out; omega
          have HM : Hid (mesW wr (w.heap.size + 1) b2 L 0 = sumF (fun l => mes q l r) L) := Lib.hid (srvW_mes hs hT hC)
          have HS0 := Lib.hid hs
          have HT0 := Lib.hid hT
          have HC0 := Lib.hid hC
          have HST := Lib.hid hst
          have hlpos : (0 : Int) < (left q L r : Nat) := by omega
          obtain ⟨wo, hwo⟩ : ∃ wo, wo = wr := ⟨_, rfl⟩
          subst hwo
          obtain ⟨Ao, co, hov⟩ := hs.out.form
          subst hov
          clear hs hT hC hst
          have HLE2 : Hid (((left q L r : Nat) : Int) = ((allP L : Nat) : Int) - ((outA q L r 0).length : Int)) := Lib.hid HLE.out.symm
          generalize hlv : left q L r = lv at *
          have hlne := hlz
          have hlv0 : decide (0 < lv) = true := decide_eq_true (by omega)
          clear hlz
          go_wp2
          go_loopw [5, 8, 10] (fun ov lv fv wr => ∃ (f : Nat) (T C : List Int), f ≤ L.length ∧ fv = .int .i64 f ∧ lv = .int .i64 (((allP L : Nat) : Int) - ((outA q L r f).length : Int)) ∧ SrvW L.length w b2 T C ov (outA q L r f) wr ∧ KOf (fun l r => ((stt q l r).1 : Nat)) L r f T ∧ KOf (crd q) L r f C) (fun _ _ fv _ => L.length - (intOf fv).toNat)
          case atStart => exact ⟨0, T, C, Nat.zero_le _, rfl, by rw [HLE2.out], HS0.out, HT0.out, HC0.out⟩
          case round =>
            obtain ⟨f, T, C, hf, rfl, rfl, hs, hT, hC⟩ := hrel
            clear HS0 HT0 HC0 HLE2 HLE
            by_cases hlt : f < L.length
            · have hm48 := outA_len HQ.out HF.out r f hf
              have hOK := okP_parts (okF_at HF.out f)
              obtain ⟨b, off, Au, cu, hb, hbl, hcu0, hpk⟩ := (HV.out w (Below.refl _ _)).flow f hlt
              subst hb
              have HS1 := Lib.hid hs
              have HT1 := Lib.hid hT
              have HC1 := Lib.hid hC
              have HO := Lib.hid (outA_succ (q := q) (L := L) r f)
              have hT1 := hT.here hlt
              have hC1 := hC.here hlt
              obtain ⟨l, hl⟩ : ∃ l, l = L.getD f [] := ⟨_, rfl⟩
              rw [← hl] at hcu0 hpk hT1 hC1 HO hOK
              have HLD := Lib.hid hl
              have hbd := stt_bd HQ.out hOK.1 r
              have HCU := Lib.hid hcu0
              have hcu : wr.cell? ⟨b, off + f, none⟩ = some (.slice Au l.length cu) := (hs.bel.cell (p := ⟨b, off + f, none⟩) hbl).trans hcu0
              have hct : wr.cell? ⟨w.heap.size + 1, f, none⟩ = some (.int .i64 ((stt q l r).1 : Nat)) := by rw [hs.tCell f hlt, hT1]
              have hcc : wr.cell? ⟨b2, f, none⟩ = some (.int .i64 (crd q l r)) := by rw [hs.cCell f hlt, hC1]
              obtain ⟨An, cn, hov⟩ := hs.out.form
              subst hov
              by_cases hfull : (stt q l r).1 = l.length
              · obtain ⟨hsf, hcn⟩ := stt_full (q := q) (l := l) r hfull
                have HNT : Hid (KOf (fun l r => ((stt q l r).1 : Nat)) L r (f + 1) T) := Lib.hid (hT.step (by rw [hT1, ← hl, hsf, hfull]) (fun _ _ => rfl))
                have HNC : Hid (KOf (crd q) L r (f + 1) C) := Lib.hid (hC.step (by rw [hC1, ← hl, crd_full r hfull, crd_full (r + 1) hsf]) (fun _ _ => rfl))
                have HOE : Hid (outA q L r (f + 1) = outA q L r f) := Lib.hid (by rw [HO.out, hcn]; simp)
                rw [hfull] at hct
                clear hs hT hC hT1 hC1 hpk hbd hsf hcn hfull hl
                go_wp2
                go_quiet (fail)
                go_wp2
                go_roundw
                case rel => exact ⟨f + 1, T, C, by omega, by go_num, by rw [HOE.out], by rw [HOE.out]; exact HS1.out.drewN _, HNT.out, HNC.out⟩
                case measure => simp [intOf]; omega
              · have hpl : (stt q l r).1 < l.length := by omega
                obtain ⟨bb, oo, hAu, hbb, hpx⟩ := hpk (by omega)
                subst hAu
                have HPX := Lib.hid hpx
                have HM0 := Lib.hid (Mid.start HQ.out hOK.1 hr)
                have hcr := crd_less (q := q) r hfull hbd.1
                have hc30 := hbd.2.2.2 hpl
                have hc00 := hbd.2.1
                have hfz := hs.cat.frozenAt f
                have hzt := hs.tl
                have hzc := hs.cl
                have HTA : Hid (∀ U : List Int, U.getD f 0 = ((stt q l (r + 1)).1 : Nat) → (∀ j, j ≠ f → U.getD j 0 = T.getD j 0) → KOf (fun l r => ((stt q l r).1 : Nat)) L r (f + 1) U) := Lib.hid (fun U h1 h2 => HT1.out.step (by rw [h1, ← HLD.out]) h2)
                have HCA : Hid (∀ U : List Int, U.getD f 0 = crd q l (r + 1) → (∀ j, j ≠ f → U.getD j 0 = C.getD j 0) → KOf (crd q) L r (f + 1) U) := Lib.hid (fun U h1 h2 => HC1.out.step (by rw [h1, ← HLD.out]) h2)
                obtain ⟨p0, hp0⟩ : ∃ p0, p0 = (stt q l r).1 := ⟨_, rfl⟩
                obtain ⟨c0, hc0⟩ : ∃ c0, c0 = (stt q l r).2 := ⟨_, rfl⟩
                rw [← hp0] at hct hT1 hpl HM0
                rw [hcr] at hcc hC1
                rw [← hc0] at hcc hC1 HM0 hc30 hc00
                have hne1 : ((p0 : Int) == (l.length : Int)) = false := beq_eq_false_iff_ne.2 (by omega)
                have hne2 : decide (p0 = l.length) = false := decide_eq_false (by omega)
                have hwq : IntKind.i64.wrap (c0 + q) = c0 + q := IntWalk.i64_in _ (by omega)
                have HP0 := Lib.hid hp0
                have HTG := Lib.hid hT1
                clear hs hT hC hT1 hC1 hpk hbd hpx hcr hcu0 hp0 hc0 hfull hl
                obtain ⟨wm, hwm⟩ : ∃ wm, wm = wr := ⟨_, rfl⟩
                subst hwm
                go_wp2
                go_quiet (fail)
                go_wp2
                have HS2 := Lib.hid ((HS1.out.drewN nq).setC f (c0 + q))
                clear hct hcc hfz
                go_loopw [5, 8] (fun ov lv wr => ∃ (p : Nat) (cc : Int) (T' C' : List Int), Mid q l r p cc ∧ p0 ≤ p ∧ lv = .int .i64 (((allP L : Nat) : Int) - ((outA q L r f).length : Int) - ((p : Int) - (p0 : Int))) ∧ SrvW L.length w b2 T' C' ov (outA q L r f ++ List.replicate (p - p0) (f : Int)) wr ∧ T'.getD f 0 = (p : Int) ∧ C'.getD f 0 = cc ∧ (∀ j, j ≠ f → T'.getD j 0 = T.getD j 0) ∧ (∀ j, j ≠ f → C'.getD j 0 = C.getD j 0)) (fun ov _ _ => 100 - lenU ov)
                case atStart => exact ⟨p0, c0 + q, T, C.set f (c0 + q), HM0.out, Nat.le_refl _, by go_num, by simpa using HS2.out, HTG.out, getD_set_same (by omega), fun _ _ => rfl, fun j hj => getD_set_ne hj⟩
                case round =>
                  obtain ⟨p, cc, T', C', hmid, hpp, rfl, hs, htp, hcp, hto, hco⟩ := hrel
                  clear HS1 HS2 HM0 HTG hwq hne1 hne2 hc30 hc00
                  obtain ⟨wn, hwn⟩ : ∃ wn, wn = wr := ⟨_, rfl⟩
                  subst hwn
                  have hlo := hmid.lo
                  have hhi := hmid.hi
                  have hnn := hmid.nn
                  have hup := hmid.up
                  have HS3 := Lib.hid hs
                  have hbel := hs.bel
                  have HMD := Lib.hid hmid
                  have HTO := Lib.hid hto
                  have HCO := Lib.hid hco
                  have HTP := Lib.hid htp
                  have HCP := Lib.hid hcp
                  have hzt' := hs.tl
                  have hzc' := hs.cl
                  have hcu : wn.cell? ⟨b, off + f, none⟩ = some (.slice (some ⟨bb, oo, none⟩) l.length cu) := (hbel.cell (p := ⟨b, off + f, none⟩) hbl).trans HCU.out
                  have hct : wn.cell? ⟨w.heap.size + 1, f, none⟩ = some (.int .i64 (p : Int)) := by rw [hs.tCell f hlt, htp]
                  have hcc : wn.cell? ⟨b2, f, none⟩ = some (.int .i64 cc) := by rw [hs.cCell f hlt, hcp]
                  have hfz := hs.cat.frozenAt f
                  have hfl : (outA q L r f ++ List.replicate (p - p0) (f : Int)).length = (outA q L r f).length + (p - p0) := by simp
                  obtain ⟨Am, cm, hov⟩ := hs.out.form
                  subst hov
                  rw [hfl]
                  have HFL := Lib.hid hfl
                  clear hs hmid hto hco htp hcp hfl
                  by_cases hp : p < l.length
                  · have hcx : wn.cell? ⟨bb, oo + p, none⟩ = some (.int .i64 (lg l p)) := (hbel.cell (p := ⟨bb, oo + p, none⟩) hbb).trans (HPX.out p hp)
                    have hxb := lg_bd hOK.1 p
                    by_cases hc : lg l p ≤ cc
                    · have HMN := Lib.hid (HMD.out.next hOK.1 hp hc)
                      have hd : decide (lg l p ≤ cc) = true := decide_eq_true hc
                      have hplt : (p : Int) < (l.length : Int) := by omega
                      generalize lg l p = x at *
                      have hwx : IntKind.i64.wrap (cc - x) = cc - x := IntWalk.i64_in _ (by omega)
                      have hwp : IntKind.i64.wrap ((p : Int) + 1) = (p : Int) + 1 := IntWalk.i64_in _ (by omega)
                      clear hbel
                      go_wp2
                      go_quiet (fail)
                      go_wp2
                      go_region
                      have hS5 := (HS3.out.drewN (nq + 1)).setC f (cc - x)
                      generalize (wn.drewN (nq + 1)).setCell ⟨b2, f, none⟩ (.int .i64 (cc - x)) = w5 at *
                      have hct5 : w5.cell? ⟨w.heap.size + 1, f, none⟩ = some (.int .i64 (p : Int)) := by rw [hS5.tCell f hlt, HTP.out]
                      have hft := hS5.tat.frozenAt f
                      have hS6 := hS5.setT f ((p : Int) + 1)
                      have hz6 := hS6.sz
                      have HOUT : Hid (OwnE (w5.setCell ⟨w.heap.size + 1, f, none⟩ (.int .i64 ((p : Int) + 1))) w.heap.size (b2 + 1) (.slice Am ((outA q L r f).length + (p - p0)) cm) (outA q L r f ++ List.replicate (p - p0) (f : Int))) := Lib.hid (by rw [← HFL.out]; exact hS6.out)
                      have HS6 := Lib.hid hS6
                      have hfl6 : (outA q L r f ++ List.replicate (p - p0) (f : Int)).length ≤ 60 := by rw [HFL.out]; omega
                      have HFL6 := Lib.hid hfl6
                      have hwl : IntKind.i64.wrap (((allP L : Nat) : Int) - ((outA q L r f).length : Int) - ((p : Int) - (p0 : Int)) - 1) = ((allP L : Nat) : Int) - ((outA q L r f).length : Int) - ((p : Int) - (p0 : Int)) - 1 := IntWalk.i64_in _ (by have := HPL.out; omega)
                      clear hcu hct hcc hfz hcx hS5 hS6 hfl6 HS3
                      go_wp2_with (at_builtin; refine append_oneE rfl (.tmp 111) (.tmp 113) rfl w.heap.size (b2 + 1) _ (outA q L r f ++ List.replicate (p - p0) (f : Int)) (f : Int) rfl (by simp [Act.eval]) HOUT.out (by have := HFL6.out; omega) hz6 ?_; intro A9 c9 w9 ho9 hb9 hz9; have HO9 := Lib.hid ho9; rw [HFL.out] at ho9)
                      go_roundw
                      case rel =>
                        refine ⟨p + 1, cc - x, T'.set f ((p : Int) + 1), C'.set f (cc - x), HMN.out, by omega, by go_num, ?_, by rw [getD_set_same (by omega)]; go_num, getD_set_same (by omega), fun j hj => (getD_set_ne hj).trans (HTO.out j hj), fun j hj => (getD_set_ne hj).trans (HCO.out j hj)⟩
                        have e : p + 1 - p0 = (p - p0) + 1 := by omega
                        rw [e, List.replicate_succ', ← List.append_assoc]
                        exact HS6.out.appended ho9 hb9 hz9
                      case measure =>
                        have := HFL.out
                        have := HFL6.out
                        simp [lenU]; omega
                    · have hd : decide (lg l p ≤ cc) = false := decide_eq_false hc
                      have hplt : (p : Int) < (l.length : Int) := by omega
                      have hne1 : ((p : Int) == (l.length : Int)) = false := beq_eq_false_iff_ne.2 (by omega)
                      have hne2 : decide (p = l.length) = false := decide_eq_false (by omega)
                      obtain ⟨hst1, hst2⟩ := HMD.out.stop (fun h => hc h.2)
                      have hst3 := HMD.out.crdStop (fun h => hc h.2)
                      rw [if_neg (by omega)] at hst3
                      have HNT := Lib.hid (HTA.out T' (by rw [HTP.out, hst1]) HTO.out)
                      have HNC := Lib.hid (HCA.out C' (by rw [HCP.out, hst3]) HCO.out)
                      have HOE : Hid (outA q L r (f + 1) = outA q L r f ++ List.replicate (p - p0) (f : Int)) := Lib.hid (by rw [HO.out, hst2, ← HP0.out])
                      generalize lg l p = x at *
                      clear hbel hst1 hst2 hst3
                      go_wp2
                      go_quiet (fail)
                      go_wp2
                      go_quiet (fail)
                      go_wp2
                      go_roundw
                      case rel => exact ⟨f + 1, T', C', by omega, by go_num, by rw [HOE.out, HFL.out]; congr 1; omega, by rw [HOE.out, ← HFL.out]; exact HS3.out.drewN _, HNT.out, HNC.out⟩
                      case measure => simp [intOf]; omega
                  · obtain rfl : p = l.length := by omega
                    obtain ⟨hst1, hst2⟩ := HMD.out.stop (fun h => hp h.1)
                    have hst3 := HMD.out.crdStop (fun h => hp h.1)
                    rw [if_pos rfl] at hst3
                    have HNT := Lib.hid (HTA.out T' (by rw [HTP.out, hst1]) HTO.out)
                    have HNC := Lib.hid (HCA.out (C'.set f 0) (by rw [getD_set_same (by omega), hst3]) (fun j hj => by rw [getD_set_ne hj]; exact HCO.out j hj))
                    have HOE : Hid (outA q L r (f + 1) = outA q L r f ++ List.replicate (l.length - p0) (f : Int)) := Lib.hid (by rw [HO.out, hst2, ← HP0.out])
                    clear hbel hst1 hst2 hst3
                    go_wp2
                    go_quiet (fail)
                    go_wp2
                    go_quiet (fail)
                    go_wp2
                    go_roundw
                    case rel => exact ⟨f + 1, T', C'.set f 0, by omega, by go_num, by rw [HOE.out, HFL.out]; congr 1; omega, by rw [HOE.out, ← HFL.out]; exact (HS3.out.drewN _).setC f 0, HNT.out, HNC.out⟩
                    case measure => simp [intOf]; omega
            · obtain rfl : f = L.length := by omega
              have HLN := Lib.hid (left_next HQ.out HF.out r)
              have HMN := Lib.hid (srvW_mes hs hT.wrap hC.wrap)
              have HST2 := Lib.hid hs
              have HTW := Lib.hid hT.wrap
              have HCW := Lib.hid hC.wrap
              obtain ⟨An, cn, hov⟩ := hs.out.form
              subst hov
              have HX := Lib.hid (mes_step HQ.out HF.out r (by rw [hlv]; exact hlne))
              have hr2 : r + 1 ≤ 744 := turns_bd HQ.out HF.out (r + 1) (fun i hi => by
                rcases (show i < r ∨ i = r from by omega) with h | rfl
                · exact HST.out i h
                · rw [hlv]; exact hlne)
              clear hs hT hC
              rw [HLN.out]
              have e0 : outA q L r L.length = outA q L (r + 1) 0 := by rw [outA_end, outA_zero]
              have HE0 := Lib.hid e0
              clear e0
              go_wp2
              go_roundw
              case rel => exact ⟨r + 1, T, C, hr2, fun i hi => by
                rcases (show i < r ∨ i = r from by omega) with h | rfl
                · exact HST.out i h
                · rw [hlv]; exact hlne, rfl, by rw [← HE0.out]; exact HST2.out, HTW.out, HCW.out⟩
              case measure => rw [HMN.out, HM.out]; exact HX.out
end Go.Proofs.Ytnghpipkdodgiaa
