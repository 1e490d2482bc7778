/-
  The walks of the laws' functions that mark lists of fields of a call's own and look at the marks. Conditions: where the lists lie, and the lengths that are typed.
-/
import Derived.Test.YthogkhifgkgplaaDoorWrs
import Derived.Test.YthogkhifgkgplaaDoorWfs
set_option linter.unusedSimpArgs false
namespace Go.Proofs.YthogkhifgkgplaaDoor
open Go.RowKit
set_option linter.unusedVariables false

/-- Fields that are marked from a number on. -/
def mkF : Int → List Fd → List Fd
  | _, [] => []
  | k, f :: l => ⟨k, seqI (k + 1) f.b.length⟩ :: mkF (k + 1 + f.b.length) l
def mkQ : Int → List (Fd × Value) → List (Fd × Value)
  | _, [] => []
  | k, p :: l => (⟨k, seqI (k + 1) p.1.b.length⟩, p.2) :: mkQ (k + 1 + p.1.b.length) l
theorem mkQ_fst : ∀ (k : Int) (Q : List (Fd × Value)), (mkQ k Q).map (·.1) = mkF k (Q.map (·.1))
  | _, [] => rfl
  | k, p :: l => by simp only [mkQ, List.map_cons, mkF]; rw [mkQ_fst]
theorem mkQ_snd : ∀ (k : Int) (Q : List (Fd × Value)), (mkQ k Q).map (·.2) = Q.map (·.2)
  | _, [] => rfl
  | k, p :: l => by simp only [mkQ, List.map_cons]; rw [mkQ_snd]
theorem mkQ_len (k : Int) (Q : List (Fd × Value)) : (mkQ k Q).length = Q.length := by
  have := congrArg List.length (mkQ_snd k Q)
  simpa using this
theorem mkF_len : ∀ (k : Int) (L : List Fd), (mkF k L).length = L.length
  | _, [] => rfl
  | k, f :: l => by simp only [mkF, List.length_cons]; rw [mkF_len]
theorem allF_cons (f : Fd) (l : List Fd) : allF (f :: l) = f.b.length + allF l := by simp [allF]
theorem allF_app (a b : List Fd) : allF (a ++ b) = allF a + allF b := by simp [allF]
theorem mkQ_snoc : ∀ (k : Int) (Q : List (Fd × Value)) (p : Fd × Value), mkQ k (Q ++ [p]) = mkQ k Q ++ [(⟨k + (Q.length : Nat) + (allF (Q.map (·.1)) : Nat), seqI (k + (Q.length : Nat) + (allF (Q.map (·.1)) : Nat) + 1) p.1.b.length⟩, p.2)]
  | k, [], p => by simp [mkQ, allF]
  | k, q :: l, p => by
    simp only [List.cons_append, mkQ, List.length_cons, List.map_cons, allF_cons]
    rw [mkQ_snoc]
    have e : k + 1 + (q.1.b.length : Int) + ((l.length : Nat) : Int) + ((allF (l.map (·.1)) : Nat) : Int) = k + ((l.length + 1 : Nat) : Int) + ((q.1.b.length + allF (l.map (·.1)) : Nat) : Int) := by omega
    rw [e]
theorem mkF_get : ∀ (k : Int) (L : List Fd) (j : Nat), j < L.length → (mkF k L).getD j f0 = ⟨k + (j : Nat) + (allF (L.take j) : Nat), seqI (k + (j : Nat) + (allF (L.take j) : Nat) + 1) (L.getD j f0).b.length⟩
  | k, [], j, h => by simp at h
  | k, f :: l, 0, h => by simp [mkF, allF]
  | k, f :: l, j + 1, h => by
    simp only [mkF, List.getD_cons_succ, List.take_succ_cons, allF_cons]
    rw [mkF_get _ l j (by simpa using h)]
    have e : k + 1 + (f.b.length : Int) + (j : Int) + ((allF (l.take j) : Nat) : Int) = k + ((j + 1 : Nat) : Int) + ((f.b.length + allF (l.take j) : Nat) : Int) := by omega
    rw [e]
theorem flQ_app : ∀ (P R : List (Fd × Value)), flQ (P ++ R) = flQ P ++ flQ R
  | [], R => rfl
  | p :: l, R => by simp only [List.cons_append, flQ]; rw [flQ_app]
theorem grown_set9 {w w' : World} {g i : Nat} {u : Value} (h : w.grownBy w' (some g)) : w.grownBy (w'.setCell ⟨g, i, none⟩ u) (some g) :=
  ⟨h.os, h.tape, h.output, by simpa [World.setCell] using h.size, fun j hj hn => (Below.heap_setCell w' ⟨g, i, none⟩ u j (fun e => hn (by rw [e]))).trans (h.block j hj hn)⟩
/-- A tag is set. -/
theorem fown_tagAt {w : World} {B b n c : Nat} {f : Fd} {u : Value} {P R : List (Fd × Value)} (h : FOwn w B (.slice (some ⟨b, 0, none⟩) n c) (P ++ (f, u) :: R)) (t : Int) :
    FOwn (w.setCell ⟨b, P.length * 2, none⟩ (.int .i64 t)) B (.slice (some ⟨b, 0, none⟩) n c) (P ++ (⟨t, f.b⟩, u) :: R) := by
  have step : ∀ (p2 : Value) (l : List Int), OwnL w B p2 l → (∀ g, p2.ownBlock = some g → (Value.slice (some ⟨b, 0, none⟩) n c).ownBlock ≠ some g) → OwnL (w.setCell ⟨b, P.length * 2, none⟩ (.int .i64 t)) B p2 l :=
    fun p2 l h1 h2 => ownsRow_setCell_other (a := ⟨b, P.length * 2, none⟩) h1 (fun e => h2 b e rfl) _
  have hlen : (P ++ (⟨t, f.b⟩, u) :: R).length = (P ++ (f, u) :: R).length := by simp
  refine ⟨?_, fun p hp => ?_⟩
  · rw [hlen]
    obtain ⟨h1, h2⟩ := h.top
    rcases h2 with ⟨hv, _⟩ | ⟨g, cap, cur, hv, hB, hg, hn, hc, hcs, htk⟩
    · cases hv
    · injection hv with e1 e2 e3
      injection e1 with e1
      injection e1 with e1 _ _
      subst e1; subst e3
      refine ⟨by rw [flQ_len, hlen], .inr ⟨b, c, cur.setIfInBounds (P.length * 2) (.int .i64 t), by rw [e2], hB, Blk.set_ hg _ _, hn, hc, by rw [Array.size_setIfInBounds]; exact hcs, ?_⟩⟩
      rw [Array.toList_setIfInBounds, List.take_set, htk, flQ_app, flQ_app]
      simp only [flQ]
      rw [← flQ_len P, List.set_append_right _ _ (Nat.le_refl _), Nat.sub_self]
      rfl
  · rcases List.mem_append.1 hp with hp | hp
    · obtain ⟨a1, a2⟩ := h.each p (List.mem_append.2 (.inl hp))
      exact ⟨step _ _ a1 a2, a2⟩
    · rcases List.mem_cons.1 hp with rfl | hp
      · obtain ⟨a1, a2⟩ := h.each (f, u) (List.mem_append.2 (.inr List.mem_cons_self))
        exact ⟨step _ _ a1 a2, a2⟩
      · obtain ⟨a1, a2⟩ := h.each p (List.mem_append.2 (.inr (List.mem_cons_of_mem _ hp)))
        exact ⟨step _ _ a1 a2, a2⟩
/-- A field's bytes are written. -/
theorem fown_bytesAt {w w' : World} {B : Nat} {v : Value} {f : Fd} {u : Value} {P R : List (Fd × Value)} {l : List Int} (h : FOwn w B v (P ++ (f, u) :: R)) (ha : Apt (P ++ (f, u) :: R)) (hg : w.grownBy w' u.ownBlock) (hu : OwnL w' B u l) :
    FOwn w' B v (P ++ (⟨f.t, l⟩, u) :: R) := by
  have hlen : (P ++ ((⟨f.t, l⟩ : Fd), u) :: R).length = (P ++ (f, u) :: R).length := by simp
  have hfl : flQ (P ++ ((⟨f.t, l⟩ : Fd), u) :: R) = flQ (P ++ (f, u) :: R) := by rw [flQ_app, flQ_app]; rfl
  have hu0 := (h.each (f, u) (List.mem_append.2 (.inr List.mem_cons_self))).2
  have other : ∀ p, (∀ g, p.2.ownBlock = some g → u.ownBlock ≠ some g) → p ∈ P ++ (f, u) :: R → OwnL w' B p.2 p.1.b ∧ ∀ g, p.2.ownBlock = some g → v.ownBlock ≠ some g := fun p hne hp => by
    obtain ⟨a1, a2⟩ := h.each p hp
    refine ⟨World.ownsRow.kept a1 hg ?_, a2⟩
    cases hb : p.2.ownBlock with
    | none => exact .inl rfl
    | some k => exact .inr (fun e => hne k hb e.symm)
  unfold Apt at ha
  rw [List.map_append, List.map_cons] at ha
  obtain ⟨_, ha2, ha3⟩ := List.pairwise_append.1 ha
  obtain ⟨ha4, _⟩ := List.pairwise_cons.1 ha2
  refine ⟨?_, fun p hp => ?_⟩
  · rw [hlen, hfl]
    refine World.ownsRow.kept h.top hg ?_
    cases hb : v.ownBlock with
    | none => exact .inl rfl
    | some k => exact .inr (fun e => hu0 k e.symm hb)
  · rcases List.mem_append.1 hp with hp | hp
    · exact other p (fun g hg1 hg2 => ha3 p.2 (List.mem_map.2 ⟨p, hp, rfl⟩) u List.mem_cons_self g hg1 hg2) (List.mem_append.2 (.inl hp))
    · rcases List.mem_cons.1 hp with rfl | hp
      · exact ⟨hu, hu0⟩
      · exact other p (fun g hg1 hg2 => ha4 p.2 (List.mem_map.2 ⟨p, hp, rfl⟩) g hg2 hg1) (List.mem_append.2 (.inr (List.mem_cons_of_mem _ hp)))
theorem split_at (Q : List (Fd × Value)) (k : Nat) (h : k < Q.length) : Q.drop k = Q[k] :: Q.drop (k + 1) := List.drop_eq_getElem_cons h
theorem allF_map_take (Q : List (Fd × Value)) (k : Nat) (h : k < Q.length) : allF ((Q.take k).map (·.1)) + (Q[k]).1.b.length ≤ allF (Q.map (·.1)) := by
  have e : Q = Q.take k ++ Q[k] :: Q.drop (k + 1) := by rw [← split_at Q k h, List.take_append_drop]
  have e2 : allF (Q.map (·.1)) = allF ((Q.take k).map (·.1)) + ((Q[k]).1.b.length + allF ((Q.drop (k + 1)).map (·.1))) := by
    conv => lhs; rw [e]
    rw [List.map_append, allF_app, List.map_cons, allF_cons]
  omega

set_option maxHeartbeats 3200000 in
theorem markFO_any (w : World) (B : Nat) (v : Value) (Q : List (Fd × Value)) (h : FOwn w B v Q) (ha : Apt Q) (hB : B ≤ w.heap.size) (hL : Q.length + allF (Q.map (·.1)) ≤ 1048576) :
    Calls Tryd.prog 12 #[v, .int .i64 1] w fun e w' => e = .returned (.int .i64 (1 + (Q.length : Nat) + (allF (Q.map (·.1)) : Nat))) ∧ FOwn w' B v (mkQ 1 Q) ∧ Below B w w' := by
  have HF := Lib.hid h
  have HA := Lib.hid ha
  have HBZ := Lib.hid hB
  obtain ⟨A, c, hvf⟩ := h.form
  subst hvf
  clear h ha hB
  go_enter Tryd.func12, Tryd.ntmps12
  go_wp2
  go_loopw [1, 5] (fun cv iv wr => ∃ k : Nat, k ≤ Q.length ∧ iv = .int .i64 k ∧ cv = .int .i64 (1 + (k : Nat) + (allF ((Q.take k).map (·.1)) : Nat)) ∧ Hid (FOwn wr B (.slice A Q.length c) (mkQ 1 (Q.take k) ++ Q.drop k)) ∧ Hid (Below B w wr)) (fun _ iv _ => Q.length - (intOf iv).toNat)
  case atStart => exact ⟨0, Nat.zero_le _, rfl, by simp [allF], Lib.hid (by simpa [mkQ] using HF.out), Lib.hid (Below.refl _ _)⟩
  case round =>
    obtain ⟨k, hk, rfl, rfl, HO, HB⟩ := hrel
    by_cases hlt : k < Q.length
    · obtain ⟨b, hA⟩ : ∃ b, A = some ⟨b, 0, none⟩ := by
        rcases HF.out.top.2 with ⟨_, h0⟩ | ⟨g, cap, cur, hv, _⟩
        · omega
        · injection hv with e1; exact ⟨g, e1⟩
      subst hA
      have hal := allF_map_take Q k hlt
      have hd := split_at Q k hlt
      have hsn : Q.take (k + 1) = Q.take k ++ [Q[k]] := by rw [List.take_add_one, List.getElem?_eq_getElem hlt]; rfl
      have hPl : (mkQ 1 (Q.take k)).length = k := by rw [mkQ_len, List.length_take]; omega
      have ho := HO.out
      have hap : Apt (mkQ 1 (Q.take k) ++ Q.drop k) := by
        unfold Apt
        rw [List.map_append, mkQ_snd, ← List.map_append, List.take_append_drop]
        exact HA.out
      have hnx := mkQ_snoc 1 (Q.take k) (Q[k])
      rw [← hsn, List.length_take, Nat.min_eq_left (by omega)] at hnx
      have hal2 : allF ((Q.take (k + 1)).map (·.1)) = allF ((Q.take k).map (·.1)) + (Q[k]).1.b.length := by
        rw [hsn, List.map_append, allF_app]; simp [allF]
      rw [hd] at ho hap
      clear hsn hd
      generalize Q[k] = q at hal hnx hal2 ho hap
      obtain ⟨⟨t, bs⟩, u⟩ := q
      simp only at hal hnx hal2
      generalize mkQ 1 (Q.take k) = P at *
      generalize hR : Q.drop (k + 1) = R at *
      have HR := Lib.hid hR
      clear hR
      generalize allF ((Q.take k).map (·.1)) = s at *
      obtain ⟨z, hz⟩ : ∃ z : Int, z = 1 + (k : Nat) + (s : Nat) := ⟨_, rfl⟩
      rw [← hz] at hnx ⊢
      have h2 := fown_tagAt ho z
      rw [hPl] at h2
      obtain ⟨_, _, hrd⟩ := ho.rds
      have hco : ∃ old, wr.cell? ⟨b, k * 2, none⟩ = some old ∧ wr.frozen? ⟨b, k * 2, none⟩ = false := by
        rcases ho.top.2 with ⟨hv, _⟩ | ⟨g, cap, cur, hv, hB, hg, hn, hc, hcs, htk⟩
        · cases hv
        · injection hv with e1 e2 e3
          injection e1 with e1
          injection e1 with e1 _ _
          subst e1
          refine ⟨cur[k * 2]'(by omega), ?_, Blk.frozen hg _⟩
          rw [Blk.cell hg]
          exact Array.getElem?_eq_getElem (by omega)
      obtain ⟨old, hco, hfo⟩ := hco
      have hbB := World.ownsRow.lt ho.top b rfl
      have hb2 := HB.out.setCell (p := ⟨b, k * 2, none⟩) hbB.1 (.int .i64 z)
      have hap2 : Apt (P ++ ((⟨z, bs⟩ : Fd), u) :: R) := by unfold Apt at hap ⊢; simpa using hap
      have hz2 : B ≤ (wr.setCell ⟨b, k * 2, none⟩ (.int .i64 z)).heap.size := Nat.le_trans HBZ.out hb2.size
      have uo : OwnL (wr.setCell ⟨b, k * 2, none⟩ (.int .i64 z)) B u bs := (h2.each ((⟨z, bs⟩ : Fd), u) (List.mem_append.2 (.inr List.mem_cons_self))).1
      have hcu : (wr.setCell ⟨b, k * 2, none⟩ (.int .i64 z)).cell? ⟨b, k * 2 + 1, none⟩ = some u := by
        have e := h2.top.cells (g := b) rfl (k * 2 + 1) u (by
          rw [flQ_app, List.getElem?_append_right (by rw [flQ_len, hPl]; omega), flQ_len, hPl, show k * 2 + 1 - k * 2 = 1 from by omega]
          rfl)
        simpa [Addr.add] using e
      have hm := markI_any _ B u bs (z + 1) (by omega) (by omega) (by omega) uo
      have HM := Lib.hid hm
      have HH2 := Lib.hid h2
      have HAP := Lib.hid hap2
      have HB2 := Lib.hid hb2
      have HNX := Lib.hid hnx
      have HAL2 := Lib.hid hal2
      have HZ := Lib.hid hz
      obtain ⟨Au, cu, huf⟩ := own_form uo
      subst huf
      clear h2 hap hap2 hb2 hnx hal2 hm uo ho hrd hPl HO HB hz hbB
      have hz0 : 0 ≤ z := by have := HZ.out; omega
      have hz1 : z ≤ 3000000 := by have := HZ.out; omega
      generalize hw2 : wr.setCell ⟨b, k * 2, none⟩ (.int .i64 z) = w2 at *
      have HW2 := Lib.hid hw2
      clear hw2
      obtain ⟨wn, hwn⟩ : ∃ wn, wn = wr := ⟨_, rfl⟩
      subst hwn
      go_upto_region 5 with fail
      rw [HW2.out]
      go_wp2_with fail
      refine HM.out.mono ?_
      rintro e w3 ⟨rfl, ho3, hg3⟩
      have h3 := fown_bytesAt HH2.out HAP.out hg3 (l := seqI (z + 1) bs.length) (by unfold OwnL; rw [seqI_len]; exact ho3)
      have H3 : Hid (FOwn w3 B (.slice (some ⟨b, 0, none⟩) Q.length c) (mkQ 1 (Q.take (k + 1)) ++ R)) := Lib.hid (by rw [HNX.out, List.append_assoc]; exact h3)
      have HB3 := Lib.hid (HB2.out.grown hg3 hz2 (fun j hj => (World.ownsRow.lt ((HH2.out.each _ (List.mem_append.2 (.inr List.mem_cons_self))).1) j hj).1))
      clear h3 ho3 hg3 HM HH2 HB2 hcu hco hfo
      go_wp2
      go_roundw
      case rel => exact ⟨k + 1, by omega, by go_num, by rw [HAL2.out]; have := HZ.out; go_num, Lib.hid (by rw [HR.out]; exact H3.out), Lib.hid HB3.out⟩
      case measure => simp [intOf]; omega
    · obtain rfl : k = Q.length := by omega
      have HW : Hid (FOwn wr B (.slice A Q.length c) (mkQ 1 Q)) := Lib.hid (by have := HO.out; rw [List.take_length, List.drop_length, List.append_nil] at this; exact this)
      rw [List.take_length]
      go_wp2
      go_ret
      exact ⟨rfl, HW.out, HB.out⟩

set_option maxHeartbeats 3200000 in
theorem heldFS_any (w : World) (v : Value) (L : List Fd) (h : FRds w v (mkF 1 L)) (hL : L.length + allF L ≤ 1048576) :
    Calls Tryd.prog 13 #[v, .int .i64 1] w fun e w' => e = .returned (.int .i64 (1 + (L.length : Nat) + (allF L : Nat))) ∧ w' = w := by
  obtain ⟨A, c, hvf⟩ := h.form
  rw [mkF_len] at hvf
  subst hvf
  have HF := Lib.hid h
  clear h
  go_enter Tryd.func13, Tryd.ntmps13
  go_wp2
  go_loop [1, 5] (fun cv iv => ∃ k : Nat, k ≤ L.length ∧ iv = .int .i64 k ∧ cv = .int .i64 (1 + (k : Nat) + (allF (L.take k) : Nat))) (fun _ iv => L.length - (intOf iv).toNat)
  case atStart => exact ⟨0, Nat.zero_le _, rfl, by simp [allF]⟩
  case round =>
    obtain ⟨k, hk, rfl, rfl⟩ := hrel
    by_cases hlt : k < L.length
    · obtain ⟨b, off, hA, hat⟩ := HF.out.cells (by rw [mkF_len]; omega)
      subst hA
      obtain ⟨x0, u, x1, hu, hp⟩ := hat.2 k (by rw [mkF_len]; omega)
      rw [mkF_get 1 L k hlt] at x0 hu
      simp only at x0 hu
      have hle := allF_take_le L k hlt
      have HS := Lib.hid (allF_snoc L k hlt)
      obtain ⟨z, hz⟩ : ∃ z : Int, z = 1 + (k : Nat) + (allF (L.take k) : Nat) := ⟨_, rfl⟩
      rw [← hz] at x0 hu ⊢
      have hz0 : 0 ≤ z := by omega
      have hz1 : z ≤ 3000000 := by omega
      generalize hm : (L.getD k f0).b.length = m at *
      have hh := heldI_any w u m (z + 1) (by omega) (by omega) (by omega) hu
      have HH := Lib.hid hh
      obtain ⟨Au, cu, rfl, _⟩ := hu
      have HZ := Lib.hid hz
      have hzz : (z != z) = false := by simp
      have hnn : ¬ z + 1 + (m : Int) < 0 := by omega
      clear hh hat hz hle hm
      go_wp2_with fail
      refine HH.out.mono ?_
      rintro e w3 ⟨rfl, rfl⟩
      go_wp2
      go_round
      case rel => exact ⟨k + 1, by omega, by go_num, by rw [HS.out]; have := HZ.out; go_num⟩
      case measure => simp [intOf]; omega
    · obtain rfl : k = L.length := by omega
      rw [List.take_length]
      go_wp2
      go_ret
      exact ⟨rfl, rfl⟩
end Go.Proofs.YthogkhifgkgplaaDoor
