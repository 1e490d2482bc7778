/-
  The walk of the program's function that returns pieces in order. Conditions: where the list lies, and its length.
-/
import Derived.Test.YtpkajiflbejajaaWsrt
namespace Go.Proofs.Ytpkajiflbejajaa
open Go.RowKit
set_option linter.unusedVariables false

theorem run_copy3 {P : Program} (w : World) (dT sT ty elem : TypeId) (g dLen dCap : Nat) (a : Addr) (sLen sCap : Nat) (cur : Array Value) (t : TypeId) (cs : List Value)
    (hu : P.underlying dT = some (.slice elem)) (hs : (P.info? elem).map (·.size) = some 3)
    (hg : w.heap[g]? = some (.cells cur t (0, 0))) (hn : cs.length = Nat.min sLen dLen * 3)
    (hsrc : ∀ j v, cs[j]? = some v → w.cell? (a.add j) = some v) (hfit : cs.length ≤ cur.size) (h1 : ∀ v ∈ cs, v.oneCell' = true) :
    (Builtin.copy_ #[dT, sT] ty #[.slice (some ⟨g, 0, none⟩) dLen dCap, .slice (some a) sLen sCap]).run P w =
      .ok (.int .i64 ((Nat.min sLen dLen : Nat) : Int)) (w.setRow g (cs ++ cur.toList.drop cs.length).toArray) := by
  have hl := run_loadCells_list (P := P) w a cs hsrc
  have hst := run_storeCells_at P g 0 t cs 0 cur w hg (by simpa using hfit) h1
  cases hq : P.info? elem with
  | none => simp [hq] at hs
  | some i =>
    have hi : i.size = 3 := by simpa [hq] using hs
    rw [hn] at hl
    simp [Builtin.copy_, run_underlying hu, Builtin.lenOf, Builtin.firstCells, sizeOf, typeInfo, hq, hi, hl, hst, goInt]
theorem own_src3 {w : World} {b off : Nat} {ps : List Pc} (h : PAt w b off ps) : ∀ j u, (pcs ps)[j]? = some u → w.cell? ((⟨b, off, none⟩ : Addr).add j) = some u := by
  intro j u hj
  have hlt : j < (pcs ps).length := (List.getElem?_eq_some_iff.1 hj).1
  rw [pcs_len] at hlt
  have e : (⟨b, off, none⟩ : Addr).add j = ⟨b, off + j, none⟩ := by unfold Addr.add; split <;> simp_all
  have hk : j / 3 < ps.length := by omega
  obtain ⟨g0, g1, g2⟩ := pcs_get ps (j / 3) hk
  obtain ⟨c0, c1, c2⟩ := h.2 (j / 3) hk
  rw [e, ← hj]
  rcases (show j % 3 = 0 ∨ j % 3 = 1 ∨ j % 3 = 2 from by omega) with h3 | h3 | h3
  · have ej : j = j / 3 * 3 := by omega
    rw [show off + j = off + j / 3 * 3 from by omega, c0, ← g0, ← ej]
  · have ej : j = j / 3 * 3 + 1 := by omega
    rw [show off + j = off + j / 3 * 3 + 1 from by omega, c1, ← g1, ← ej]
  · have ej : j = j / 3 * 3 + 2 := by omega
    rw [show off + j = off + j / 3 * 3 + 2 from by omega, c2, ← g2, ← ej]
theorem pcs_one' : ∀ ps : List Pc, ∀ u ∈ pcs ps, u.oneCell' = true
  | [], u, h => by simp [pcs] at h
  | p :: ps, u, h => by
    simp only [pcs, List.mem_cons] at h
    rcases h with rfl | rfl | rfl | h
    · rfl
    · rfl
    · rfl
    · exact pcs_one' ps u h
/-- Pieces are copied into a row of the call's own. -/
theorem copy_ownP {w : World} {ops : Array Oper} {rest : List Oper} {o : Oper} {a : Act} {Q : Exit → Act → World → Prop} (hgd : o.guard = none) (d s : Operand)
    (ho : o.op = .call { callee := .builtin .copy, args := #[d, s], argTypes := #[24, 24] })
    (B g cap n b off c : Nat) (ps0 ps : List Pc) (hd : a.eval d = .slice (some ⟨g, 0, none⟩) n cap) (hs : a.eval s = .slice (some ⟨b, off, none⟩) n c) (hl0 : ps0.length = n) (hl : ps.length = n)
    (hown : OwnP w B (.slice (some ⟨g, 0, none⟩) n cap) ps0) (hat : PAt w b off ps)
    (h : ∀ w', OwnP w' B (.slice (some ⟨g, 0, none⟩) n cap) ps → w.grownBy w' (some g) → wpList Try.prog ops Q rest (a.put o.dst (.int .i64 (n : Int))) w') : wpList Try.prog ops Q (o :: rest) a w := by
  subst hl0
  have hown' := hown
  rcases hown'.2 with ⟨h', _⟩ | ⟨g', cap', cur, h', hb, hg, hnc, hcm, hcs, _⟩
  · simp at h'
  · simp only [Value.slice.injEq, Option.some.injEq, Addr.mk.injEq, and_true, true_and] at h'
    obtain ⟨rfl, rfl⟩ := h'
    have hpl : (pcs ps).length = ps0.length * 3 := by rw [pcs_len, hl]
    have hfit : (pcs ps).length ≤ cur.size := by rw [hpl, hcs]; exact Nat.mul_le_mul_right 3 hnc
    have hmm : ps0.length.min ps0.length = ps0.length := Nat.min_self _
    have hrun := run_copy3 (P := Try.prog) w 24 24 o.type 33 g ps0.length cap ⟨b, off, none⟩ ps0.length c cur 33 (pcs ps) Try.underlying24 (by kernel_rfl) hg (by rw [hpl, hmm]) (own_src3 hat) hfit (pcs_one' ps)
    rw [hmm] at hrun
    have hset : (w.setRow g (pcs ps ++ cur.toList.drop (pcs ps).length).toArray).heap[g]? = some (.cells (pcs ps ++ cur.toList.drop (pcs ps).length).toArray 33 (0, 0)) := setRow_heap w g cur _ _ _ hg
    have hgr : w.grownBy (w.setRow g (pcs ps ++ cur.toList.drop (pcs ps).length).toArray) (some g) := ⟨rfl, rfl, rfl, by simp [World.setRow], fun k _ hk => setRow_other w g k _ (fun e => hk (by rw [e]))⟩
    refine wpList_plain hgd fun K hK => ?_
    unfold Oper.wp
    simp [execOp, ho, resolve, invoke, builtin, hd, hs, hrun, Result.andThen]
    refine hK _ _ (h _ ?_ hgr)
    unfold OwnP
    rw [hl]
    refine ⟨hpl, .inr ⟨g, cap, _, rfl, hb, hset, hnc, hcm, ?_, ?_⟩⟩
    · simp only [List.size_toArray, List.length_append, List.length_drop, Array.length_toList]
      omega
    · rw [← hpl]; simp

set_option maxHeartbeats 1600000 in
theorem ino_at (w : World) (b off c n : Nat) (ps : List Pc) (hn : ps.length = n) (hn2 : n ≤ 1000) (h : PAt w b off ps) :
    Calls Try.prog 25 #[.slice (some ⟨b, off, none⟩) n c] w
      fun e w' => e = .returned (.slice (some ⟨w.heap.size, 0, none⟩) n n) ∧ (∃ ts : List Pc, ts.Perm ps ∧ ts.Pairwise (fun p q => p.a ≤ q.a) ∧ OwnP w' w.heap.size (.slice (some ⟨w.heap.size, 0, none⟩) n n) ts) ∧ Below w.heap.size w w' := by
  obtain ⟨i0, hi, hz0, hz1, hz2⟩ := info_parts infoP
  have HI := Lib.hid hi
  have HZ0 := Lib.hid hz0
  have HZ1 := Lib.hid hz1
  have HZ2 := Lib.hid hz2
  have HN := Lib.hid hn
  have HC := Lib.hid h
  clear hi hz0 hz1 hz2 h hn
  go_enter Try.func25, Try.ntmps25
  go_wp2_with (first | (at_make; refine wpList_make_full _ rfl _ _ 24 rfl w.heap.size 33 i0 (.agg #[.int .i64 0, .int .i64 0, .bool false]) 3 Try.underlying24 HI.out HZ0.out HZ1.out _ _ _ _ n rfl rfl rfl rfl (by rw [HZ2.out]; omega) (by unfold maxLen; omega) (Nat.le_refl _) ?_; intro w1 hown1 hg1; have hb1 := Lib.hid ((Below.refl w.heap.size w).grown hg1 (Nat.le_refl _) (fun k hk => by cases hk)); have HO1 : Hid (OwnP w1 w.heap.size (.slice (some ⟨w.heap.size, 0, none⟩) n n) (List.replicate n d0)) := Lib.hid (by unfold OwnP; rw [List.length_replicate, pcs_rep]; exact hown1); clear hown1 hg1) | (go_at_call 34; refine (sort_any _ w.heap.size w.heap.size n n ps HN.out hn2 HO2.out).mono ?_; rintro e w3 ⟨rfl, ts, hp, hs, ho3, hg3⟩; have HTS := Lib.hid (And.intro hp (And.intro hs ho3)); have hb3 := Lib.hid (below_grown hb2.out hg3 (Nat.le_refl _) hb2.out.size); clear hp hs ho3 hg3) | (refine copy_ownP rfl (.tmp 7) (.tmp 8) rfl w.heap.size w.heap.size n n b off c (List.replicate n d0) ps rfl rfl (by simp) HN.out HO1.out (HC.out.below hb1.out HC.out.1) ?_; intro w2 hown2 hg2; have HO2 := Lib.hid hown2; have hb2 := Lib.hid (below_grown hb1.out hg2 (Nat.le_refl _) hb1.out.size); clear hown2 hg2))
  go_ret
  exact ⟨rfl, ⟨ts, HTS.out⟩, hb3.out⟩
end Go.Proofs.Ytpkajiflbejajaa
