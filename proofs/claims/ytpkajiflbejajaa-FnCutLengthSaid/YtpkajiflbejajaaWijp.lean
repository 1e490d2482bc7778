/-
  The walk of the program's JoinPieces. Conditions: where the list lies, and its length.
-/
import Derived.Test.YtpkajiflbejajaaWtou
import Derived.Test.YtpkajiflbejajaaWsjp
namespace Go.Proofs.Ytpkajiflbejajaa
open Go.RowKit
set_option linter.unusedVariables false

/-- Nothing is copied. -/
theorem copy_none3 {w : World} {ops : Array Oper} {rest : List Oper} {o : Oper} {a : Act} {Q : Exit → Act → World → Prop} (hgd : o.guard = none) (d s : Operand)
    (ho : o.op = .call { callee := .builtin .copy, args := #[d, s], argTypes := #[24, 24] })
    (g cap c : Nat) (A : Option Addr) (hd : a.eval d = .slice (some ⟨g, 0, none⟩) 0 cap) (hs : a.eval s = .slice A 0 c)
    (h : wpList Try.prog ops Q rest (a.put o.dst (.int .i64 0)) w) : wpList Try.prog ops Q (o :: rest) a w := by
  obtain ⟨i0, hi, hz0, hz1, hz2⟩ := info_parts infoP
  have hrun : (Builtin.copy_ #[24, 24] o.type #[.slice (some ⟨g, 0, none⟩) 0 cap, .slice A 0 c]).run Try.prog w = .ok (.int .i64 0) w := by
    cases A with
    | none => simp [Builtin.copy_, run_underlying Try.underlying24, Builtin.lenOf, Builtin.firstCells, sizeOf, typeInfo, hi, storeCells, goInt]
    | some ad => simp [Builtin.copy_, run_underlying Try.underlying24, Builtin.lenOf, Builtin.firstCells, sizeOf, typeInfo, hi, storeCells, loadCells, loadCellsFrom, goInt]
  refine wpList_plain hgd fun K hK => ?_
  unfold Oper.wp
  simp [execOp, ho, resolve, invoke, builtin, hd, hs, hrun, Result.andThen]
  exact hK _ _ h

set_option maxHeartbeats 1600000 in
theorem ino_nil (w : World) (A : Option Addr) (c : Nat) :
    Calls Try.prog 25 #[.slice A 0 c] w
      fun e w' => e = .returned (.slice (some ⟨w.heap.size, 0, none⟩) 0 0) ∧ OwnP w' w.heap.size (.slice (some ⟨w.heap.size, 0, none⟩) 0 0) [] ∧ Below w.heap.size w w' := by
  obtain ⟨i0, hi, hz0, hz1, hz2⟩ := info_parts infoP
  have HI := Lib.hid hi
  have HZ0 := Lib.hid hz0
  have HZ1 := Lib.hid hz1
  have HZ2 := Lib.hid hz2
  clear hi hz0 hz1 hz2
  go_enter Try.func25, Try.ntmps25
  go_wp2_with (first | (at_make; refine wpList_make_full _ rfl _ _ 24 rfl w.heap.size 33 i0 (.agg #[.int .i64 0, .int .i64 0, .bool false]) 3 Try.underlying24 HI.out HZ0.out HZ1.out _ _ _ _ 0 rfl rfl rfl rfl (by rw [HZ2.out]; omega) (by unfold maxLen; omega) (Nat.le_refl _) ?_; intro w1 hown1 hg1; have hb1 := Lib.hid ((Below.refl w.heap.size w).grown hg1 (Nat.le_refl _) (fun k hk => by cases hk)); have HO1 : Hid (OwnP w1 w.heap.size (.slice (some ⟨w.heap.size, 0, none⟩) 0 0) []) := Lib.hid (by simpa [OwnP, pcs, madeCells] using hown1); clear hown1 hg1) | (go_at_call 34; refine (sort_any _ w.heap.size w.heap.size 0 0 [] rfl (by omega) HO1.out).mono ?_; rintro e w3 ⟨rfl, ts, hp, hs, ho3, hg3⟩; have hts := hp.eq_nil; subst hts; have HO3 := Lib.hid ho3; have hb3 := Lib.hid (below_grown hb1.out hg3 (Nat.le_refl _) hb1.out.size); clear hp hs ho3 hg3) | (refine copy_none3 rfl (.tmp 7) (.tmp 8) rfl w.heap.size 0 c A rfl rfl ?_))
  go_ret
  exact ⟨rfl, HO3.out, hb3.out⟩
theorem ino_any (w : World) (v : Value) (ps : List Pc) (h : PRds w v ps) (hn2 : ps.length ≤ 1000) :
    Calls Try.prog 25 #[v] w
      fun e w' => e = .returned (.slice (some ⟨w.heap.size, 0, none⟩) ps.length ps.length) ∧ (∃ ts : List Pc, ts.Perm ps ∧ ts.Pairwise (fun p q => p.a ≤ q.a) ∧ OwnP w' w.heap.size (.slice (some ⟨w.heap.size, 0, none⟩) ps.length ps.length) ts) ∧ Below w.heap.size w w' := by
  obtain ⟨A, c, rfl, h1⟩ := h
  rcases Nat.eq_zero_or_pos ps.length with h0 | h0
  · obtain rfl : ps = [] := List.eq_nil_of_length_eq_zero h0
    exact (ino_nil w A c).mono fun e w' ⟨h1, h2, h3⟩ => ⟨h1, ⟨[], List.Perm.refl _, by simp, h2⟩, h3⟩
  · obtain ⟨b, off, rfl, ha⟩ := h1 h0
    exact ino_at w b off c ps.length ps rfl hn2 ha
set_option maxHeartbeats 800000 in
theorem tou_nil (w : World) (A : Option Addr) (c : Nat) :
    Calls Try.prog 24 #[.slice A 0 c] w
      fun e w' => ∃ A' c', e = .returned (.slice A' 0 c') ∧ OwnP w' w.heap.size (.slice A' 0 c') [] ∧ Below w.heap.size w w' := by
  go_enter Try.func24, Try.ntmps24
  go_wp2
  refine wp_loop_rounds 1 ?_
  rw [rounds_succ]
  go_wp2
  go_ret
  exact ⟨_, _, rfl, OwnP.nil _ _, Below.refl _ _⟩
theorem tou_any (w : World) (v : Value) (ts : List Pc) (h : PRds w v ts) (hn2 : ts.length ≤ 1000) (hv : ts.all pcB = true) :
    Calls Try.prog 24 #[v] w
      fun e w' => ∃ A c', e = .returned (.slice A (tou ts).length c') ∧ OwnP w' w.heap.size (.slice A (tou ts).length c') (tou ts) ∧ Below w.heap.size w w' := by
  obtain ⟨A, c, rfl, h1⟩ := h
  rcases Nat.eq_zero_or_pos ts.length with h0 | h0
  · obtain rfl : ts = [] := List.eq_nil_of_length_eq_zero h0
    exact tou_nil w A c
  · obtain ⟨b, off, rfl, ha⟩ := h1 h0
    exact tou_at w b off c ts.length ts rfl hn2 hv ha

/-- A row, told whether there are more by where it ends. -/
def fl (E : Int) (p : Pc) : Pc := ⟨p.a, p.s, p.e != E⟩
theorem fl_e (E : Int) (p : Pc) : (fl E p).e = p.e := rfl
theorem inn_fl (E : Int) (l : List Pc) (k : Int) : Inn (l.map (fl E)) k ↔ Inn l k := by
  constructor
  · rintro ⟨p, hp, h⟩
    obtain ⟨q, hq, rfl⟩ := List.mem_map.1 hp
    exact ⟨q, hq, h⟩
  · rintro ⟨p, hp, h⟩
    exact ⟨fl E p, List.mem_map.2 ⟨p, hp, rfl⟩, h⟩
theorem norm_fl {E : Int} {l : List Pc} (h : Norm l) : Norm (l.map (fl E)) := by
  refine ⟨?_, fun p hp => ?_⟩
  · rw [List.pairwise_map]
    exact h.1
  · obtain ⟨q, hq, rfl⟩ := List.mem_map.1 hp
    exact h.2 q hq
theorem fl_step (E : Int) (l : List Pc) (k : Nat) (hk : k < l.length) : ((l.take k).map (fl E) ++ l.drop k).set k (fl E (l.getD k d0)) = (l.take (k + 1)).map (fl E) ++ l.drop (k + 1) := by
  have hl : ((l.take k).map (fl E)).length = k := by rw [List.length_map, List.length_take]; omega
  rw [List.set_append, if_neg (by omega), hl, Nat.sub_self, drop_at l k hk, List.set_cons_zero, ptake_snoc l k hk, List.map_append]
  simp
theorem fl_get (E : Int) (l : List Pc) (k : Nat) (hk : k < l.length) : ((l.take k).map (fl E) ++ l.drop k).getD k d0 = l.getD k d0 := by
  have hl : ((l.take k).map (fl E)).length = k := by rw [List.length_map, List.length_take]; omega
  rw [List.getD_eq_getElem?_getD, List.getElem?_append_right (by omega), hl, Nat.sub_self, drop_at l k hk]
  rfl
theorem fl_len (E : Int) (l : List Pc) (k : Nat) (hk : k ≤ l.length) : ((l.take k).map (fl E) ++ l.drop k).length = l.length := by
  rw [List.length_append, List.length_map, List.length_take, List.length_drop]; omega
theorem JP.of_tou {ps ts : List Pc} (ho : okE ps = true) (hp : ts.Perm ps) (hs : ts.Pairwise (fun p q => p.a ≤ q.a)) :
    JP ps ((tou ts).map (fl (fE ps))) ∧ ts.all pcB = true ∧ (tou ts).length ≤ 20 ∧ ∀ k, k < (tou ts).length → inB ((tou ts).getD k d0) := by
  obtain ⟨hall, h20, _⟩ := okE_valid ho
  have hall2 : ts.all pcB = true := by
    rw [List.all_eq_true] at hall ⊢
    intro p hm
    exact hall p (hp.mem_iff.1 hm)
  have h1 : ∀ p ∈ ts, 1 ≤ p.s := fun p hm => (pc_yes (List.all_eq_true.1 hall2 p hm)).2.2.1
  obtain ⟨hN, hI, hL⟩ := tou_all h1 hs
  have hin : ∀ k, Inn (tou ts) k ↔ Inn ps k := fun k => (hI k).trans ⟨fun ⟨p, hm, h⟩ => ⟨p, hp.mem_iff.1 hm, h⟩, fun ⟨p, hm, h⟩ => ⟨p, hp.mem_iff.2 hm, h⟩⟩
  refine ⟨⟨fun _ => ⟨norm_fl hN, fun k => (inn_fl _ _ k).trans (hin k), fun p hm => ?_⟩, fun h => by rw [ho] at h; cases h⟩, hall2, by have := hp.length_eq; omega, fun k hk => ?_⟩
  · obtain ⟨q, hq, rfl⟩ := List.mem_map.1 hm
    rfl
  · have hm : (tou ts).getD k d0 ∈ tou ts := by rw [List.getD_eq_getElem?_getD, List.getElem?_eq_getElem hk]; exact List.getElem_mem hk
    generalize (tou ts).getD k d0 = p at hm
    have hs1 := hN.2 p hm
    have he : p.e = p.a + p.s := rfl
    have b1 := inn_bd hall2 ((hI p.a).1 ⟨p, hm, by omega, by omega⟩)
    have b2 := inn_bd hall2 ((hI (p.e - 1)).1 ⟨p, hm, by omega, by omega⟩)
    exact ⟨b1.1, hs1, by omega⟩

set_option maxHeartbeats 3200000 in
theorem iJP_any (w : World) (v : Value) (ps : List Pc) (h : PRds w v ps) (hn : ps.length ≤ 1048576) :
    Calls Try.prog 9 #[v] w (JPost ps w) := by
  have hE := iEO_any w v ps h hn
  have HR0 := Lib.hid h
  cases hok : okE ps
  · have hjp : JP ps [] := ⟨(fun h => by rw [hok] at h; cases h), fun _ => rfl⟩
    rw [hok, show endR ps = -1 from by simp [endR, hok]] at hE
    have HE := Lib.hid hE
    have HJ := Lib.hid hjp
    clear hE hok hjp
    obtain ⟨A, c, rfl, _⟩ := h
    go_enter Try.func9, Try.ntmps9
    go_wp2_with (go_at_call 19; refine HE.out.mono ?_; rintro e w' ⟨rfl, hb⟩)
    go_ret
    exact ⟨_, [], rfl, HJ.out, OwnP.nil _ _, hb⟩
  · obtain ⟨hall, h20, hend⟩ := okE_valid hok
    rw [hok, hend] at hE
    have HE := Lib.hid hE
    have HJ := Lib.hid (fun ts h1 h2 => JP.of_tou (ts := ts) hok h1 h2)
    have HINO := Lib.hid (fun W h => ino_any W v ps h (by omega))
    have hEb := fE_bd hall
    clear hE hok hend hall
    generalize fE ps = E at *
    obtain ⟨A, c, rfl, _⟩ := h
    go_enter Try.func9, Try.ntmps9
    go_wp2_with fail
    refine HE.out.mono ?_
    rintro e w1 ⟨rfl, hb1⟩
    have HB1 := Lib.hid hb1
    have HR1 := Lib.hid (HR0.out.more hb1)
    clear hb1
    go_wp2_with fail
    refine (HINO.out _ HR1.out).mono ?_
    rintro e w2 ⟨rfl, ⟨ts, hp, hs, ho2⟩, hb2⟩
    obtain ⟨hjp, hall2, hl20, hib⟩ := HJ.out ts hp hs
    have HB2 := Lib.hid (HB1.out.trans (hb2.mono HB1.out.size))
    have HO2 := Lib.hid ho2
    have HR2 : Hid (PRds w2 (.slice (some ⟨w1.heap.size, 0, none⟩) ps.length ps.length) ts) := Lib.hid (PRds.of_own ho2)
    have HJP := Lib.hid hjp
    have HIB := Lib.hid hib
    have hlp := hp.length_eq
    have HTOU := Lib.hid (fun W v h => tou_any W v ts h (by omega) hall2)
    clear hp hs ho2 hb2 hjp hib hall2 hlp
    go_wp2_with fail
    refine (HTOU.out _ _ HR2.out).mono ?_
    rintro e w3 ⟨A3, c3, rfl, ho3, hb3⟩
    have HB3 := Lib.hid (HB2.out.trans (hb3.mono HB2.out.size))
    have HO3 := Lib.hid ho3
    have hsz := HB2.out.size
    clear ho3 hb3
    generalize tou ts = T at *
    obtain ⟨N, hN⟩ : ∃ N, N = T.length := ⟨_, rfl⟩
    rw [← hN] at HO3 hl20 HIB ⊢
    have HN := Lib.hid hN
    clear hN
    go_wp2
    go_loopw [20] (fun iv wr => ∃ k : Nat, k ≤ N ∧ iv = .int .i64 k ∧ OwnP wr w2.heap.size (.slice A3 N c3) ((T.take k).map (fl E) ++ T.drop k) ∧ Below w.heap.size w wr) (fun iv _ => N - (intOf iv).toNat)
    case atStart => exact ⟨0, Nat.zero_le _, rfl, HO3.out, HB3.out⟩
    case round =>
      obtain ⟨k, hk, rfl, hown, hbel⟩ := hrel
      have HO := Lib.hid hown
      have HBEL := Lib.hid hbel
      by_cases hlt : k < N
      · have hkT : k < T.length := by rw [← HN.out]; exact hlt
        have hlen := fl_len E T k (by omega)
        obtain ⟨gg, cc, hform, hcc⟩ := own_form3_some (show wr.ownsRow w2.heap.size 33 3 (.slice A3 N c3) N (pcs ((T.take k).map (fl E) ++ T.drop k)) from by have := hown; unfold OwnP at this; rwa [hlen, ← HN.out] at this) (by omega)
        cases hform
        obtain ⟨c0, c1, c2, f0, f1, f2⟩ := hown.slots k (by rw [hlen]; exact hkT)
        rw [fl_get E T k hkT] at c0 c1 c2
        have hb := HIB.out k hlt
        have hg1 := (World.ownsRow.lt hown gg rfl)
        have HSTEP : Hid (∀ w', OwnP w' w2.heap.size (.slice (some ⟨gg, 0, none⟩) N c3) ((T.take k).map (fl E) ++ T.drop k) → OwnP (w'.setCell ⟨gg, k * 3 + 2, none⟩ (.bool ((T.getD k d0).e != E))) w2.heap.size (.slice (some ⟨gg, 0, none⟩) N c3) ((T.take (k + 1)).map (fl E) ++ T.drop (k + 1)) ∧ w'.grownBy (w'.setCell ⟨gg, k * 3 + 2, none⟩ (.bool ((T.getD k d0).e != E))) (some gg)) := Lib.hid (fun w' ho => by
          have h1 := ho.storedM k (by rw [hlen]; exact hkT) ((T.getD k d0).e != E)
          rw [fl_get E T k hkT] at h1
          have e2 : (⟨(T.getD k d0).a, (T.getD k d0).s, (T.getD k d0).e != E⟩ : Pc) = fl E (T.getD k d0) := rfl
          rw [e2, fl_step E T k hkT] at h1
          exact h1)
        have HLEN := Lib.hid hlen
        clear hlen hown hbel hkT
        generalize T.getD k d0 = q at *
        obtain ⟨xa, xs, xm⟩ := q
        obtain ⟨b0, b1, b2⟩ := hb
        simp only [Pc.e] at c0 c1 c2 b0 b1 b2 HSTEP
        have HEA := Lib.hid (fun W => iea_any W xa xs xm (by omega) (by omega))
        go_wp2_with (go_at_call 26; refine (HEA.out _).mono ?_; rintro e w5 ⟨rfl, hb5⟩; have hbb5 := Lib.hid (((Below.refl wr.heap.size wr).alloc (Nat.le_refl _) (.cells #[.int .i64 xa, .int .i64 xs, .bool xm] 33)).trans (hb5.mono (by simp))); have HO5 : Hid (OwnP w5 w2.heap.size (.slice (some ⟨gg, 0, none⟩) N c3) ((T.take k).map (fl E) ++ T.drop k)) := Lib.hid (own3_below HO.out hbb5.out (fun k hk => by cases hk; exact hg1.2)); obtain ⟨d0', d1', d2', f0', f1', f2'⟩ := HO5.out.slots k (by rw [HLEN.out, ← HN.out]; exact hlt); clear hb5)
        have hst := HSTEP.out w5 HO5.out
        have hbb : Below w.heap.size w w5 := HBEL.out.trans (hbb5.out.mono HBEL.out.size)
        have hb6 := below_grown hbb hst.2 (by have := hg1.1; omega) hbb.size
        have HST := Lib.hid hst.1
        have HB6 := Lib.hid hb6
        go_roundw
        case rel => exact ⟨k + 1, by omega, by go_num, HST.out, HB6.out⟩
        case measure => simp [intOf]; omega
      · have hkN : k = T.length := by have := HN.out; omega
        have e : (T.take k).map (fl E) ++ T.drop k = T.map (fl E) := by
          rw [hkN, List.take_length, List.drop_length, List.append_nil]
        rw [e] at hown
        clear e hkN
        go_wp2
        go_ret
        exact ⟨_, _, rfl, HJP.out, own3_base hown (fun g hg => by have := (World.ownsRow.lt hown g hg).1; omega), hbel⟩
end Go.Proofs.Ytpkajiflbejajaa
