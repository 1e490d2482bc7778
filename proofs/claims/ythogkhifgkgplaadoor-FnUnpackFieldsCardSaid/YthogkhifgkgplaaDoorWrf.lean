/-
  The walk of the function that reads the field bytes begin with. Conditions: where the list lies, the length that is typed, and what the error variable holds.
-/
import Derived.Test.YthogkhifgkgplaaDoorWnf
import Derived.Test.YthogkhifgkgplaaDoorFlm
set_option linter.unusedSimpArgs false
namespace Go.Proofs.YthogkhifgkgplaaDoor
open Go.RowKit
set_option linter.unusedVariables false

theorem Blk.set2 {w : World} {g : Nat} {t : TypeId} {x0 x1 : Value} (h : Blk w g t #[x0, x1]) (a b : Value) : Blk ((w.setCell ⟨g, 0, none⟩ a).setCell ⟨g, 1, none⟩ b) g t #[a, b] := by
  have := (h.set_ 0 a).set_ 1 b
  simpa using this
theorem results_row_ctt {P : Program} {fn : Func} {p q u : Tmp} {ty : TypeId} (h : fn.results = #[.cell p ty, .tmp q, .tmp u]) (tmps : Array Value) (w : World) (g : Nat) (t : TypeId) (cs : Array Value) (fr : Nat × Nat) (d : TypeDesc)
    (hp : tmps.getD p undef = .pointer (some ⟨g, 0, none⟩)) (hg : w.heap[g]? = some (.cells cs t fr))
    (hu : P.underlying ty = some d) (hd : (match d with | .struct _ | .array _ _ => true | _ => false) = true) (hi : (P.info? ty).map (·.size) = some cs.size) :
    (results fn tmps).run P w = .ok (.tuple #[.agg cs, tmps.getD q undef, tmps.getD u undef]) w := by
  have hp' : tmps[p]?.getD undef = .pointer (some ⟨g, 0, none⟩) := by simpa using hp
  simp [results, h, hp', asAddr, Sem.run_bind, Result.andThen, run_loadVar_row w g t ty cs fr d hg hu hd hi]
/-- The errors of a field that is not there. -/
def RfErr (a : Addr) (xs : List Int) (er : Value) : Prop := (er = .iface 104 (.pointer (some a)) ∧ xs ≠ []) ∨ er = .iface 43 (.agg #[.int .i64 xs.length])
theorem rfErr_one (a : Addr) (xs : List Int) (n : Nat) (hn : n ≤ xs.length) : RfErr a xs (nfErr a xs.length (xs.drop n)) := by
  unfold nfErr RfErr
  split
  · rename_i h
    refine .inl ⟨rfl, fun e => ?_⟩
    subst e
    simp at h
  · exact .inr rfl
theorem nfErr_form (a : Addr) (n : Nat) (l : List Int) : ∃ T V, nfErr a n l = .iface T V := by
  unfold nfErr
  split
  · exact ⟨_, _, rfl⟩
  · exact ⟨_, _, rfl⟩
theorem cut_any2 (w : World) (v : Value) (xs : List Int) (fr to : Nat) (h : Rdc w v xs) (hf : fr ≤ to) (ht : to ≤ xs.length) (hn : xs.length ≤ 1048576) :
    Calls Tryd.prog 51 #[v, .int .i64 fr, .int .i64 to] w fun e w' => (∃ A c, e = .returned (.tuple #[.slice A (to - fr) c, .nilIface]) ∧ (∀ W, Rdc W v xs → Rds W (.slice A (to - fr) c) ((xs.drop fr).take (to - fr))) ∧ Proper (.slice A (to - fr) c)) ∧ w = w' := by
  obtain ⟨A, c, rfl, hc, h1⟩ := h
  have hlen : ((xs.drop fr).take (to - fr)).length = to - fr := by rw [List.length_take, List.length_drop]; omega
  by_cases he : fr = to
  · subst he
    refine (cut_none w A xs.length c fr ht hc hn).mono fun e w' ⟨⟨A', e1⟩, e2⟩ => ⟨⟨A', 0, by rw [Nat.sub_self]; exact e1, fun W _ => ⟨A', 0, by rw [hlen], fun h0 => by rw [hlen] at h0; omega⟩, fun n c e => by rw [Nat.sub_self] at e ⊢; injection e with a b c; rw [a]⟩, e2⟩
  · obtain ⟨b, off, rfl, ha⟩ := h1 (by omega)
    refine (cut_some w b off xs.length c fr to (by omega) ht hc hn).mono fun e w' ⟨e1, e2⟩ => ⟨⟨_, _, e1, fun W hW => ?_, fun n c e => by injection e with a; cases a⟩, e2⟩
    obtain ⟨A2, c2, hv2, _, h2⟩ := hW
    injection hv2 with q1 _ _
    obtain ⟨b2, off2, q2, ha2⟩ := h2 (by omega)
    rw [q2] at q1
    injection q1 with q1
    injection q1 with q3 q4
    subst q3; subst q4
    exact ⟨_, to - fr, by rw [hlen], fun _ => ⟨b, off + fr, rfl, at_mid ha2 fr (to - fr)⟩⟩

/-- What the reader of a field leaves. -/
def RfPost (a : Addr) (xs : List Int) (w : World) (e : Ending) (w' : World) : Prop :=
  Below w.heap.size w w' ∧
  match oneF xs with
  | some (f, n) => ∃ A c, e = .returned (.tuple #[.agg #[.int .i64 f.t, .slice A f.b.length c], .int .i64 (n : Nat), .nilIface]) ∧ Rds w (.slice A f.b.length c) f.b ∧ Proper (.slice A f.b.length c)
  | none => ∃ er, e = .returned (.tuple #[.agg #[.int .i64 0, .slice none 0 0], .int .i64 0, er]) ∧ RfErr a xs er

set_option maxRecDepth 50000 in
set_option maxHeartbeats 6400000 in
theorem rfd_any (a : Addr) (w : World) (v : Value) (xs : List Int) (h : Rdc w v xs) (hn : xs.length ≤ 1048576) (he : ErrA w a) :
    Calls Tryd.prog 37 #[v] w (RfPost a xs w) := by
  have hb0 := (Below.refl w.heap.size w).alloc (Nat.le_refl _) (.cells #[.int .i64 0, .slice none 0 0] 55)
  have k0 := Blk.new w 55 #[.int .i64 0, .slice none 0 0]
  have hN1 := nfr_any a (w.alloc (.cells #[.int .i64 0, .slice none 0 0] 55)) v xs 0 (h.below hb0 h.lies) (Nat.zero_le _) hn (he.below hb0)
  have HN2 := Lib.hid (fun (n : Nat) (hx : n ≤ xs.length) W (hb : Below w.heap.size w W) => nfr_any a W v xs n (h.below hb h.lies) hx hn (he.below hb))
  have HC2 := Lib.hid (fun (fr to : Nat) (h1 : fr ≤ to) (h2 : to ≤ xs.length) W (hb : Below w.heap.size w W) => cut_any2 W v xs fr to (h.below hb h.lies) h1 h2 hn)
  have HEB := Lib.hid (fun W (hb : Below w.heap.size w W) => he.below hb)
  have hgn1 : ¬ 1 = w.heap.size := by have := he.2; omega
  have hgn2 : ¬ w.heap.size = 1 := fun e => hgn1 e.symm
  have HRW := Lib.hid h
  unfold NfPost at hN1
  rw [List.drop_zero] at hN1
  obtain ⟨A, c, hvf, _, _⟩ := h
  obtain ⟨V0, hV0⟩ : ∃ V0, V0 = v := ⟨_, rfl⟩
  rw [← hV0] at HRW HC2
  have HV0 := Lib.hid hV0
  clear hV0
  subst hvf
  have HB0 := Lib.hid hb0
  have HK0 := Lib.hid k0
  have hz1 : w.heap.size < (w.alloc (.cells #[.int .i64 0, .slice none 0 0] 55)).heap.size := by simp
  clear he hb0 k0
  cases h1 : nf xs with
  | none =>
    rw [h1] at hN1
    have hone : oneF xs = none := by unfold oneF; rw [h1]
    have HO := Lib.hid hone
    have HRE := Lib.hid (rfErr_one a xs 0 (Nat.zero_le _))
    rw [List.drop_zero] at HRE
    obtain ⟨T, V, hTV⟩ := nfErr_form a xs.length xs
    rw [hTV] at hN1 HRE
    simp only at hN1
    have HN1 := Lib.hid hN1
    clear hN1 h1 hone hTV
    go_enter Tryd.func37, Tryd.ntmps37
    go_upto_region 1 with fail
    generalize w.alloc (.cells #[.int .i64 0, .slice none 0 0] 55) = w1 at *
    go_wp2_with fail
    refine HN1.out.mono ?_
    rintro e w2 ⟨rfl, hb2⟩
    have k2 := HK0.out.below hb2 hz1
    obtain ⟨c0, c1⟩ := two_blk k2
    have f0' := k2.frozen 0
    have f1' := k2.frozen 1
    have HK2 := Lib.hid k2
    have HB2 := Lib.hid (HB0.out.trans (hb2.mono (Nat.le_of_lt hz1)))
    clear k2 hb2 HK0 HB0
    go_wp2
    exact bodyPost_ret (results_row_ctt (p := 2) (q := 3) (u := 4) (ty := 55) rfl _ _ w.heap.size 55 #[.int .i64 0, .slice none 0 0] (0, 0) _ rfl (Blk.set2 HK2.out _ _) Tryd.underlying55 rfl (by kernel_rfl)) rfl
      ⟨(HB2.out.setCell (p := ⟨w.heap.size, 0, none⟩) (Nat.le_refl _) _).setCell (p := ⟨w.heap.size, 1, none⟩) (Nat.le_refl _) _, by rw [HO.out]; exact ⟨_, rfl, HRE.out⟩⟩
  | some p =>
    obtain ⟨t, n1⟩ := p
    rw [h1] at hN1
    simp only [Nat.zero_add] at hN1
    obtain ⟨a1, a2, a3, a4, a5⟩ := nf_some h1
    have HN1 := Lib.hid hN1
    have hnn := HN2.out n1 (by omega)
    unfold NfPost at hnn
    clear hN1 a1 a4 HN2
    cases h2 : nf (xs.drop n1) with
    | none =>
      rw [h2] at hnn
      have HO : Hid (oneF xs = none) := Lib.hid (by unfold oneF; rw [h1]; simp only; rw [h2])
      have HRE := Lib.hid (rfErr_one a xs n1 (by omega))
      obtain ⟨T, V, hTV⟩ := nfErr_form a xs.length (xs.drop n1)
      rw [hTV] at hnn HRE
      simp only at hnn
      have HNN := Lib.hid hnn
      clear hnn h1 h2 hTV HC2
      go_enter Tryd.func37, Tryd.ntmps37
      go_upto_region 1 with fail
      generalize w.alloc (.cells #[.int .i64 0, .slice none 0 0] 55) = w1 at *
      go_wp2_with fail
      refine HN1.out.mono ?_
      rintro e w2 ⟨rfl, hb2⟩
      have HK2 := Lib.hid (HK0.out.below hb2 hz1)
      have HB2 := Lib.hid (HB0.out.trans (hb2.mono (Nat.le_of_lt hz1)))
      have hz2 : w.heap.size < w2.heap.size := Nat.lt_of_lt_of_le hz1 hb2.size
      clear hb2 HK0 HB0
      have HNW := Lib.hid (HNN.out w2 HB2.out)
      go_wp2_with fail
      refine HNW.out.mono ?_
      rintro e w3 ⟨rfl, hb3⟩
      have HK3 := Lib.hid (HK2.out.below hb3 hz2)
      have HB3 := Lib.hid (HB2.out.trans (hb3.mono (Nat.le_of_lt hz2)))
      have hz3 : w.heap.size < w3.heap.size := Nat.lt_of_lt_of_le hz2 hb3.size
      clear hb3 HK2 HB2 HNW
      have HKK := HK3
      have HBB := HB3
      obtain ⟨c0, c1⟩ := two_blk HKK.out
      have f0' := HKK.out.frozen 0
      have f1' := HKK.out.frozen 1
      go_wp2
      exact bodyPost_ret (results_row_ctt (p := 2) (q := 3) (u := 4) (ty := 55) rfl _ _ w.heap.size 55 #[.int .i64 0, .slice none 0 0] (0, 0) _ rfl (Blk.set2 HKK.out _ _) Tryd.underlying55 rfl (by kernel_rfl)) rfl
        ⟨(HBB.out.setCell (p := ⟨w.heap.size, 0, none⟩) (Nat.le_refl _) _).setCell (p := ⟨w.heap.size, 1, none⟩) (Nat.le_refl _) _, by rw [HO.out]; exact ⟨_, rfl, HRE.out⟩⟩
    | some q =>
      obtain ⟨s, n2⟩ := q
      rw [h2] at hnn
      simp only at hnn
      obtain ⟨b1, b2, b3, b4, b5⟩ := nf_some h2
      rw [List.length_drop] at b3
      have HO1 : Hid (oneF xs = if n1 + n2 + s ≤ xs.length ∧ vfB ⟨t, (xs.drop (n1 + n2)).take s⟩ = true then some (⟨t, (xs.drop (n1 + n2)).take s⟩, n1 + n2 + s) else none) := Lib.hid (by unfold oneF; rw [h1]; simp only; rw [h2])
      obtain ⟨m, hm⟩ : ∃ m, m = n1 + n2 := ⟨_, rfl⟩
      rw [← hm] at hnn HO1
      have hml : m ≤ xs.length := by omega
      have HNN := Lib.hid hnn
      clear hnn h1 h2 b1 b4 b5 hm b3
      by_cases hle : m + s ≤ xs.length
      · have hl : ((xs.drop m).take s).length = s := by rw [List.length_take, List.length_drop]; omega
        have hs' : m + s - m = s := by omega
        have HC : Hid (∀ W, Below w.heap.size w W → Calls Tryd.prog 51 #[.slice A xs.length c, .int .i64 (m : Int), .int .i64 ((m : Int) + (s : Int))] W fun e w' => (∃ A c, e = .returned (.tuple #[.slice A ((xs.drop m).take s).length c, .nilIface]) ∧ (∀ W0, Rdc W0 V0 xs → Rds W0 (.slice A ((xs.drop m).take s).length c) ((xs.drop m).take s)) ∧ Proper (.slice A ((xs.drop m).take s).length c)) ∧ W = w') := Lib.hid (fun W hb => by
          have := HC2.out m (m + s) (by omega) hle W hb
          rw [hs', HV0.out] at this
          rw [hl, HV0.out]
          exact this)
        have HO2 : Hid (oneF xs = if vfB ⟨t, (xs.drop m).take s⟩ = true then some (⟨t, (xs.drop m).take s⟩, m + s) else none) := Lib.hid (by
          rw [HO1.out]
          by_cases hv : vfB ⟨t, (xs.drop m).take s⟩ = true
          · rw [if_pos ⟨hle, hv⟩, if_pos hv]
          · rw [if_neg (fun h => hv h.2), if_neg hv])
        clear HC2 HO1 hs'
        generalize (xs.drop m).take s = bs at *
        cases hv : vfB ⟨t, bs⟩
        · have HO : Hid (oneF xs = none) := Lib.hid (by rw [HO2.out, hv]; rfl)
          have HV := Lib.hid hv
          have HL := Lib.hid hl
          clear hv HO2 hl
          go_enter Tryd.func37, Tryd.ntmps37
          go_upto_region 1 with fail
          generalize w.alloc (.cells #[.int .i64 0, .slice none 0 0] 55) = w1 at *
          go_wp2_with fail
          refine HN1.out.mono ?_
          rintro e w2 ⟨rfl, hb2⟩
          have HK2 := Lib.hid (HK0.out.below hb2 hz1)
          have HB2 := Lib.hid (HB0.out.trans (hb2.mono (Nat.le_of_lt hz1)))
          have hz2 : w.heap.size < w2.heap.size := Nat.lt_of_lt_of_le hz1 hb2.size
          clear hb2 HK0 HB0
          have HNW := Lib.hid (HNN.out w2 HB2.out)
          go_wp2_with fail
          refine HNW.out.mono ?_
          rintro e w3 ⟨rfl, hb3⟩
          have HK3 := Lib.hid (HK2.out.below hb3 hz2)
          have HB3 := Lib.hid (HB2.out.trans (hb3.mono (Nat.le_of_lt hz2)))
          have hz3 : w.heap.size < w3.heap.size := Nat.lt_of_lt_of_le hz2 hb3.size
          clear hb3 HK2 HB2 HNW
          have HCW := Lib.hid (HC.out w3 HB3.out)
          go_wp2_with fail
          refine HCW.out.mono ?_
          rintro e w4 ⟨⟨A4, c4, rfl, hr4, hp4⟩, rfl⟩
          have HR0 := Lib.hid hr4
          have HR4 := Lib.hid (hr4 w3 (HRW.out.below HB3.out HRW.out.lies))
          have HP4 := Lib.hid hp4
          clear hr4 hp4 HCW
          have hba := (Below.refl w3.heap.size w3).alloc (Nat.le_refl _) (.cells #[.int .i64 (t : Int), .slice A4 bs.length c4] 55)
          obtain ⟨d0, d1⟩ := two_blk (Blk.new w3 55 #[.int .i64 (t : Int), .slice A4 bs.length c4])
          have HVA := Lib.hid (val_any ⟨t, bs⟩ (.slice A4 bs.length c4) _ (HR4.out.more8 hba) (by show bs.length ≤ 1048576; have := HL.out; omega))
          have HKA := Lib.hid (HK3.out.below hba hz3)
          have HBA := Lib.hid (HB3.out.trans (hba.mono (Nat.le_of_lt hz3)))
          have hza : w.heap.size < (w3.alloc (.cells #[.int .i64 (t : Int), .slice A4 bs.length c4] 55)).heap.size := Nat.lt_of_lt_of_le hz3 hba.size
          clear hba HK3 HB3
          go_upto_region 11 with fail
          generalize w3.alloc (.cells #[.int .i64 (t : Int), .slice A4 bs.length c4] 55) = w5 at *
          go_wp2_with fail
          refine HVA.out.mono ?_
          rintro e w6 ⟨rfl, hb6⟩
          rw [HV.out]
          have HKK := Lib.hid (HKA.out.below hb6 hza)
          have HBB := Lib.hid (HBA.out.trans (hb6.mono (Nat.le_of_lt hza)))
          obtain ⟨g1, g2⟩ := HEB.out w6 HBB.out
          have HRE : Hid (RfErr a xs (.iface 104 (.pointer (some a)))) := Lib.hid (.inl ⟨rfl, fun e => by subst e; simp at a3; omega⟩)
          clear hb6 HKA HBA
          obtain ⟨c0, c1⟩ := two_blk HKK.out
          have f0' := HKK.out.frozen 0
          have f1' := HKK.out.frozen 1
          go_wp2
          go_region
          all_goals
            go_wp2
            exact bodyPost_ret (results_row_ctt (p := 2) (q := 3) (u := 4) (ty := 55) rfl _ _ w.heap.size 55 #[.int .i64 0, .slice none 0 0] (0, 0) _ rfl (Blk.set2 HKK.out _ _) Tryd.underlying55 rfl (by kernel_rfl)) rfl
              ⟨below_drewN ((HBB.out.setCell (p := ⟨w.heap.size, 0, none⟩) (Nat.le_refl _) (.int .i64 0)).setCell (p := ⟨w.heap.size, 1, none⟩) (Nat.le_refl _) (.slice none 0 0)) 1, by rw [HO.out]; exact ⟨_, rfl, HRE.out⟩⟩
        · have HO : Hid (oneF xs = some (⟨t, bs⟩, m + s)) := Lib.hid (by rw [HO2.out, if_pos hv])
          have HV := Lib.hid hv
          have HL := Lib.hid hl
          clear hv HO2 hl
          go_enter Tryd.func37, Tryd.ntmps37
          go_upto_region 1 with fail
          generalize w.alloc (.cells #[.int .i64 0, .slice none 0 0] 55) = w1 at *
          go_wp2_with fail
          refine HN1.out.mono ?_
          rintro e w2 ⟨rfl, hb2⟩
          have HK2 := Lib.hid (HK0.out.below hb2 hz1)
          have HB2 := Lib.hid (HB0.out.trans (hb2.mono (Nat.le_of_lt hz1)))
          have hz2 : w.heap.size < w2.heap.size := Nat.lt_of_lt_of_le hz1 hb2.size
          clear hb2 HK0 HB0
          have HNW := Lib.hid (HNN.out w2 HB2.out)
          go_wp2_with fail
          refine HNW.out.mono ?_
          rintro e w3 ⟨rfl, hb3⟩
          have HK3 := Lib.hid (HK2.out.below hb3 hz2)
          have HB3 := Lib.hid (HB2.out.trans (hb3.mono (Nat.le_of_lt hz2)))
          have hz3 : w.heap.size < w3.heap.size := Nat.lt_of_lt_of_le hz2 hb3.size
          clear hb3 HK2 HB2 HNW
          have HCW := Lib.hid (HC.out w3 HB3.out)
          go_wp2_with fail
          refine HCW.out.mono ?_
          rintro e w4 ⟨⟨A4, c4, rfl, hr4, hp4⟩, rfl⟩
          have HR0 := Lib.hid hr4
          have HR4 := Lib.hid (hr4 w3 (HRW.out.below HB3.out HRW.out.lies))
          have HP4 := Lib.hid hp4
          clear hr4 hp4 HCW
          have hba := (Below.refl w3.heap.size w3).alloc (Nat.le_refl _) (.cells #[.int .i64 (t : Int), .slice A4 bs.length c4] 55)
          obtain ⟨d0, d1⟩ := two_blk (Blk.new w3 55 #[.int .i64 (t : Int), .slice A4 bs.length c4])
          have HVA := Lib.hid (val_any ⟨t, bs⟩ (.slice A4 bs.length c4) _ (HR4.out.more8 hba) (by show bs.length ≤ 1048576; have := HL.out; omega))
          have HKA := Lib.hid (HK3.out.below hba hz3)
          have HBA := Lib.hid (HB3.out.trans (hba.mono (Nat.le_of_lt hz3)))
          have hza : w.heap.size < (w3.alloc (.cells #[.int .i64 (t : Int), .slice A4 bs.length c4] 55)).heap.size := Nat.lt_of_lt_of_le hz3 hba.size
          have HN5 := Lib.hid (Blk.new w3 55 #[.int .i64 (t : Int), .slice A4 bs.length c4])
          have HR5 := Lib.hid (HR4.out.more8 hba)
          have hz5 : w3.heap.size < (w3.alloc (.cells #[.int .i64 (t : Int), .slice A4 bs.length c4] 55)).heap.size := by simp
          clear hba HK3 HB3
          go_upto_region 11 with fail
          generalize w3.alloc (.cells #[.int .i64 (t : Int), .slice A4 bs.length c4] 55) = w5 at *
          go_wp2_with fail
          refine HVA.out.mono ?_
          rintro e w6 ⟨rfl, hb6⟩
          rw [HV.out]
          have HKK := Lib.hid (HKA.out.below hb6 hza)
          have HBB := Lib.hid (HBA.out.trans (hb6.mono (Nat.le_of_lt hza)))
          obtain ⟨e0, e1⟩ := two_blk (HN5.out.below hb6 hz5)
          have HR6 := Lib.hid (HR5.out.more8 hb6)
          clear hb6 HKA HBA HN5 HR5 d0 d1
          obtain ⟨c0, c1⟩ := two_blk HKK.out
          have f0' := HKK.out.frozen 0
          have f1' := HKK.out.frozen 1
          have hsa : w3.heap.size ≠ w.heap.size := by omega
          go_wp2
          have hbel := (HBB.out.setCell (p := ⟨w.heap.size, 0, none⟩) (Nat.le_refl _) (.int .i64 (t : Int))).setCell (p := ⟨w.heap.size, 1, none⟩) (Nat.le_refl _) (.slice A4 bs.length c4)
          exact bodyPost_ret (results_row_ctt (p := 2) (q := 3) (u := 4) (ty := 55) rfl _ _ w.heap.size 55 #[.int .i64 (t : Int), .slice A4 bs.length c4] (0, 0) _ rfl (Blk.set2 HKK.out _ _) Tryd.underlying55 rfl (by kernel_rfl)) rfl
            ⟨hbel, by rw [HO.out]; exact ⟨A4, c4, rfl, HR0.out _ HRW.out, HP4.out⟩⟩
      · have HO : Hid (oneF xs = none) := Lib.hid (by rw [HO1.out, if_neg (fun h => hle h.1)])
        have HRE : Hid (RfErr a xs (.iface 43 (.agg #[.int .i64 xs.length]))) := Lib.hid (.inr rfl)
        have HC : Hid (∀ W, Calls Tryd.prog 51 #[.slice A xs.length c, .int .i64 (m : Int), .int .i64 ((m : Int) + (s : Int))] W fun e w' => e = .returned (.tuple #[.slice none 0 0, .iface 43 (.agg #[.int .i64 xs.length])]) ∧ W = w') := Lib.hid (fun W => cut_short W A xs.length c m (m + s) (by omega))
        clear HC2 HO1
        go_enter Tryd.func37, Tryd.ntmps37
        go_upto_region 1 with fail
        generalize w.alloc (.cells #[.int .i64 0, .slice none 0 0] 55) = w1 at *
        go_wp2_with fail
        refine HN1.out.mono ?_
        rintro e w2 ⟨rfl, hb2⟩
        have HK2 := Lib.hid (HK0.out.below hb2 hz1)
        have HB2 := Lib.hid (HB0.out.trans (hb2.mono (Nat.le_of_lt hz1)))
        have hz2 : w.heap.size < w2.heap.size := Nat.lt_of_lt_of_le hz1 hb2.size
        clear hb2 HK0 HB0
        have HNW := Lib.hid (HNN.out w2 HB2.out)
        go_wp2_with fail
        refine HNW.out.mono ?_
        rintro e w3 ⟨rfl, hb3⟩
        have HKK := Lib.hid (HK2.out.below hb3 hz2)
        have HBB := Lib.hid (HB2.out.trans (hb3.mono (Nat.le_of_lt hz2)))
        clear hb3 HK2 HB2 HNW
        go_wp2_with fail
        refine (HC.out w3).mono ?_
        rintro e w4 ⟨rfl, rfl⟩
        obtain ⟨c0, c1⟩ := two_blk HKK.out
        have f0' := HKK.out.frozen 0
        have f1' := HKK.out.frozen 1
        go_wp2
        exact bodyPost_ret (results_row_ctt (p := 2) (q := 3) (u := 4) (ty := 55) rfl _ _ w.heap.size 55 #[.int .i64 0, .slice none 0 0] (0, 0) _ rfl (Blk.set2 HKK.out _ _) Tryd.underlying55 rfl (by kernel_rfl)) rfl
          ⟨(HBB.out.setCell (p := ⟨w.heap.size, 0, none⟩) (Nat.le_refl _) _).setCell (p := ⟨w.heap.size, 1, none⟩) (Nat.le_refl _) _, by rw [HO.out]; exact ⟨_, rfl, HRE.out⟩⟩
end Go.Proofs.YthogkhifgkgplaaDoor
