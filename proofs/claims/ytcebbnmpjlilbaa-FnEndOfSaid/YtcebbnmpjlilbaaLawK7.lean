/-
  The walk of the law FnEndOf: it returns true at every code. No condition but that the code is a list that can be.
-/
import Derived.Test.YtcebbnmpjlilbaaWdp
import Derived.Test.YtcebbnmpjlilbaaWeq
namespace Go.Proofs.Ytcebbnmpjlilbaa
open Go.RowKit
set_option linter.unusedVariables false

theorem okE_parts {ps : List Pc} (h : okE ps = true) : vpB ps = true ∧ ps.all (gw (fE ps)) = true ∧ endR ps = fE ps := by
  have h' := h
  simp only [okE, Bool.and_eq_true] at h'
  exact ⟨h'.1, h'.2, by simp [endR, h]⟩
theorem okE_again {l : List Pc} (h : okE l = true) (q : Pc) (hq : q ∈ l) (hm : q.m = false) (hl : l.length + 1 ≤ 20) : okE (l ++ [q]) = true ∧ endR (l ++ [q]) = fE l := by
  obtain ⟨hv, hg, _⟩ := okE_parts h
  have hall : l.all pcB = true := by simp only [vpB, Bool.and_eq_true] at hv; exact hv.1
  have hqe : q.e = fE l := by
    have := List.all_eq_true.1 hg q hq
    unfold gw at this
    rw [hm] at this
    simpa using this
  have hb := e_bd hall q hq
  have hf : fE (l ++ [q]) = fE l := fE_ne l [q] (by omega)
  have hv2 : vpB (l ++ [q]) = true := by
    simp only [vpB, lpB, Bool.and_eq_true, decide_eq_true_eq, List.all_append, hall, true_and, List.length_append]
    refine ⟨?_, by simp; omega⟩
    have := List.all_eq_true.1 hall q hq
    simpa using this
  have hg2 : (l ++ [q]).all (gw (fE (l ++ [q]))) = true := by
    rw [hf, List.all_append, hg]
    have := List.all_eq_true.1 hg q hq
    simpa using this
  have ho : okE (l ++ [q]) = true := by simp [okE, hv2, hg2]
  exact ⟨ho, by rw [(okE_parts ho).2.2, hf]⟩
/-- What the loop knows of what it has met, and of the longer list. -/
def Mtl (l : List Pc) (E : Int) (k : Nat) (mt : Bool) (lm : List Pc) : Prop :=
  (mt = false → lm = l ∧ E ≠ -1 ∧ ∀ p ∈ l.take k, p.m = true) ∧ (mt = true → (E = -1 ∧ lm = l) ∨ ∃ q, q ∈ l ∧ q.m = false ∧ lm = l ++ [q])
theorem Mtl.start (l : List Pc) (E : Int) : Mtl l E 0 (E == -1) l := by
  refine ⟨fun h => ⟨rfl, by simpa using h, by simp⟩, fun h => .inl ⟨by simpa using h, rfl⟩⟩
theorem Mtl.len {l lm : List Pc} {E : Int} {k : Nat} {mt : Bool} (h : Mtl l E k mt lm) : lm.length ≤ l.length + 1 := by
  cases mt
  · rw [(h.1 rfl).1]; omega
  · rcases h.2 rfl with ⟨_, e⟩ | ⟨q, _, _, e⟩
    · rw [e]; omega
    · rw [e]; simp
theorem Mtl.more {l lm : List Pc} {E : Int} {k : Nat} {mt : Bool} (h : Mtl l E k mt lm) (hk : k < l.length) (hm : (l.getD k d0).m = true) : Mtl l E (k + 1) mt lm := by
  refine ⟨fun hf => ?_, h.2⟩
  obtain ⟨h1, h2, h3⟩ := h.1 hf
  refine ⟨h1, h2, all_m_snoc l k hk h3 hm⟩
theorem Mtl.past {l lm : List Pc} {E : Int} {k k' : Nat} (h : Mtl l E k true lm) : Mtl l E k' true lm := ⟨(fun hf => by cases hf), h.2⟩
theorem Mtl.met {l lm : List Pc} {E : Int} {k : Nat} (h : Mtl l E k false lm) (hk : k < l.length) (hm : (l.getD k d0).m = false) : Mtl l E (k + 1) true (lm ++ [l.getD k d0]) := by
  refine ⟨(fun hf => by cases hf), fun _ => .inr ⟨l.getD k d0, ?_, hm, by rw [(h.1 rfl).1]⟩⟩
  rw [List.getD_eq_getElem?_getD, List.getElem?_eq_getElem hk]
  exact List.getElem_mem hk
theorem Mtl.end_ {l lm : List Pc} {k : Nat} {mt : Bool} (h : Mtl l (fE l) k mt lm) (hk : ¬ k < l.length) (ho : okE l = true) : mt = true ∧ (20 < lm.length ∨ (lm.length ≤ 20 ∧ okE lm = true ∧ endR lm = fE l)) := by
  cases mt
  · obtain ⟨_, h2, h3⟩ := h.1 rfl
    rw [List.take_of_length_le (by omega)] at h3
    exact absurd (fE_none l h3) h2
  · refine ⟨rfl, ?_⟩
    rcases h.2 rfl with ⟨_, e⟩ | ⟨q, hq, hm, e⟩
    · rw [e]
      have hp := okE_parts ho
      have hl : l.length ≤ 20 := by
        have := hp.1
        simp only [vpB, lpB, Bool.and_eq_true, decide_eq_true_eq] at this
        omega
      exact .inr ⟨hl, ho, hp.2.2⟩
    · by_cases hl : l.length + 1 ≤ 20
      · obtain ⟨h1, h2⟩ := okE_again ho q hq hm hl
        rw [e]
        exact .inr ⟨by simp; omega, h1, h2⟩
      · rw [e]; exact .inl (by simp; omega)

set_option maxHeartbeats 6400000 in
set_option maxRecDepth 20000 in
theorem fnEndOf_walk (a : Option Addr) (len cap : Nat) (zs : List Int) (w : World) (h : IsRow .u8 w a len cap zs) :
    Calls Try.prog 8 #[.slice a len cap] w fun e w' => e = .returned (.bool true) ∧ Below w.heap.size w w' := by
  by_cases hg : (1048576 : Int) < (len : Int)
  · go_enter Try.func8, Try.ntmps8
    go_wp2_with fail
    go_ret
    exact ⟨rfl, Below.refl _ _⟩
  · have H := Lib.hid (dEO_any w a len cap zs h)
    clear h
    go_enter Try.func8, Try.ntmps8
    go_wp2_with fail
    refine H.out.mono ?_
    rintro e w1 ⟨u, l, B, rfl, ho, hl, hb1⟩
    have HO := Lib.hid ho
    have HU := Lib.hid (PRds.of_own ho)
    have HB1 := Lib.hid hb1
    obtain ⟨A, c, rfl⟩ := own_form3 ho
    clear H ho hb1
    have hI := fun W h => iEO_any W (.slice A l.length c) l h (by omega)
    have hS := fun W h => sEO_any W (.slice A l.length c) l h (by omega)
    cases hok : okE l
    · have e1 : endR l = -1 := by simp [endR, hok]
      rw [e1, hok] at hI hS
      have HI := Lib.hid hI
      have HS := Lib.hid hS
      clear hI hS hok e1
      go_wp2_with fail
      refine (HI.out _ HU.out).mono ?_
      rintro e w2 ⟨rfl, hb2⟩
      have HU2 := Lib.hid (HU.out.more hb2)
      have HB2 := Lib.hid (HB1.out.trans (hb2.mono HB1.out.size))
      clear hb2
      go_wp2_with fail
      refine (HS.out _ HU2.out).mono ?_
      rintro e w3 ⟨rfl, m3, rfl⟩
      go_wp2
      go_ret
      exact ⟨rfl, below_drewN HB2.out m3⟩
    · obtain ⟨hv, hgw, hE⟩ := okE_parts hok
      have hall : l.all pcB = true := by simp only [vpB, Bool.and_eq_true] at hv; exact hv.1
      have hEb := fE_bd hall
      rw [hE, hok] at hI hS
      have HEND := Lib.hid (fun k mt lm (h : Mtl l (fE l) k mt lm) hk => Mtl.end_ h hk hok)
      have hstart := Mtl.start l (fE l)
      obtain ⟨E, hEE⟩ : ∃ E, E = fE l := ⟨_, rfl⟩
      rw [← hEE] at hI hS hEb HEND hstart hgw
      have HST := Lib.hid hstart
      have HI := Lib.hid hI
      have HS := Lib.hid hS
      have HGW := Lib.hid hgw
      have HALL := Lib.hid hall
      clear hI hS hok hv hgw hE hall hEE hstart
      have hee : (E != E) = false := by simp
      go_wp2_with fail
      refine (HI.out _ HU.out).mono ?_
      rintro e w2 ⟨rfl, hb2⟩
      have HU2 := Lib.hid (HU.out.more hb2)
      have HO2 : Hid (OwnP w2 B (.slice A l.length c) l) := Lib.hid (own3_below HO.out hb2 (fun k hk => (World.ownsRow.lt HO.out k hk).2))
      have HB2 := Lib.hid (HB1.out.trans (hb2.mono HB1.out.size))
      clear hb2 HU HO HI
      go_wp2_with fail
      refine (HS.out _ HU2.out).mono ?_
      rintro e w3 ⟨rfl, m3, hw3⟩
      have HU3 : Hid (PRds w3 (.slice A l.length c) l) := Lib.hid (by rw [hw3]; exact HU2.out.drewN m3)
      have HO3 : Hid (OwnP w3 B (.slice A l.length c) l) := Lib.hid (by rw [hw3]; exact HO2.out)
      have HB3 : Hid (Below w.heap.size w w3) := Lib.hid (by rw [hw3]; exact below_drewN HB2.out m3)
      clear hw3 HU2 HO2 HB2 HS
      go_wp2_with (at_builtin; refine append_ownP rfl _ _ rfl w3.heap.size B _ _ [] l rfl rfl (World.ownsRow_made (base := w3.heap.size) (e := 45) (size := 3) w3 #[] 0 (Nat.le_refl _) (by unfold maxLen; omega) rfl) (World.ownsRow.alloc HO3.out _) (by simp; omega) (by simp) ?_; intro A5 c5 w5 ho5 hg5)
      have HO5 : Hid (OwnP w5 w3.heap.size (.slice A5 l.length c5) l) := Lib.hid (by have := ho5; simp only [List.nil_append, List.length_nil, Nat.zero_add] at this; exact this)
      have HB5 : Hid (Below w3.heap.size w3 w5) := Lib.hid (((Below.refl _ _).alloc (Nat.le_refl _) _).grown hg5 (by simp) (fun j hj => by have e : some w3.heap.size = some j := hj; cases e; exact Nat.le_refl _))
      clear ho5 hg5
      obtain ⟨i0, hi, hz0, hz1, hz2⟩ := info_parts infoP
      have HIn := Lib.hid hi
      have HZ0 := Lib.hid hz0
      have HZ1 := Lib.hid hz1
      have HZ2 := Lib.hid hz2
      clear hi hz0 hz1 hz2
      go_loopw [8, 9, 10] (fun mv lv iv wr => ∃ (k : Nat) (mt : Bool) (lm : List Pc) (A9 : Option Addr) (c9 : Nat), k ≤ l.length ∧ iv = .int .i64 k ∧ mv = .bool mt ∧ lv = .slice A9 lm.length c9 ∧ OwnP wr w3.heap.size lv lm ∧ Mtl l E k mt lm ∧ Below w3.heap.size w3 wr) (fun _ _ iv _ => l.length - (intOf iv).toNat)
      case atStart => exact ⟨0, _, l, A5, c5, Nat.zero_le _, rfl, rfl, rfl, HO5.out, HST.out, HB5.out⟩
      case round =>
        obtain ⟨k, mt, lm, A9, c9, hk, rfl, rfl, rfl, hown, hM, hbel⟩ := hrel
        have HOW := Lib.hid hown
        have HM := Lib.hid hM
        have HBEL := Lib.hid hbel
        have hlm := hM.len
        have hsz := hbel.size
        have hk0 : (0 : Int) ≤ (k : Int) := by omega
        by_cases hlt : k < l.length
        · have hkn : (k : Int) < (l.length : Int) := by omega
          have hR := HU3.out.more hbel
          obtain ⟨A', c', hv', h1'⟩ := hR
          obtain ⟨b, off, hA, hat⟩ := h1' (by omega)
          simp only [Value.slice.injEq] at hv'
          obtain ⟨rfl, _, rfl⟩ := hv'
          subst hA
          obtain ⟨c0, c1, c2⟩ := hat.2 k hlt
          have hp := pc_yes (pall_get HALL.out k hlt)
          have hgk := pall_get HGW.out k hlt
          have HMORE := fun h => Lib.hid (HM.out.more hlt h)
          have HMET : mt = false → (l.getD k d0).m = false → Hid (Mtl l E (k + 1) true (lm ++ [l.getD k d0])) := fun h1 h2 => Lib.hid (by subst h1; exact HM.out.met hlt h2)
          have HPAST : mt = true → Hid (Mtl l E (k + 1) true lm) := fun h1 => Lib.hid (by subst h1; exact HM.out.past)
          clear hown hM hbel h1' hat
          generalize l.getD k d0 = q at *
          obtain ⟨x, y, z⟩ := q
          simp only at c0 c1 c2 hp HMORE HMET
          have ew := pwrap (x + y) (by omega)
          cases z
          · rw [gwF] at hgk
            have hxy : x + y = E := by simpa using hgk
            have q1 : (x + y == E) = true := by simpa using hxy
            have q2 : decide (0 ≤ E) = true := by simp; omega
            have q3 : decide (E < x + y) = false := by simp; omega
            clear hgk hEb hp HMORE hxy
            cases mt
            · have HX := HMET rfl rfl
              clear HMET HPAST
              go_wp2
              go_quiet (fail)
              go_wp2_with (at_builtin; refine wpList_append_own _ rfl (.tmp 86) (.tmp 91) 25 rfl w3.heap.size 45 i0 (.agg #[.int .i64 0, .int .i64 0, .bool false]) 3 24 Try.underlying25 HIn.out HZ0.out HZ1.out HZ2.out rfl (by decide) _ _ _ rfl (World.ownsRow.alloc HOW.out _) ⟨wr.heap.size, 0, none⟩ 1 1 (pcs [⟨x, y, false⟩]) rfl rfl (new3 _ _ _ _ _) (one3 _ _ _) (by rw [mx]; omega) (by omega) (by simp; omega) ?_; intro v9 w9 hown9 hg9 hnil; clear hnil; obtain ⟨A10, c10, rfl⟩ := own_form3 hown9)
              have hbw : Below w3.heap.size w3 (wr.drewN nq) := below_drewN HBEL.out nq
              have R2 := push3_below (show (wr.drewN nq).ownsRow w3.heap.size 45 3 (.slice A9 lm.length c9) lm.length (pcs lm) from HOW.out) hg9 hbw hbw.size
              go_roundw
              case rel => exact ⟨k + 1, true, lm ++ [⟨x, y, false⟩], A10, c10, by omega, by go_num, rfl, by rw [List.length_append]; rfl, ownP_snoc hown9, HX.out, R2.1⟩
              case measure => simp [intOf]; omega
            · have HX := HPAST rfl
              clear HMET HPAST
              go_wp2
              go_quiet (fail)
              go_wp2
              go_roundw
              case rel => exact ⟨k + 1, true, lm, A9, c9, by omega, by go_num, rfl, rfl, HOW.out, HX.out, below_drewN HBEL.out nq⟩
              case measure => simp [intOf]; omega
          · rw [gwT] at hgk
            have HX := HMORE rfl
            have hgk' : E = -1 ∨ x + y < E := by simpa using hgk
            rcases hgk' with hE | hE
            · have q2 : decide (0 ≤ E) = false := by simp; omega
              clear hgk hEb hp HMORE HMET HPAST hE
              go_wp2
              go_quiet (fail)
              go_wp2
              go_roundw
              case rel => exact ⟨k + 1, mt, lm, A9, c9, by omega, by go_num, rfl, rfl, HOW.out, HX.out, below_drewN HBEL.out nq⟩
              case measure => simp [intOf]; omega
            · have q2 : decide (0 ≤ E) = true := by simp; omega
              have q3 : decide (E < x + y) = false := by simp; omega
              clear hgk hEb hp HMORE HMET HPAST hE
              go_wp2
              go_quiet (fail)
              go_wp2
              go_roundw
              case rel => exact ⟨k + 1, mt, lm, A9, c9, by omega, by go_num, rfl, rfl, HOW.out, HX.out, below_drewN HBEL.out nq⟩
              case measure => simp [intOf]; omega
        · obtain ⟨rfl, hcase⟩ := HEND.out k mt lm HM.out hlt
          have hI := fun W h => iEO_any W (.slice A9 lm.length c9) lm h (by omega)
          have hPm : PRds wr (.slice A9 lm.length c9) lm := PRds.of_own HOW.out
          have hlen : lm.length ≤ 22 := by omega
          rcases hcase with h20 | ⟨h20, ho, hE⟩
          · generalize endR lm = R1 at hI
            generalize okE lm = R2 at hI
            have HI := Lib.hid hI
            have HPM := Lib.hid hPm
            have q20 : decide ((20 : Int) < (lm.length : Int)) = true := by simp; omega
            clear hI hPm hown hbel hM
            go_wp2_with fail
            refine (HI.out _ HPM.out).mono ?_
            rintro e w6 ⟨rfl, hb6⟩
            go_wp2
            go_ret
            exact ⟨rfl, (HB3.out.trans (HBEL.out.mono HB3.out.size)).trans (hb6.mono (Nat.le_trans HB3.out.size hsz))⟩
          · rw [ho, hE] at hI
            have HI := Lib.hid hI
            have HPM := Lib.hid hPm
            have q20 : decide ((20 : Int) < (lm.length : Int)) = false := by simp; omega
            have qE : (E == E) = true := by simp
            clear hI hPm hown hbel hM ho hE
            go_wp2_with fail
            refine (HI.out _ HPM.out).mono ?_
            rintro e w6 ⟨rfl, hb6⟩
            go_wp2
            go_ret
            exact ⟨rfl, (HB3.out.trans (HBEL.out.mono HB3.out.size)).trans (hb6.mono (Nat.le_trans HB3.out.size hsz))⟩
end Go.Proofs.Ytcebbnmpjlilbaa
