/-
  The walks of the model's functions that say where pieces end. Conditions: where the lists lie, and the lengths that are typed.
-/
import Derived.Test.YteililppbnbfhaaWeo
import Derived.IntWalk
namespace Go.Proofs.Yteililppbnbfhaa
open Go.RowKit
set_option linter.unusedVariables false

theorem pwrap (x : Int) (h : -9223372036854775808 ≤ x ∧ x ≤ 9223372036854775807) : IntKind.i64.wrap x = x := IntWalk.i64_in _ h
theorem gwT (E x y : Int) : gw E ⟨x, y, true⟩ = (decide (E = -1) || decide (x + y < E)) := rfl
theorem gwF (E x y : Int) : gw E ⟨x, y, false⟩ = decide (x + y = E) := rfl
def endS (ps : List Pc) : Int := if ps.all (gw (fE ps)) = true then fE ps else -2
theorem fE_more : ∀ (l : List Pc) (p : Pc), p.m = true → fE (l ++ [p]) = fE l
  | [], p, h => by simp [fE, h]
  | q :: l, p, h => by
    show (if q.m = false then q.e else fE (l ++ [p])) = (if q.m = false then q.e else fE l)
    rw [fE_more l p h]
theorem fE_eq : ∀ (l : List Pc) (p : Pc), p.m = false → p.e = fE l → fE (l ++ [p]) = p.e
  | [], p, h, _ => by simp [fE, h]
  | q :: l, p, h, he => by
    have he' : p.e = (if q.m = false then q.e else fE l) := he
    show (if q.m = false then q.e else fE (l ++ [p])) = p.e
    by_cases hq : q.m = false
    · rw [if_pos hq] at he' ⊢; exact he'.symm
    · rw [if_neg hq] at he' ⊢; exact fE_eq l p h he'
theorem fE_new : ∀ (l : List Pc) (p : Pc), p.m = false → (∀ q ∈ l, q.e ≠ -1) → fE l = -1 → fE (l ++ [p]) = p.e
  | [], p, h, _, _ => by simp [fE, h]
  | q :: l, p, h, hv, he => by
    have he' : (if q.m = false then q.e else fE l) = -1 := he
    show (if q.m = false then q.e else fE (l ++ [p])) = p.e
    by_cases hq : q.m = false
    · rw [if_pos hq] at he'; exact absurd he' (hv q (by simp))
    · rw [if_neg hq] at he' ⊢; exact fE_new l p h (fun r hr => hv r (by simp [hr])) he'
theorem fE_ne : ∀ (l r : List Pc), fE l ≠ -1 → fE (l ++ r) = fE l
  | [], r, h => absurd rfl h
  | q :: l, r, h => by
    have h' : (if q.m = false then q.e else fE l) ≠ -1 := h
    show (if q.m = false then q.e else fE (l ++ r)) = (if q.m = false then q.e else fE l)
    by_cases hq : q.m = false
    · rw [if_pos hq, if_pos hq]
    · rw [if_neg hq] at h'
      rw [if_neg hq, if_neg hq]; exact fE_ne l r h'
theorem e_bd {ps : List Pc} (h : ps.all pcB = true) : ∀ p ∈ ps, 1 ≤ p.e ∧ p.e ≤ 60 := by
  intro p hp
  have := pc_yes (List.all_eq_true.1 h p hp)
  unfold Pc.e; omega
theorem fE_bd {ps : List Pc} (h : ps.all pcB = true) : fE ps = -1 ∨ (1 ≤ fE ps ∧ fE ps ≤ 60) := by
  have hb := e_bd h
  clear h
  induction ps with
  | nil => exact .inl rfl
  | cons p ps ih =>
    show (if p.m = false then p.e else fE ps) = -1 ∨ (1 ≤ (if p.m = false then p.e else fE ps) ∧ (if p.m = false then p.e else fE ps) ≤ 60)
    split
    · exact .inr (hb p (by simp))
    · exact ih (fun q hq => hb q (by simp [hq]))
theorem all_take {ps : List Pc} (h : ps.all pcB = true) (k : Nat) : (ps.take k).all pcB = true := by
  rw [List.all_eq_true] at h ⊢
  intro p hp
  exact h p (List.mem_of_mem_take hp)
/-- What the first loop knows: the ends of the first pieces. -/
def L1 (ps : List Pc) (k : Nat) (E : Int) : Prop := E = fE (ps.take k) ∧ ∀ p ∈ ps.take k, p.m = false → p.e = E
theorem L1_more {ps : List Pc} {k : Nat} {E : Int} (h : L1 ps k E) (hk : k < ps.length) (hm : (ps.getD k d0).m = true) : L1 ps (k + 1) E := by
  obtain ⟨h1, h2⟩ := h
  refine ⟨?_, ?_⟩
  · rw [ptake_snoc ps k hk, fE_more _ _ hm]; exact h1
  · rw [ptake_snoc ps k hk]
    intro p hp hpm
    rcases List.mem_append.1 hp with hp | hp
    · exact h2 p hp hpm
    · simp only [List.mem_singleton] at hp; rw [hp, hm] at hpm; cases hpm
theorem L1_end {ps : List Pc} {k : Nat} {E : Int} (hv : ps.all pcB = true) (h : L1 ps k E) (hk : k < ps.length) (hm : (ps.getD k d0).m = false) (he : E = -1 ∨ E = (ps.getD k d0).e) : L1 ps (k + 1) (ps.getD k d0).e := by
  obtain ⟨h1, h2⟩ := h
  have hb := e_bd (all_take hv k)
  rcases he with he | he
  · refine ⟨?_, ?_⟩
    · rw [ptake_snoc ps k hk, fE_new _ _ hm (fun q hq => by have := hb q hq; omega) (by rw [← h1]; exact he)]
    · rw [ptake_snoc ps k hk]
      intro p hp hpm
      rcases List.mem_append.1 hp with hp | hp
      · have e1 := h2 p hp hpm
        have := hb p hp
        omega
      · simp only [List.mem_singleton] at hp; rw [hp]
  · refine ⟨?_, ?_⟩
    · rw [ptake_snoc ps k hk, fE_eq _ _ hm (by rw [← h1]; exact he.symm)]
    · rw [ptake_snoc ps k hk]
      intro p hp hpm
      rcases List.mem_append.1 hp with hp | hp
      · rw [h2 p hp hpm]; exact he
      · simp only [List.mem_singleton] at hp; rw [hp]
theorem L1_bad {ps : List Pc} {k : Nat} {E : Int} (h : L1 ps k E) (hk : k < ps.length) (hm : (ps.getD k d0).m = false) (h0 : 0 ≤ E) (he : E ≠ (ps.getD k d0).e) : endS ps = -2 := by
  obtain ⟨h1, h2⟩ := h
  have e : fE ps = E := by
    have := fE_ne (ps.take k) (ps.drop k) (by rw [← h1]; omega)
    rw [List.take_append_drop] at this
    rw [this, ← h1]
  have : ps.all (gw (fE ps)) = false := by
    apply pall_bad _ ps k hk
    rw [e]
    unfold gw
    rw [hm]
    simp; exact fun h => he h.symm
  simp [endS, this]
theorem L1_all {ps : List Pc} {k : Nat} {E : Int} (h : L1 ps k E) (hk : ¬ k < ps.length) : E = fE ps ∧ ∀ j, j < ps.length → (ps.getD j d0).m = false → (ps.getD j d0).e = E := by
  unfold L1 at h
  rw [List.take_of_length_le (by omega)] at h
  refine ⟨h.1, fun j hj hm => h.2 _ ?_ hm⟩
  rw [List.getD_eq_getElem?_getD, List.getElem?_eq_getElem hj]
  exact List.getElem_mem hj

set_option maxHeartbeats 3200000 in
theorem se_at (w : World) (b off c n : Nat) (ps : List Pc) (hn : ps.length = n) (hn2 : n ≤ 1048576) (hv : ps.all pcB = true) (h : PAt w b off ps) :
    Calls Try.prog 46 #[.slice (some ⟨b, off, none⟩) n c] w fun e w' => e = .returned (.int .i64 (endS ps)) ∧ ∃ m, w' = w.drewN m := by
  have HV := Lib.hid hv
  have HN := Lib.hid hn
  have HC := Lib.hid h
  have HYES : ps.all (gw (fE ps)) = true → Hid (endS ps = fE ps) := by
    intro ha; exact Lib.hid (by simp [endS, ha])
  have HNO : ps.all (gw (fE ps)) = false → Hid (endS ps = -2) := by
    intro ha; exact Lib.hid (by simp [endS, ha])
  clear h hn hv
  go_enter Try.func46, Try.ntmps46
  go_wp2
  go_loopw [3, 4] (fun ev i wr => ∃ (k m : Nat) (E : Int), k ≤ n ∧ i = .int .i64 k ∧ ev = .int .i64 E ∧ L1 ps k E ∧ wr = w.drewN m) (fun _ i _ => n - (intOf i).toNat)
  case atStart => exact ⟨0, 0, -1, Nat.zero_le _, rfl, rfl, ⟨rfl, by simp⟩, rfl⟩
  case round =>
    obtain ⟨k, m, E, hk, rfl, rfl, hL, rfl⟩ := hrel
    have HL := Lib.hid hL
    have hEb : E = -1 ∨ (1 ≤ E ∧ E ≤ 60) := by rw [hL.1]; exact fE_bd (all_take HV.out k)
    clear hL
    have hk0 : (0 : Int) ≤ (k : Int) := by omega
    by_cases hlt : k < n
    · have hkn : (k : Int) < (n : Int) := by omega
      have hkx : k < ps.length := by have := HN.out; omega
      obtain ⟨c0, c1, c2⟩ := (show PAt (w.drewN m) b off ps from HC.out).2 k hkx
      have hp := pc_yes (pall_get HV.out k hkx)
      have HM := fun h => Lib.hid (L1_more HL.out hkx h)
      have HEN := fun h h2 => Lib.hid (L1_end HV.out HL.out hkx h h2)
      have HBD := fun h h2 h3 => Lib.hid (L1_bad HL.out hkx h h2 h3)
      clear hkx
      generalize hwj : w.drewN m = wj at c0 c1 c2 ⊢
      have HWJ := Lib.hid hwj
      clear hwj
      generalize ps.getD k d0 = q at *
      obtain ⟨x, y, z⟩ := q
      simp only [Pc.e] at c0 c1 c2 hp HM HEN HBD
      have ew := pwrap (x + y) (by omega)
      cases z
      · by_cases hE : E = -1
        · have HX := HEN rfl (.inl hE)
          have d1 : decide (0 ≤ E) = false := by simp; omega
          clear hp HM HEN HBD hEb hE
          go_wp2
          go_quiet (fail)
          go_wp2
          go_quiet (fail)
          go_wp2
          go_roundw
          case rel => exact ⟨k + 1, _, _, by omega, by go_num, rfl, HX.out, by rw [← HWJ.out, World.drewN_drewN]⟩
          case measure => simp [intOf]; omega
        · have d1 : decide (0 ≤ E) = true := by simp; omega
          by_cases hxy : E = x + y
          · have HX := HEN rfl (.inr hxy)
            have d2 : (E != x + y) = false := by simpa using hxy
            clear hp HM HEN HBD hEb hE hxy
            go_wp2
            go_quiet (fail)
            go_wp2
            go_quiet (fail)
            go_wp2
            go_roundw
            case rel => exact ⟨k + 1, _, _, by omega, by go_num, rfl, HX.out, by rw [← HWJ.out, World.drewN_drewN]⟩
            case measure => simp [intOf]; omega
          · have HX := HBD rfl (by omega) hxy
            have d2 : (E != x + y) = true := by simpa using hxy
            clear hp HM HEN HBD hEb hE hxy
            go_wp2
            go_quiet (fail)
            go_wp2
            go_ret
            exact ⟨ret_int HX.out.symm, _, by rw [← HWJ.out, World.drewN_drewN]⟩
      · have HX := HM rfl
        clear hp HM HEN HBD hEb
        go_wp2
        go_roundw
        case rel => exact ⟨k + 1, m, E, by omega, by go_num, rfl, HX.out, HWJ.out.symm⟩
        case measure => simp [intOf]; omega
    · obtain ⟨hE, hnm⟩ := L1_all HL.out (by have := HN.out; omega)
      rw [← hE] at HYES HNO
      have HNM := Lib.hid hnm
      clear hnm HL hE
      go_wp2
      go_loopw [5] (fun i wr => ∃ k m : Nat, k ≤ n ∧ i = .int .i64 k ∧ (ps.take k).all (gw E) = true ∧ wr = w.drewN m) (fun i _ => n - (intOf i).toNat)
      case atStart => exact ⟨0, m, Nat.zero_le _, rfl, by simp, rfl⟩
      case round =>
        clear hlt hk0 hk
        obtain ⟨k, m, hk, rfl, hall, rfl⟩ := hrel
        have HA := Lib.hid hall
        clear hall
        have hk0 : (0 : Int) ≤ (k : Int) := by omega
        by_cases hlt : k < n
        · have hkn : (k : Int) < (n : Int) := by omega
          have hkx : k < ps.length := by have := HN.out; omega
          obtain ⟨c0, c1, c2⟩ := (show PAt (w.drewN m) b off ps from HC.out).2 k hkx
          have hp := pc_yes (pall_get HV.out k hkx)
          have hnm := HNM.out k hkx
          have HS := fun h => Lib.hid (pall_snoc (gw E) ps k hkx HA.out h)
          have HB := fun h => Lib.hid (HNO (pall_bad (gw E) ps k hkx h)).out
          clear hkx
          generalize hwj : w.drewN m = wj at c0 c1 c2 ⊢
          have HWJ := Lib.hid hwj
          clear hwj
          generalize ps.getD k d0 = q at *
          obtain ⟨x, y, z⟩ := q
          simp only [Pc.e] at c0 c1 c2 hp hnm
          have ew := pwrap (x + y) (by omega)
          by_cases hE : E = -1
          · have hz : z = true := by
              cases z
              · have := hnm rfl; omega
              · rfl
            subst hz
            have HX := HS (by simp [gw, hE])
            have d1 : decide (0 ≤ E) = false := by simp; omega
            clear hp hnm HS HB hEb hE
            go_wp2
            go_quiet (fail)
            go_wp2
            go_roundw
            case rel => exact ⟨k + 1, _, by omega, by go_num, HX.out, by rw [← HWJ.out, World.drewN_drewN]⟩
            case measure => simp [intOf]; omega
          · have d1 : decide (0 ≤ E) = true := by simp; omega
            cases z
            · have hxy : x + y = E := hnm rfl
              have HX := HS (by rw [gwF]; simpa using hxy)
              have d2 : decide (E < x + y) = false := by simp; omega
              clear hp hnm HS HB hEb hE hxy
              go_wp2
              go_quiet (fail)
              go_wp2
              go_roundw
              case rel => exact ⟨k + 1, _, by omega, by go_num, HX.out, by rw [← HWJ.out, World.drewN_drewN]⟩
              case measure => simp [intOf]; omega
            · by_cases hgt : E < x + y
              · have HX := HB (by rw [gwT]; simp; omega)
                have d2 : decide (E < x + y) = true := by simpa using hgt
                clear hp hnm HS HB hEb hE hgt
                go_wp2
                go_quiet (fail)
                go_wp2
                go_ret
                exact ⟨ret_int HX.out.symm, _, by rw [← HWJ.out, World.drewN_drewN]⟩
              · have d2 : decide (E < x + y) = false := by simp; omega
                by_cases heq : x + y = E
                · have HX := HB (by rw [gwT]; simp; omega)
                  have d3 : (x + y == E) = true := by simpa using heq
                  clear hp hnm HS HB hEb hE hgt heq
                  go_wp2
                  go_quiet (fail)
                  go_wp2
                  go_ret
                  exact ⟨ret_int HX.out.symm, _, by rw [← HWJ.out, World.drewN_drewN]⟩
                · have HX := HS (by rw [gwT]; simp; omega)
                  have d3 : (x + y == E) = false := by simpa using heq
                  clear hp hnm HS HB hEb hE hgt heq
                  go_wp2
                  go_quiet (fail)
                  go_wp2
                  go_roundw
                  case rel => exact ⟨k + 1, _, by omega, by go_num, HX.out, by rw [← HWJ.out, World.drewN_drewN]⟩
                  case measure => simp [intOf]; omega
        · have ha := pall_end (gw E) ps k (by have := HN.out; omega) HA.out
          have HX := HYES ha
          clear ha
          go_wp2
          go_ret
          exact ⟨ret_int HX.out.symm, m, rfl⟩
end Go.Proofs.Yteililppbnbfhaa
