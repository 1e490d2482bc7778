/-
  The walk of the model's UnpointBytes. Conditions: where the list lies, and the lengths that are typed.
-/
import Derived.Test.YtimlmbbegeaakaaWunpI
namespace Go.Proofs.Ytimlmbbegeaakaa
open Go.RowKit
set_option linter.unusedVariables false

theorem upf_short : ∀ (l o : List Int) (r : Nat) (f : Bool), l.length < r → ∀ st, upf l (o, r, f) = some st → st.2.1 ≠ 0
  | [], o, r, f, h, st, e => by
    simp [upf] at e; subst e; simp at h ⊢; omega
  | b :: l, o, r, f, h, st, e => by
    rw [upf] at e
    by_cases hb : b < 1
    · rw [ups_low hb] at e; cases e
    · simp only [List.length_cons] at h
      rw [ups_more hb (by omega)] at e
      exact upf_short l _ (r - 1) false (by omega) st e
theorem unp_short {a b o : List Int} {r : Nat} {f : Bool} (h : upf a ([], 0, true) = some (o, r, f)) (hb : b.length < r) : unp true 0 (a ++ b) = none := by
  cases hu : upf (a ++ b) ([], 0, true) with
  | none => have := unp_none (a := a ++ b) (b := []) hu; simpa using this
  | some st =>
    obtain ⟨o', r', f'⟩ := st
    rw [unp_end hu]
    rw [upf_app, h] at hu
    simp only [] at hu
    rw [if_neg (upf_short b o r f hb _ hu)]

set_option maxRecDepth 100000 in
set_option maxHeartbeats 4000000 in
theorem sUP_at (w : World) (b off c n : Nat) (xs : List Int) (hn : xs.length = n) (h0 : 1 ≤ n) (h : At w b off xs) (hv : bytesB 17 xs = true) :
    Calls Try.prog 13 #[.slice (some ⟨b, off, none⟩) n c] w (UnPost (unpR xs) w) := by
  have h17 : n ≤ 17 := by simp [bytesB] at hv; omega
  have hall : xs.all isByte = true := by simp [bytesB] at hv; simpa using hv.2
  have h1 := svy_at w b off c n 17 xs hn (by omega) (by omega) h
  rw [hv] at h1
  have H1 : Hid (Calls Try.prog 19 #[.slice (some ⟨b, off, none⟩) n c, .int .i64 17] w fun e w' => e = .returned (.bool true) ∧ w = w') := h1
  obtain ⟨i0, hi, hz0, hz1, hz2⟩ := info_parts info3
  have HI := Lib.hid hi
  have HZ0 := Lib.hid hz0
  have HZ1 := Lib.hid hz1
  have HZ2 := Lib.hid hz2
  have HN := Lib.hid hn
  have HC := Lib.hid h.2
  have HALL := Lib.hid hall
  have HM := Lib.hid (World.ownsRow_made (base := w.heap.size) (e := 3) (size := 1) w #[] 0 (Nat.le_refl _) (by unfold maxLen; omega) rfl)
  have hb := h.1
  have hn0 : ((n : Int) == 0) = false := beq_eq_false_iff_ne.2 (by omega)
  clear h hn hi hz0 hz1 hz2 h1 hv hall
  go_enter Try.func13, Try.ntmps13
  go_wp2_with (go_at_call 19; refine H1.out.mono ?_; rintro e w' ⟨rfl, rfl⟩)
  go_loopw [4, 5] (fun ov i wr => ∃ (k : Nat) (o : List Int) (q : List Int), k ≤ n ∧ i = .int .i64 k ∧ q = (if k = 0 then o else if k < n then o ++ [0] else o) ∧ wr.ownsRow w.heap.size 3 1 ov q.length (ints q) ∧ Below w.heap.size w wr ∧ w.heap.size ≤ wr.heap.size ∧ upf (xs.take k) ([], 0, true) = some (o, 0, decide (k = 0)) ∧ q.length ≤ k) (fun _ i _ => n - (intOf i).toNat)
  case atStart => exact ⟨0, [], [], Nat.zero_le _, rfl, rfl, HM.out, (Below.refl _ _).alloc (Nat.le_refl _) _, by simp, rfl, by simp⟩
  case round =>
    obtain ⟨k, o, q, hk, rfl, hqe, hown, hbel, hsz, hu, hql⟩ := hrel
    have HU := Lib.hid hu
    have HQE := Lib.hid hqe
    have HOW := Lib.hid hown
    clear hu hqe hown
    by_cases hlt : k < n
    · have hkx : k < xs.length := by have := HN.out; omega
      have hc1 := (hbel.cell (p := ⟨b, off + k, none⟩) hb).trans (HC.out k hkx)
      have hxb := isByte_yes (List.all_eq_true.1 HALL.out (xs.getD k 0) (by rw [List.getD_eq_getElem?_getD, List.getElem?_eq_getElem hkx]; exact List.getElem_mem hkx))
      have HS : Hid (upf (xs.take (k + 1)) ([], 0, true) = ups (o, 0, decide (k = 0)) (xs.getD k 0)) := by rw [takeI_snoc xs k hkx]; exact upf_snoc _ _ _ _ HU.out
      have HD : Hid (xs = xs.take (k + 1) ++ xs.drop (k + 1)) := (List.take_append_drop _ _).symm
      have HDL : Hid ((xs.drop (k + 1)).length = n - (k + 1)) := by rw [show Hid ((xs.drop (k + 1)).length = n - (k + 1)) = ((xs.drop (k + 1)).length = n - (k + 1)) from rfl, List.length_drop, HN.out]
      clear hkx
      generalize xs.getD k 0 = x at *
      obtain ⟨hx0, hx255⟩ := hxb
      by_cases hz : x = 0
      · subst hz
        have HX := Lib.hid (unpR_bad (l := xs) (by rw [HD.out]; exact unp_none (by rw [HS.out]; exact ups_low (by omega))))
        go_wp2
        go_ret2
        exact unPost_none HX.out hbel
      · have hxz : (x == 0) = false := by simpa using hz
        have hqq : q = (if decide (k = 0) = true then o else o ++ [0]) := by
          rw [HQE.out]
          by_cases hk0 : k = 0
          · simp [hk0]
          · simp [hk0, hlt]
        have hx1 : ¬ x < 1 := by omega
        have HS2 : Hid (upf (xs.take (k + 1)) ([], 0, true) = some (q, (x - 1).toNat, false)) := by
          rw [show Hid (upf (xs.take (k + 1)) ([], 0, true) = some (q, (x - 1).toNat, false)) = (upf (xs.take (k + 1)) ([], 0, true) = some (q, (x - 1).toNat, false)) from rfl, HS.out, ups_head hx1, hqq]
        clear hqq hz
        obtain ⟨y, rfl⟩ : ∃ y : Nat, x = (y : Int) + 1 := ⟨(x - 1).toNat, by omega⟩
        clear hx1
        have HS3 : Hid (upf (xs.take (k + 1)) ([], 0, true) = some (q, y, false)) := by
          have := HS2.out
          rw [show ((y : Int) + 1 - 1).toNat = y from by omega] at this
          exact this
        clear HS2 HS
        by_cases hbig : n < k + (y + 1)
        · have HX := Lib.hid (unpR_bad (l := xs) (by rw [HD.out]; exact unp_short HS3.out (by rw [HDL.out]; omega)))
          go_wp2
          go_ret2
          exact unPost_none HX.out hbel
        · have hok : k + (y + 1) ≤ n := by omega
          clear hbig
          have hqk : q.length ≤ k := hql
          clear hql
          go_wp2
          obtain ⟨wo, rfl⟩ : ∃ wo : World, wo = wr := ⟨_, rfl⟩
          go_loopw [4, 7] (fun ov jv wi => ∃ (j : Nat) (p : List Int), k + 1 ≤ j ∧ j ≤ k + (y + 1) ∧ jv = .int .i64 j ∧ wi.ownsRow w.heap.size 3 1 ov p.length (ints p) ∧ Below w.heap.size w wi ∧ w.heap.size ≤ wi.heap.size ∧ upf (xs.take j) ([], 0, true) = some (p, k + 1 + y - j, false) ∧ p.length + 1 ≤ j) (fun _ jv _ => k + (y + 1) - (intOf jv).toNat)
          case atStart => exact ⟨k + 1, q, Nat.le_refl _, by omega, by go_num, HOW.out, hbel, hsz, by rw [HS3.out]; simp, by omega⟩
          case round =>
            obtain ⟨j, p, hj1, hj2, rfl, hownp, hbelp, hszp, hup, hpl⟩ := hrel
            have HUP := Lib.hid hup
            have HOP := Lib.hid hownp
            clear hup hownp hbel hsz HOW HU HQE hc1
            by_cases hjl : j < k + (y + 1)
            · have hjx : j < xs.length := by have := HN.out; omega
              have hc2 := (hbelp.cell (p := ⟨b, off + j, none⟩) hb).trans (HC.out j hjx)
              have hzb := isByte_yes (List.all_eq_true.1 HALL.out (xs.getD j 0) (by rw [List.getD_eq_getElem?_getD, List.getElem?_eq_getElem hjx]; exact List.getElem_mem hjx))
              have HSJ : Hid (upf (xs.take (j + 1)) ([], 0, true) = ups (p, k + 1 + y - j, false) (xs.getD j 0)) := by rw [takeI_snoc xs j hjx]; exact upf_snoc _ _ _ _ HUP.out
              have HDJ : Hid (xs = xs.take (j + 1) ++ xs.drop (j + 1)) := (List.take_append_drop _ _).symm
              clear hjx
              generalize xs.getD j 0 = z at *
              obtain ⟨hz0, hz255⟩ := hzb
              cases hzz : (z == 0)
              · have hz1 : ¬ z < 1 := by
                  have : z ≠ 0 := by simpa using hzz
                  omega
                have HX := Lib.hid (HSJ.out.trans (ups_more (o := p) (f := false) hz1 (by omega)))
                clear hz1
                go_wp2_with (at_builtin; refine wpList_append_own _ rfl (.tmp 49) (.tmp 54) 22 rfl w.heap.size 3 i0 (.int .i64 0) 1 8 Try.underlying22 HI.out HZ0.out HZ1.out HZ2.out rfl (by decide) _ _ _ rfl (HOP.out.alloc _) ⟨wr.heap.size, 0, none⟩ 1 1 [.int .i64 z] rfl rfl (cell_one_new _ _ _) (one_cell _ rfl) (by rw [mx]; omega) (by omega) (by simp; omega) ?_; intro v1 w1 hown1 hg1 hnil; clear hnil)
                have R := push_below HOP.out hg1 hbelp hszp
                go_roundw
                case rel => exact ⟨j + 1, p ++ [z], by omega, by omega, by go_num, ownI_snoc hown1, R.1, R.2, by rw [HX.out, show k + 1 + y - j - 1 = k + 1 + y - (j + 1) from by omega], by simp; omega⟩
                case measure => simp [intOf]; omega
              · obtain rfl : z = 0 := by simpa using hzz
                have HX := Lib.hid (unpR_bad (l := xs) (by rw [HDJ.out]; exact unp_none (by rw [HSJ.out]; exact ups_low (by omega))))
                go_wp2
                go_ret2
                exact unPost_none HX.out hbelp
            · have hje : j = k + (y + 1) := by omega
              have HU2 : Hid (upf (xs.take (k + (y + 1))) ([], 0, true) = some (p, 0, false)) := by
                have := HUP.out
                rw [hje, show k + 1 + y - (k + (y + 1)) = 0 from by omega] at this
                exact this
              have hpl2 : p.length ≤ k + y := by omega
              clear hje
              by_cases hend : k + (y + 1) < n
              · have he1 : (k : Int) + ((y : Int) + 1) < (n : Int) := by omega
                go_wp2_with (at_builtin; refine wpList_append_own _ rfl (.tmp 63) (.tmp 64) 22 rfl w.heap.size 3 i0 (.int .i64 0) 1 8 Try.underlying22 HI.out HZ0.out HZ1.out HZ2.out rfl (by decide) _ _ _ rfl (HOP.out.alloc _) ⟨wr.heap.size, 0, none⟩ 1 1 [.int .i64 0] rfl rfl (cell_one_new _ _ _) (one_cell _ rfl) (by rw [mx]; omega) (by omega) (by simp; omega) ?_; intro v1 w1 hown1 hg1 hnil; clear hnil)
                have R := push_below HOP.out hg1 hbelp hszp
                go_roundw
                case rel => exact ⟨k + (y + 1), p, p ++ [0], by omega, by go_num, by rw [if_neg (by omega), if_pos hend], ownI_snoc hown1, R.1, R.2, by rw [HU2.out, decide_eq_false (by omega)], by simp; omega⟩
                case measure => simp [intOf]; omega
              · have he1 : (n : Int) ≤ (k : Int) + ((y : Int) + 1) := by omega
                go_wp2
                go_roundw
                case rel => exact ⟨k + (y + 1), p, p, by omega, by go_num, by rw [if_neg (by omega), if_neg hend], HOP.out, hbelp, hszp, by rw [HU2.out, decide_eq_false (by omega)], by omega⟩
                case measure => simp [intOf]; omega
    · obtain rfl : k = n := by omega
      have e : xs.take k = xs := List.take_of_length_le (by have := HN.out; omega)
      have hu := HU.out
      rw [e] at hu
      have hend := unp_end hu
      rw [if_pos rfl] at hend
      have hlen : xs.length = k := HN.out
      have hq : q = o := by
        rw [HQE.out]
        by_cases hk0 : k = 0
        · simp [hk0]
        · simp [hk0]
      have HX := Lib.hid (unpR_ok (by omega) (by omega) HALL.out hend)
      have hown := HOW.out
      rw [hq] at hown
      have HOW2 := Lib.hid hown
      clear e hu hend hlen hq hown
      go_wp2
      go_ret2
      exact unPost_some HX.out HOW2.out hbel

theorem unpR_bytes {l : List Int} (h : bytesB 17 l = false) : unpR l = none := by
  unfold unpR
  rw [if_neg (by rw [h]; simp)]
set_option maxHeartbeats 400000 in
theorem sUP_no (w : World) (b off c n : Nat) (xs : List Int) (hn : xs.length = n) (h0 : 1 ≤ n) (hn2 : n ≤ 1048576) (h : At w b off xs) (hv : bytesB 17 xs = false) :
    Calls Try.prog 13 #[.slice (some ⟨b, off, none⟩) n c] w (UnPost (unpR xs) w) := by
  have h1 := svy_at w b off c n 17 xs hn hn2 (by omega) h
  rw [hv] at h1
  have H1 : Hid (Calls Try.prog 19 #[.slice (some ⟨b, off, none⟩) n c, .int .i64 17] w fun e w' => e = .returned (.bool false) ∧ w = w') := h1
  have HE := Lib.hid (unpR_bytes hv)
  have hn0 : ((n : Int) == 0) = false := beq_eq_false_iff_ne.2 (by omega)
  clear h hn h1 hv
  go_enter Try.func13, Try.ntmps13
  go_wp2_with (go_at_call 19; refine H1.out.mono ?_; rintro e w' ⟨rfl, rfl⟩)
  go_ret2
  exact unPost_none HE.out (Below.refl _ _)
set_option maxHeartbeats 400000 in
theorem sUP_nil (w : World) (A : Option Addr) (c : Nat) :
    Calls Try.prog 13 #[.slice A 0 c] w (UnPost (unpR []) w) := by
  go_enter Try.func13, Try.ntmps13
  go_wp2
  go_ret2
  exact unPost_none unpR_nil (Below.refl _ _)
theorem sUP_any (w : World) (v : Value) (xs : List Int) (h : Rds w v xs) (hn : xs.length ≤ 1048576) :
    Calls Try.prog 13 #[v] w (UnPost (unpR xs) w) := by
  obtain ⟨A, c, rfl, h1⟩ := h
  rcases Nat.eq_zero_or_pos xs.length with h0 | h0
  · obtain rfl : xs = [] := List.eq_nil_of_length_eq_zero h0
    exact sUP_nil w A c
  · obtain ⟨b, off, rfl, ha⟩ := h1 h0
    cases hv : bytesB 17 xs
    · exact sUP_no w b off c xs.length xs rfl h0 hn ha hv
    · exact sUP_at w b off c xs.length xs rfl h0 ha hv
theorem unp_len : ∀ (l o : List Int) (r : Nat) (f : Bool), unp f r l = some o → o.length ≤ l.length
  | [], o, 0, f, h => by simp [unp] at h; subst h; simp
  | [], o, r + 1, f, h => by simp [unp] at h
  | b :: l, o, 0, f, h => by
    rw [unp] at h
    by_cases hb : b < 1
    · simp [hb] at h
    · rw [if_neg hb] at h
      obtain ⟨o1, ho, e⟩ := Option.map_eq_some_iff.1 h
      have := unp_len l o1 _ false ho
      cases f
      · simp at e; subst e; simp; omega
      · simp at e; subst e; simp; omega
  | b :: l, o, r + 1, f, h => by
    rw [unp] at h
    by_cases hb : b < 1
    · simp [hb] at h
    · rw [if_neg hb] at h
      obtain ⟨o1, ho, e⟩ := Option.map_eq_some_iff.1 h
      have := unp_len l o1 _ false ho
      subst e; simp; omega
theorem unpR_len (l : List Int) : ((unpR l).getD []).length ≤ 17 := by
  unfold unpR
  by_cases h : l ≠ [] ∧ bytesB 17 l = true
  · rw [if_pos h]
    have h2 : l.length ≤ 17 := by have := h.2; simp [bytesB] at this; exact this.1
    cases hu : unp true 0 l with
    | none => simp
    | some o => have := unp_len l o 0 true hu; simp; omega
  · rw [if_neg h]; simp
end Go.Proofs.Ytimlmbbegeaakaa
