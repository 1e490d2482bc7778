/-
  The walk of the program's UnpointBytes. Conditions: where the list lies, and the lengths that are typed.
-/
import Derived.Test.YtimlmbbegeaakaaVbyt
import Derived.Test.YtimlmbbegeaakaaUnpm
namespace Go.Proofs.Ytimlmbbegeaakaa
open Go.RowKit
set_option linter.unusedVariables false

set_option maxHeartbeats 3200000 in
theorem iUP_at (w : World) (b off c n : Nat) (xs : List Int) (hn : xs.length = n) (h0 : 1 ≤ n) (h17 : n ≤ 17) (h : At w b off xs) :
    Calls Try.prog 14 #[.slice (some ⟨b, off, none⟩) n c] w (UnPost (unpR xs) w) := by
  obtain ⟨i0, hi, hz0, hz1, hz2⟩ := info_parts info3
  have HI := Lib.hid hi
  have HZ0 := Lib.hid hz0
  have HZ1 := Lib.hid hz1
  have HZ2 := Lib.hid hz2
  have HN := Lib.hid hn
  have HC := Lib.hid h.2
  have hb := h.1
  have hn0 : ((n : Int) == 0) = false := beq_eq_false_iff_ne.2 (by omega)
  have hq17 : decide ((17 : Int) < (n : Int)) = false := decide_eq_false (by omega)
  clear h hn hi hz0 hz1 hz2
  go_enter Try.func14, Try.ntmps14
  go_wp2
  go_loopw [4, 5, 18] (fun v cv i wr => ∃ (k : Nat) (o : List Int) (r : Nat), k ≤ n ∧ i = .int .i64 k ∧ cv = .int .i64 ((k : Int) + (r : Int)) ∧ r ≤ 255 ∧ wr.ownsRow w.heap.size 3 1 v o.length (ints o) ∧ Below w.heap.size w wr ∧ w.heap.size ≤ wr.heap.size ∧ upf (xs.take k) ([], 0, true) = some (o, r, decide (k = 0)) ∧ o.length ≤ k ∧ (xs.take k).all isByte = true) (fun _ _ i _ => n - (intOf i).toNat)
  case atStart => exact ⟨0, [], 0, Nat.zero_le _, rfl, rfl, by omega, World.ownsRow_nil _ _ _ _, Below.refl _ _, Nat.le_refl _, rfl, by simp, by simp⟩
  case round =>
    obtain ⟨k, o, r, hk, rfl, rfl, hr, hown, hbel, hsz, hu, hol, hall⟩ := hrel
    have HU := Lib.hid hu
    have HA := Lib.hid hall
    have HOW := Lib.hid hown
    clear hu hall hown
    by_cases hlt : k < n
    · have hkx : k < xs.length := by have := HN.out; omega
      have hc1 := (hbel.cell (p := ⟨b, off + k, none⟩) hb).trans (HC.out k hkx)
      have HS : Hid (upf (xs.take (k + 1)) ([], 0, true) = ups (o, r, decide (k = 0)) (xs.getD k 0)) := by rw [takeI_snoc xs k hkx]; exact upf_snoc _ _ _ _ HU.out
      have HD : Hid (xs = xs.take (k + 1) ++ xs.drop (k + 1)) := (List.take_append_drop _ _).symm
      have HAS := fun h => Lib.hid (allB_snoc xs k hkx HA.out h)
      have HAB := fun h => Lib.hid (allB_bad xs k hkx h)
      clear hkx
      generalize xs.getD k 0 = x at *
      by_cases hlo : x < 1
      · have HX := Lib.hid (unpR_bad (l := xs) (by rw [HD.out]; exact unp_none (by rw [HS.out]; exact ups_low hlo)))
        have hq : decide (x < 1) = true := decide_eq_true hlo
        go_wp2
        go_ret2
        exact unPost_none HX.out hbel
      · by_cases hhi : 255 < x
        · have HX := Lib.hid (unpR_wide (HAB (by simp [isByte]; omega)).out)
          have hq : decide (x < 1) = false := decide_eq_false hlo
          have hq2 : decide (255 < x) = true := decide_eq_true hhi
          go_wp2
          go_ret2
          exact unPost_none HX.out hbel
        · have HAK := HAS (by simp [isByte]; omega)
          have hq : decide (x < 1) = false := decide_eq_false hlo
          have hq2 : decide (255 < x) = false := decide_eq_false hhi
          by_cases hr0 : r = 0
          · subst hr0
            have HX := Lib.hid (HS.out.trans (ups_head (o := o) hlo))
            by_cases hk0 : k = 0
            · subst hk0
              simp only [Nat.add_zero] at hc1
              go_wp2
              go_roundw
              case rel => exact ⟨1, o, (x - 1).toNat, by omega, by go_num, by go_num, by omega, HOW.out, hbel, hsz, by rw [HX.out]; rfl, by omega, HAK.out⟩
              case measure => simp [intOf]; omega
            · have hkp : (0 : Int) < (k : Int) := by omega
              have HK0 := Lib.hid hk0
              clear hk0
              go_wp2_with (at_builtin; refine wpList_append_own _ rfl (.tmp 41) (.tmp 42) 22 rfl w.heap.size 3 i0 (.int .i64 0) 1 8 Try.underlying22 HI.out HZ0.out HZ1.out HZ2.out rfl (by decide) _ _ _ rfl (HOW.out.alloc _) ⟨wr.heap.size, 0, none⟩ 1 1 [.int .i64 0] rfl rfl (cell_one_new _ _ _) (one_cell _ rfl) (by rw [mx]; omega) (by omega) (by simp; omega) ?_; intro v1 w1 hown1 hg1 hnil; clear hnil)
              have R := push_below HOW.out hg1 hbel hsz
              go_roundw
              case rel => exact ⟨k + 1, o ++ [0], (x - 1).toNat, by omega, by go_num, by go_num, by omega, ownI_snoc hown1, R.1, R.2, by rw [HX.out, decide_eq_false HK0.out]; rfl, by simp; omega, HAK.out⟩
              case measure => simp [intOf]; omega
          · have HX := Lib.hid (HS.out.trans (ups_more (o := o) hlo hr0))
            have hne : ((k : Int) != (k : Int) + (r : Int)) = true := by rw [bne_iff_ne]; omega
            have HR0 : 1 ≤ r := by omega
            clear hr0
            go_wp2_with (at_builtin; refine wpList_append_own _ rfl (.tmp 32) (.tmp 34) 22 rfl w.heap.size 3 i0 (.int .i64 0) 1 8 Try.underlying22 HI.out HZ0.out HZ1.out HZ2.out rfl (by decide) _ _ _ rfl (HOW.out.alloc _) ⟨wr.heap.size, 0, none⟩ 1 1 [.int .i64 x] rfl rfl (cell_one_new _ _ _) (one_cell _ rfl) (by rw [mx]; omega) (by omega) (by simp; omega) ?_; intro v1 w1 hown1 hg1 hnil; clear hnil)
            have R := push_below HOW.out hg1 hbel hsz
            go_roundw
            case rel => exact ⟨k + 1, o ++ [x], r - 1, by omega, by go_num, by go_num, by omega, ownI_snoc hown1, R.1, R.2, by rw [HX.out]; rfl, by simp; omega, HAK.out⟩
            case measure => simp [intOf]; omega
    · obtain rfl : k = n := by omega
      have e : xs.take k = xs := List.take_of_length_le (by have := HN.out; omega)
      have hu := HU.out
      have ha := HA.out
      rw [e] at hu ha
      have hend := unp_end hu
      have hlen : xs.length = k := HN.out
      by_cases hr0 : r = 0
      · subst hr0
        rw [if_pos rfl] at hend
        have HX := Lib.hid (unpR_ok (by omega) (by omega) ha hend)
        clear e hu ha hend hlen
        go_wp2
        go_ret2
        exact unPost_some HX.out HOW.out hbel
      · rw [if_neg hr0] at hend
        have HX := Lib.hid (unpR_bad hend)
        have hne : ((k : Int) + (r : Int) != (k : Int)) = true := by rw [bne_iff_ne]; omega
        clear e hu ha hend hlen hr0
        go_wp2
        go_ret2
        exact unPost_none HX.out hbel

set_option maxHeartbeats 400000 in
theorem iUP_long (w : World) (A : Option Addr) (n c : Nat) (xs : List Int) (hn : xs.length = n) (h17 : 17 < n) :
    Calls Try.prog 14 #[.slice A n c] w (UnPost (unpR xs) w) := by
  have HX := Lib.hid (unpR_long (l := xs) (by omega))
  have hn0 : ((n : Int) == 0) = false := beq_eq_false_iff_ne.2 (by omega)
  have hq17 : decide ((17 : Int) < (n : Int)) = true := decide_eq_true (by omega)
  clear hn
  go_enter Try.func14, Try.ntmps14
  go_wp2
  go_ret2
  exact unPost_none HX.out (Below.refl _ _)
set_option maxHeartbeats 400000 in
theorem iUP_nil (w : World) (A : Option Addr) (c : Nat) :
    Calls Try.prog 14 #[.slice A 0 c] w (UnPost (unpR []) w) := by
  go_enter Try.func14, Try.ntmps14
  go_wp2
  go_ret2
  exact unPost_none unpR_nil (Below.refl _ _)
theorem iUP_any (w : World) (v : Value) (xs : List Int) (h : Rds w v xs) (hn : xs.length ≤ 1048576) (hf : ∀ A n c, v = .slice A n c → n ≤ c) :
    Calls Try.prog 14 #[v] w (UnPost (unpR xs) w) := by
  obtain ⟨A, c, rfl, h1⟩ := h
  rcases Nat.eq_zero_or_pos xs.length with h0 | h0
  · obtain rfl : xs = [] := List.eq_nil_of_length_eq_zero h0
    exact iUP_nil w A c
  · by_cases h17 : 17 < xs.length
    · exact iUP_long w A xs.length c xs rfl h17
    · obtain ⟨b, off, rfl, ha⟩ := h1 h0
      exact iUP_at w b off c xs.length xs rfl h0 (by omega) ha
end Go.Proofs.Ytimlmbbegeaakaa
