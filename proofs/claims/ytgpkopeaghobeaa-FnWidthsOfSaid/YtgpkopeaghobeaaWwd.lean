/-
  The walks of the functions that tell the widths of a window. Conditions: the lengths that are typed.
-/
import Derived.Test.YtgpkopeaghobeaaWai
import Derived.Test.YtgpkopeaghobeaaWlw
import Derived.Test.YtgpkopeaghobeaaFwm
namespace Go.Proofs.Ytgpkopeaghobeaa
open Go.RowKit
set_option linter.unusedVariables false

theorem take_snocS (s : ByteArray) (k : Nat) (h : k < s.size) : s.data.toList.take (k + 1) = s.data.toList.take k ++ [s[k]] := by
  rw [List.take_succ_eq_append_getElem (by simpa using h)]; rfl
theorem allS_snoc (s : ByteArray) (k : Nat) (h : k < s.size) (ha : (s.data.toList.take k).all isSign = true) (hb : isSign s[k] = true) : (s.data.toList.take (k + 1)).all isSign = true := by
  rw [take_snocS s k h, List.all_append, ha]; simpa using hb
theorem allS_bad (s : ByteArray) (k : Nat) (h : k < s.size) (hb : isSign s[k] = false) : s.data.toList.all isSign = false := by
  rw [List.all_eq_false]
  exact ⟨s[k], by rw [show s[k] = s.data.toList[k]'(by simpa using h) from rfl]; exact List.getElem_mem _, by rw [hb]; simp⟩
theorem allS_end (s : ByteArray) (k : Nat) (h : ¬ k < s.size) (ha : (s.data.toList.take k).all isSign = true) : s.data.toList.all isSign = true := by
  rwa [List.take_of_length_le (by simp; omega)] at ha
theorem take_allS (s : ByteArray) (k : Nat) (h : ¬ k < s.size) : s.data.toList.take k = s.data.toList := List.take_of_length_le (by simp; omega)
theorem run_max1 (a m : Int) (h : m = max a 1) (ts : Array TypeId) (t : TypeId) (W : World) : (Builtin.max_ ts t #[.int .i64 a, .int .i64 1]).run Try.prog W = .ok (.int .i64 m) W := by
  rw [run_max_int2]; subst h; congr 2; omega
theorem run_min1 (a b m : Int) (h : m = min a b) (ts : Array TypeId) (t : TypeId) (W : World) : (Builtin.min_ ts t #[.int .i64 a, .int .i64 b]).run Try.prog W = .ok (.int .i64 m) W := by
  rw [run_min_int2]; subst h; congr 2; omega

theorem u8n (c d : UInt8) (h : c ≠ d) : ((c.toNat : Int) == (d.toNat : Int)) = false := by
  have : c.toNat ≠ d.toNat := fun e => h (by rw [← UInt8.toNat_inj]; exact e)
  simp; omega

set_option maxHeartbeats 1600000 in
theorem swd_any (lim : Int) (s : ByteArray) (w : World) (h1 : 1 ≤ lim) (h2 : lim ≤ 30) (hs : s.size ≤ 16) (ha : s.data.toList.all isSign = true) :
    Calls Try.prog 13 #[.int .i64 lim, .string s] w fun e w' => ∃ u, e = .returned u ∧ OwnL w' w.heap.size u (wlist lim s.data.toList) ∧ Below w.heap.size w w' := by
  have HALL := Lib.hid ha
  clear ha
  go_enter Try.func13, Try.ntmps13
  go_wp2
  go_loopw [5, 6, 7, 8] (fun sv nv ev iv wr => ∃ k : Nat, k ≤ s.size ∧ iv = .int .i64 k ∧ nv = .int .i64 (wst lim (s.data.toList.take k)).1 ∧ ev = .int .i64 (wst lim (s.data.toList.take k)).2 ∧
      OwnL wr w.heap.size sv (wlist lim (s.data.toList.take k)) ∧ Below w.heap.size w wr ∧ w.heap.size ≤ wr.heap.size) (fun _ _ _ iv _ => s.size - (intOf iv).toNat)
  case atStart => exact ⟨0, Nat.zero_le _, rfl, rfl, rfl, OwnL.one _ _ _ (Nat.le_refl _), (Below.refl _ _).alloc (Nat.le_refl _) _, by simp⟩
  case round =>
    obtain ⟨k, hk, rfl, rfl, rfl, hown, hb, hz⟩ := hrel
    by_cases hlt : k < s.size
    · have bd := wst_bd h1 (s.data.toList.take k)
      have hlen := wlist_len lim (s.data.toList.take k)
      have hl2 : (s.data.toList.take k).length ≤ k := List.length_take_le _ _
      have HT := Lib.hid (take_snocS s k hlt)
      have HS := Lib.hid (wlist_snoc lim (s.data.toList.take k) s[k])
      have HW := Lib.hid (wst_snoc lim (s.data.toList.take k) s[k])
      have hsg : isSign s[k] = true := List.all_eq_true.1 HALL.out _ (by rw [show s[k] = s.data.toList[k]'(by simpa using hlt) from rfl]; exact List.getElem_mem _)
      obtain ⟨x, hx⟩ : ∃ x, x = (wstp lim (wst lim (s.data.toList.take k)) s[k]).1 := ⟨_, rfl⟩
      obtain ⟨y, hy⟩ : ∃ y, y = (wstp lim (wst lim (s.data.toList.take k)) s[k]).2 := ⟨_, rfl⟩
      have hHS : wlist lim (s.data.toList.take (k + 1)) = wlist lim (s.data.toList.take k) ++ [x] := by rw [HT.out, HS.out, hx]
      have hW1 : (wst lim (s.data.toList.take (k + 1))).1 = x := by rw [HT.out, HW.out, hx]
      have hW2 : (wst lim (s.data.toList.take (k + 1))).2 = y := by rw [HT.out, HW.out, hy]
      clear HT HS HW
      have F1 := Lib.hid hHS
      have F2 := Lib.hid hW1
      have F3 := Lib.hid hW2
      clear hHS hW1 hW2
      generalize wlist lim (s.data.toList.take k) = L at *
      generalize wst lim (s.data.toList.take k) = p at *
      obtain ⟨a, b⟩ := p
      simp only [] at bd hx hy
      have hL : L.length ≤ 20 := by omega
      clear hlen hl2
      obtain ⟨A, cp, rfl⟩ := hown.form
      have HO := Lib.hid hown
      clear hown
      by_cases c1 : s[k] = 120
      · have q1 : ((s[k].toNat : Int) == 120) = true := by rw [c1]; rfl
        obtain rfl : x = y := by rw [hx, hy, c1]; rfl
        have hm : x = max (a / 2) 1 := by rw [hx, c1]; rfl
        have hmx := run_max1 (a / 2) x hm
        have hxb : 1 ≤ x ∧ x ≤ 30 := by omega
        clear hx hy hm c1
        go_wp2_with (at_builtin; refine append_oneI rfl (.tmp 46) (.tmp 48) rfl w.heap.size _ L x rfl rfl HO.out (by omega) hz ?_; intro A9 c9 w9 ho9 hg9 hb9 hz9)
        go_roundw
        case rel => exact ⟨k + 1, by omega, by go_num, by rw [F2.out], by rw [F3.out], by rw [F1.out]; exact ho9, hb.trans (hb9.mono (by omega)), by omega⟩
        case measure => simp [intOf]; omega
      · have n1 := u8n s[k] 120 c1
        rw [show ((120 : UInt8).toNat : Int) = 120 from rfl] at n1
        by_cases c2 : s[k] = 116
        · have q2 : ((s[k].toNat : Int) == 116) = true := by rw [c2]; rfl
          obtain rfl : x = 1 := by rw [hx, c2]; rfl
          have hm : y = max (a / 2) 1 := by rw [hy, c2]; rfl
          have hmx := run_max1 (a / 2) y hm
          have hxb : 1 ≤ y ∧ y ≤ 30 := by omega
          clear hx hy hm c1 c2
          go_wp2_with (at_builtin; refine append_oneI rfl (.tmp 46) (.tmp 48) rfl w.heap.size _ L 1 rfl rfl HO.out (by omega) hz ?_; intro A9 c9 w9 ho9 hg9 hb9 hz9)
          go_roundw
          case rel => exact ⟨k + 1, by omega, by go_num, by rw [F2.out], by rw [F3.out], by rw [F1.out]; exact ho9, hb.trans (hb9.mono (by omega)), by omega⟩
          case measure => simp [intOf]; omega
        · have n2 := u8n s[k] 116 c2
          rw [show ((116 : UInt8).toNat : Int) = 116 from rfl] at n2
          by_cases hab : a < b
          · obtain rfl : y = b := by rw [hy]; unfold wstp; rw [if_neg c1, if_neg c2, if_pos hab]
            have hm : x = min (2 * a) y := by rw [hx]; unfold wstp; rw [if_neg c1, if_neg c2, if_pos hab]
            have hmx := run_min1 (2 * a) y x hm
            clear hx hy hm c1 c2
            go_wp2_with (at_builtin; refine append_oneI rfl (.tmp 46) (.tmp 48) rfl w.heap.size _ L x rfl rfl HO.out (by omega) hz ?_; intro A9 c9 w9 ho9 hg9 hb9 hz9)
            go_roundw
            case rel => exact ⟨k + 1, by omega, by go_num, by rw [F2.out], by rw [F3.out], by rw [F1.out]; exact ho9, hb.trans (hb9.mono (by omega)), by omega⟩
            case measure => simp [intOf]; omega
          · obtain rfl : y = b := by rw [hy]; unfold wstp; rw [if_neg c1, if_neg c2, if_neg hab]
            have hm : x = min (a + 1) lim := by rw [hx]; unfold wstp; rw [if_neg c1, if_neg c2, if_neg hab]
            have hmx := run_min1 (a + 1) lim x hm
            clear hx hy hm c1 c2
            go_wp2_with (at_builtin; refine append_oneI rfl (.tmp 46) (.tmp 48) rfl w.heap.size _ L x rfl rfl HO.out (by omega) hz ?_; intro A9 c9 w9 ho9 hg9 hb9 hz9)
            go_roundw
            case rel => exact ⟨k + 1, by omega, by go_num, by rw [F2.out], by rw [F3.out], by rw [F1.out]; exact ho9, hb.trans (hb9.mono (by omega)), by omega⟩
            case measure => simp [intOf]; omega
    · have e := take_allS s k hlt
      rw [e] at hown
      clear e
      go_wp2
      go_ret
      exact ⟨_, rfl, hown, hb⟩

set_option maxHeartbeats 800000 in
theorem lst2_any (a b : Int) (g c : Nat) (w : World) (h : w.cell? ⟨g, 0, none⟩ = some (.int .i64 b)) :
    Calls Try.prog 20 #[.int .i64 a, .slice (some ⟨g, 0, none⟩) 1 c] w fun e w' => e = .returned (.int .i64 (min a b)) ∧ w = w' := by
  by_cases hba : b < a
  · have e : min a b = b := by omega
    rw [e]
    clear e
    go_enter Try.func20, Try.ntmps20
    go_wp2
    refine wp_loop_rounds 2 ?_
    rw [rounds_succ]
    go_wp2
    rw [rounds_succ]
    go_wp2
    go_ret
    exact ⟨rfl, rfl⟩
  · have e : min a b = a := by omega
    rw [e]
    clear e
    go_enter Try.func20, Try.ntmps20
    go_wp2
    refine wp_loop_rounds 2 ?_
    rw [rounds_succ]
    go_wp2
    rw [rounds_succ]
    go_wp2
    go_ret
    exact ⟨rfl, rfl⟩
end Go.Proofs.Ytgpkopeaghobeaa
