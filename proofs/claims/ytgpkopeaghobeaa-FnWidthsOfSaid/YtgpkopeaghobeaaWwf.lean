/-
  The walk of impl.WidthsOf. Conditions: the lengths that are typed.
-/
import Derived.Test.YtgpkopeaghobeaaWwe
namespace Go.Proofs.Ytgpkopeaghobeaa
open Go.RowKit
set_option linter.unusedVariables false

/-- What stands at the head of a round: an iterator at block IT, and the widths so far. -/
def WdRel (lim : Int) (s : ByteArray) (w : World) (IT : Nat) (nv ev sv : Value) (wr : World) (k : Nat) : Prop :=
  k ≤ s.size ∧ nv = .int .i64 (wst lim (s.data.toList.take k)).1 ∧ ev = .int .i64 (wst lim (s.data.toList.take k)).2 ∧ OwnL wr w.heap.size sv (wlist lim (s.data.toList.take k)) ∧
  wr.heap[IT]? = some (.stringIter s k) ∧ (s.data.toList.take k).all isSign = true ∧ Below w.heap.size w wr ∧ w.heap.size ≤ wr.heap.size

set_option maxHeartbeats 3200000 in
theorem iWO_ok (lim : Int) (s : ByteArray) (w : World) (hl1 : 1 ≤ lim) (hl2 : lim ≤ 30) (hs : s.size ≤ 16) :
    Calls Try.prog 6 #[.int .i64 lim, .string s] w (RowPost (widR lim s.data.toList) w) := by
  have hlen : s.data.toList.length = s.size := by simp
  have hok : s.data.toList.all isSign = true → widR lim s.data.toList = wlist lim s.data.toList := fun ha => widR_ok (by simp only [widB, hlen, ha]; simp; omega)
  have hbad : s.data.toList.all isSign = false → widR lim s.data.toList = [] := fun ha => widR_bad (by simp [widB, ha])
  have HOK := fun h => Lib.hid (hok h)
  have HBAD := fun h => Lib.hid (hbad h)
  have H := wit_any w lim 1 30
  rw [show (decide ((1 : Int) ≤ lim) && decide (lim ≤ 30)) = true from by simp; omega] at H
  have HI := Lib.hid H
  clear hok hbad hlen H
  go_enter Try.func6, Try.ntmps6
  go_wp2_with (go_at_call 14; refine HI.out.mono ?_; rintro e w' ⟨rfl, rfl⟩)
  go_loopw [5, 6, 7] (fun nv ev sv wr => ∃ k : Nat, WdRel lim s w (w.heap.size + 1) nv ev sv wr k) (fun _ _ _ wr => s.size - wr.iterPos (w.heap.size + 1))
  case atStart =>
    refine ⟨0, Nat.zero_le _, rfl, rfl, (OwnL.one _ _ _ (Nat.le_refl _)).alloc _, ?_, by simp, ((Below.refl _ _).alloc (Nat.le_refl _) _).alloc (by simp) _, ?_⟩
    · have := World.iter_heap (w.alloc (.cells #[.int .i64 1] 3)) s 0
      simpa using this
    · show w.heap.size ≤ ((w.alloc (.cells #[.int .i64 1] 3)).alloc (.stringIter s 0)).heap.size
      rw [World.size_alloc, World.size_alloc]; omega
  case round =>
    obtain ⟨k, hk, rfl, rfl, hown, hit, hall, hb, hz⟩ := hrel
    obtain ⟨A, cp, rfl⟩ := hown.form
    have HA := Lib.hid hall
    clear hall
    by_cases hlt : k < s.size
    · have hpos := iterPos_of hit
      have HP := Lib.hid hpos
      clear hpos
      cases hsg : isSign s[k]
      · have hnx := fun ty => Lib.run_next_any_at (P := Try.prog) wr (w.heap.size + 1) s k ty hit hlt
        have HX := HBAD (allS_bad s k hlt hsg)
        obtain ⟨q1, q2, q3⟩ := dec_sign s k hlt hsg
        have hbel2 := Lib.below_iterAt hb (k := w.heap.size + 1) (by omega) s (k + (Utf8.decode s k).2)
        generalize (Utf8.decode s k).1 = d at *
        generalize (Utf8.decode s k).2 = d2 at *
        clear hsg hown
        go_wp2
        go_ret
        exact rowPost_nil HX.out hbel2
      · have bd := wst_bd hl1 (s.data.toList.take k)
        have hlenL := wlist_len lim (s.data.toList.take k)
        have hl3 : (s.data.toList.take k).length ≤ k := List.length_take_le _ _
        have HT := Lib.hid (take_snocS s k hlt)
        have HS := Lib.hid (wlist_snoc lim (s.data.toList.take k) s[k])
        have HW := Lib.hid (wst_snoc lim (s.data.toList.take k) s[k])
        have HAS := Lib.hid (allS_snoc s k hlt HA.out hsg)
        obtain ⟨x, hx⟩ : ∃ x, x = (wstp lim (wst lim (s.data.toList.take k)) s[k]).1 := ⟨_, rfl⟩
        obtain ⟨y, hy⟩ : ∃ y, y = (wstp lim (wst lim (s.data.toList.take k)) s[k]).2 := ⟨_, rfl⟩
        have hHS : wlist lim (s.data.toList.take (k + 1)) = wlist lim (s.data.toList.take k) ++ [x] := by rw [HT.out, HS.out, hx]
        have hW1 : (wst lim (s.data.toList.take (k + 1))).1 = x := by rw [HT.out, HW.out, hx]
        have hW2 : (wst lim (s.data.toList.take (k + 1))).2 = y := by rw [HT.out, HW.out, hy]
        clear HT HS HW
        have F1 := Lib.hid hHS
        have F2 := Lib.hid hW1
        have F3 := Lib.hid hW2
        clear hHS hW1 hW2
        have hnx0 := fun ty => Lib.run_next_ascii_at (P := Try.prog) wr (w.heap.size + 1) s k ty hit hlt (by rcases sign_cases hsg with e | e | e <;> rw [e] <;> decide)
        have hit2 := Lib.iterAt_heap wr (w.heap.size + 1) s k (k + 1) hit
        have hown2 : OwnL (wr.iterAt (w.heap.size + 1) s (k + 1)) w.heap.size (.slice A (wlist lim (s.data.toList.take k)).length cp) (wlist lim (s.data.toList.take k)) := own_iterAt hown hit (k + 1)
        have hbel2 := Lib.below_iterAt hb (k := w.heap.size + 1) (by omega) s (k + 1)
        have hsz2 : w.heap.size ≤ (wr.iterAt (w.heap.size + 1) s (k + 1)).heap.size := by rw [Lib.iterAt_size]; exact hz
        have hsz3 : w.heap.size + 1 < (wr.iterAt (w.heap.size + 1) s (k + 1)).heap.size := (Array.getElem?_eq_some_iff.1 hit2).1
        clear hown hb hz hit
        generalize wr.iterAt (w.heap.size + 1) s (k + 1) = W2 at *
        generalize wlist lim (s.data.toList.take k) = L at *
        generalize wst lim (s.data.toList.take k) = p at *
        obtain ⟨a, b⟩ := p
        simp only [] at bd hx hy
        have hL : L.length ≤ 20 := by omega
        clear hlenL hl3
        have HO := Lib.hid hown2
        have HIT := Lib.hid hit2
        clear hown2 hit2
        generalize s[k] = c at *
        rcases sign_cases hsg with rfl | rfl | rfl
        · have hnx : ∀ ty, (Instr.next (.pointer (some ⟨w.heap.size + 1, 0, none⟩)) true ty).run Try.prog wr = .ok (.tuple #[.bool true, .int .i64 k, .int .i32 111]) W2 := hnx0
          obtain rfl : y = b := by rw [hy]; unfold wstp; rw [if_neg (by decide), if_neg (by decide)]; split <;> rfl
          have hm : x = if a < y then min (2 * a) y else min (a + 1) lim := by
            rw [hx]; unfold wstp; rw [if_neg (by decide), if_neg (by decide)]; split <;> rfl
          have HC := iWn_any a y lim W2 (by omega) (by omega) (by omega)
          rw [← hm] at HC
          have HC2 := Lib.hid HC
          clear hnx0 hsg hm hx hy HC
          go_wp2_with fail
          refine HC2.out.mono ?_
          rintro e W3 ⟨rfl, hb3⟩
          have hz3 := hb3.size
          have HO3 : Hid (OwnL W3 w.heap.size (.slice A L.length cp) L) := Lib.hid (HO.out.below hb3 (Nat.le_refl _))
          have HIT3 := Lib.hid (iter_below HIT.out hb3 hsz3)
          have hbel3 := hbel2.trans (hb3.mono (by omega))
          have hzz : w.heap.size ≤ W3.heap.size := by omega
          clear hb3 hbel2 hsz2 HO HIT
          go_wp2_with (at_builtin; refine append_oneI rfl (.tmp 44) (.tmp 46) rfl w.heap.size _ L x rfl rfl HO3.out (by omega) hzz ?_; intro A9 c9 w9 ho9 hg9 hb9 hz9)
          have hit9 := push_iter HIT3.out HO3.out hg9
          go_roundw
          case rel => exact ⟨k + 1, by omega, by rw [F2.out], by rw [F3.out], by rw [F1.out]; exact ho9, hit9, HAS.out, hbel3.trans (hb9.mono (by omega)), by omega⟩
          case measure => rw [iterPos_of hit9, HP.out]; omega
        · have hnx : ∀ ty, (Instr.next (.pointer (some ⟨w.heap.size + 1, 0, none⟩)) true ty).run Try.prog wr = .ok (.tuple #[.bool true, .int .i64 k, .int .i32 120]) W2 := hnx0
          obtain rfl : x = y := by rw [hx, hy]; rfl
          have hm : x = max (a / 2) 1 := by rw [hx]; rfl
          have hmx := run_max1 (a / 2) x hm
          clear hnx0 hsg hm hx hy
          go_wp2_with (at_builtin; refine append_oneI rfl (.tmp 44) (.tmp 46) rfl w.heap.size _ L x rfl rfl HO.out (by omega) hsz2 ?_; intro A9 c9 w9 ho9 hg9 hb9 hz9)
          have hit9 := push_iter HIT.out HO.out hg9
          go_roundw
          case rel => exact ⟨k + 1, by omega, by rw [F2.out], by rw [F3.out], by rw [F1.out]; exact ho9, hit9, HAS.out, hbel2.trans (hb9.mono (by omega)), by omega⟩
          case measure => rw [iterPos_of hit9, HP.out]; omega
        · have hnx : ∀ ty, (Instr.next (.pointer (some ⟨w.heap.size + 1, 0, none⟩)) true ty).run Try.prog wr = .ok (.tuple #[.bool true, .int .i64 k, .int .i32 116]) W2 := hnx0
          obtain rfl : x = 1 := by rw [hx]; rfl
          have hm : y = max (a / 2) 1 := by rw [hy]; rfl
          have hmx := run_max1 (a / 2) y hm
          clear hnx0 hsg hm hx hy
          go_wp2_with (at_builtin; refine append_oneI rfl (.tmp 44) (.tmp 46) rfl w.heap.size _ L 1 rfl rfl HO.out (by omega) hsz2 ?_; intro A9 c9 w9 ho9 hg9 hb9 hz9)
          have hit9 := push_iter HIT.out HO.out hg9
          go_roundw
          case rel => exact ⟨k + 1, by omega, by rw [F2.out], by rw [F3.out], by rw [F1.out]; exact ho9, hit9, HAS.out, hbel2.trans (hb9.mono (by omega)), by omega⟩
          case measure => rw [iterPos_of hit9, HP.out]; omega
    · have hnx : ∀ ty, (Instr.next (.pointer (some ⟨w.heap.size + 1, 0, none⟩)) true ty).run Try.prog wr = _ := fun ty => Lib.run_next_end_at wr (w.heap.size + 1) s k ty hit hlt
      have HX := HOK (allS_end s k hlt HA.out)
      have HE := Lib.hid (HX.out.trans (congrArg (wlist lim) (take_allS s k hlt).symm))
      go_wp2
      go_ret
      exact rowPost_mk HE.out hown hb

theorem iWO_any (lim : Int) (s : ByteArray) (w : World) (hs : s.size ≤ maxLen) :
    Calls Try.prog 6 #[.int .i64 lim, .string s] w (RowPost (widR lim s.data.toList) w) := by
  unfold maxLen at hs
  have hlen : s.data.toList.length = s.size := by simp
  cases hr : (decide ((1 : Int) ≤ lim) && decide (lim ≤ 30))
  · have e : widR lim s.data.toList = [] := widR_bad (by simp [widB, hr])
    rw [e]
    have H := wit_any w lim 1 30
    rw [hr] at H
    have HI := Lib.hid H
    clear H e hr hlen
    go_enter Try.func6, Try.ntmps6
    go_wp2_with (go_at_call 14; refine HI.out.mono ?_; rintro e w' ⟨rfl, rfl⟩)
    go_ret
    exact rowPost_nil rfl (Below.refl _ _)
  · by_cases hg : 16 < s.size
    · have H := wit_any w lim 1 30
      rw [hr] at H
      have HI := Lib.hid H
      have e : widR lim s.data.toList = [] := widR_bad (by simp [widB, hlen]; omega)
      rw [e]
      clear H e hr hlen
      go_enter Try.func6, Try.ntmps6
      go_wp2_with (go_at_call 14; refine HI.out.mono ?_; rintro e w' ⟨rfl, rfl⟩)
      go_ret
      exact rowPost_nil rfl (Below.refl _ _)
    · obtain ⟨hl1, hl2⟩ : 1 ≤ lim ∧ lim ≤ 30 := by simpa using hr
      exact iWO_ok lim s w hl1 hl2 (by omega)
end Go.Proofs.Ytgpkopeaghobeaa
