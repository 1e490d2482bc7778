/-
  The walks of both functions SharesOf. Conditions: where the lists lie, and the lengths that are typed.
-/
import Derived.Test.YtdnmoedpajkebaaWss
namespace Go.Proofs.Ytdnmoedpajkebaa
open Go.RowKit
set_option linter.unusedVariables false

set_option maxHeartbeats 800000 in
theorem sSH_any (room : Int) (w : World) (v : Value) (l : List Int) (hv : Rds w v l) (hn : l.length ≤ 1048576) :
    Calls Try.prog 5 #[.int .i64 room, v] w (RowPost (shaR room l) w) := by
  have H1 := inr_any w room 0 200
  have H2 := sVld_any w v l hv hn
  rw [show (decide ((0 : Int) ≤ room) && decide (room ≤ 200)) = roomB room from rfl] at H1
  cases hr : roomB room
  · have hb : shaR room l = [] := shaR_bad (by simp [shaB, hr])
    rw [hr] at H1
    have HR := Lib.hid H1
    have HN := Lib.hid hb
    clear H1 H2 hr hb
    go_enter Try.func5, Try.ntmps5
    go_wp2_with fail
    refine HR.out.mono ?_
    rintro e w' ⟨rfl, rfl⟩
    go_wp2
    go_ret
    exact rowPost_nil HN.out (Below.refl _ _)
  · rw [hr] at H1
    have HR := Lib.hid H1
    cases hl : okL l
    · have hb : shaR room l = [] := shaR_bad (by simp [shaB, hl])
      rw [hl] at H2
      have HD := Lib.hid H2
      have HN := Lib.hid hb
      clear H1 H2 hr hb hl
      go_enter Try.func5, Try.ntmps5
      go_wp2_with fail
      refine HR.out.mono ?_
      rintro e w' ⟨rfl, rfl⟩
      go_wp2_with fail
      refine HD.out.mono ?_
      rintro e w' ⟨rfl, rfl⟩
      go_wp2
      go_ret
      exact rowPost_nil HN.out (Below.refl _ _)
    · have hr2 : 0 ≤ room ∧ room ≤ 200 := by simpa [roomB] using hr
      have HS := Lib.hid (ssh_any room w v l hv hr2 hl)
      rw [hl] at H2
      have HD := Lib.hid H2
      clear H1 H2 hr hl
      go_enter Try.func5, Try.ntmps5
      go_wp2_with fail
      refine HR.out.mono ?_
      rintro e w' ⟨rfl, rfl⟩
      go_wp2_with fail
      refine HD.out.mono ?_
      rintro e w' ⟨rfl, rfl⟩
      go_wp2_with fail
      refine HS.out.mono ?_
      rintro e w1 ⟨u, rfl, hu, hb1⟩
      go_wp2
      go_ret
      exact ⟨u, rfl, hu, hb1⟩

set_option maxHeartbeats 1600000 in
theorem iSH_any (room : Int) (w : World) (v : Value) (l : List Int) (hv : Rds w v l) (hn : l.length ≤ 1048576) :
    Calls Try.prog 7 #[.int .i64 room, v] w (RowPost (shaR room l) w) := by
  have H1 := wit_any w room 0 200
  have H2 := iOnl_any w v l 16 (by omega) hv hn
  rw [show (decide ((0 : Int) ≤ room) && decide (room ≤ 200)) = roomB room from rfl] at H1
  rw [okM_16] at H2
  cases hr : roomB room
  · have hb : shaR room l = [] := shaR_bad (by simp [shaB, hr])
    rw [hr] at H1
    have HR := Lib.hid H1
    have HN := Lib.hid hb
    clear H1 H2 hr hb
    go_enter Try.func7, Try.ntmps7
    go_wp2_with fail
    refine HR.out.mono ?_
    rintro e w' ⟨rfl, rfl⟩
    go_wp2
    go_ret
    exact rowPost_nil HN.out (Below.refl _ _)
  · rw [hr] at H1
    have HR := Lib.hid H1
    cases hl : okL l
    · have hb : shaR room l = [] := shaR_bad (by simp [shaB, hl])
      rw [hl] at H2
      have HD := Lib.hid H2
      have HN := Lib.hid hb
      clear H1 H2 hr hb hl
      go_enter Try.func7, Try.ntmps7
      go_wp2_with fail
      refine HR.out.mono ?_
      rintro e w' ⟨rfl, rfl⟩
      go_wp2_with fail
      refine HD.out.mono ?_
      rintro e w' ⟨rfl, rfl⟩
      go_wp2
      go_ret
      exact rowPost_nil HN.out (Below.refl _ _)
    · have hr2 : 0 ≤ room ∧ room ≤ 200 := by simpa [roomB] using hr
      have hsb : shaB room l = true := by simp [shaB, hr, hl]
      have HS := Lib.hid (igs_any room w v l hv hr2 hl)
      have HF := Lib.hid (fun (G : Int) (h : Fair room G l) => shaR_fair hsb h)
      have hlen := okL_len hl
      have HL := Lib.hid hl
      have HVB : Hid (∀ wr, Below w.heap.size w wr → Rds wr v l) := Lib.hid (fun wr hb => hv.below hb hv.lies5)
      rw [hl] at H2
      have HD := Lib.hid H2
      obtain ⟨A, c, rfl⟩ : ∃ A c, v = .slice A l.length c := by obtain ⟨A, c, h, _⟩ := hv; exact ⟨A, c, h⟩
      clear H1 H2 hr hl hv hsb
      go_enter Try.func7, Try.ntmps7
      go_wp2_with fail
      refine HR.out.mono ?_
      rintro e w' ⟨rfl, rfl⟩
      go_wp2_with fail
      refine HD.out.mono ?_
      rintro e w' ⟨rfl, rfl⟩
      go_wp2_with fail
      refine HS.out.mono ?_
      rintro e w1 ⟨G, rfl, hG, hG2, hb1⟩
      have hG0 := hG.1
      have HFG := Lib.hid (HF.out G hG)
      have HB1 := Lib.hid hb1
      have hz1 := hb1.size
      clear hG hb1 HS HF
      go_wp2
      go_loopw [6, 22] (fun sv iv wr => ∃ k : Nat, k ≤ l.length ∧ iv = .int .i64 k ∧ OwnL wr w.heap.size sv ((l.take k).map fun x => min x G) ∧ Below w.heap.size w wr ∧ w.heap.size ≤ wr.heap.size) (fun _ iv _ => l.length - (intOf iv).toNat)
      case atStart => exact ⟨0, Nat.zero_le _, rfl, OwnL.nil _ _, HB1.out, hz1⟩
      case round =>
        obtain ⟨k, hk, rfl, hown, hb, hz⟩ := hrel
        obtain ⟨As, cs, hsv⟩ := hown.form
        subst hsv
        have hml : ((l.take k).map fun x => min x G).length = k := by rw [List.length_map, List.length_take]; omega
        have HO := Lib.hid hown
        rw [hml] at HO
        rw [hml]
        clear hown
        by_cases hlt : k < l.length
        · obtain ⟨b, off, hA2, hat⟩ : ∃ b off, A = some ⟨b, off, none⟩ ∧ At wr b off l := by
            obtain ⟨A', c', hv', h1'⟩ := HVB.out wr hb
            injection hv' with e1 e2 e3
            subst e1
            exact h1' (by omega)
          subst hA2
          have hc1 := hat.2 k hlt
          have hxb := lg_bd HL.out k
          have hxe : l.getD k 0 = lg l k := rfl
          have HM : Hid (((l.take (k + 1)).map fun x => min x G) = ((l.take k).map fun x => min x G) ++ [min (lg l k) G]) := Lib.hid (by
            rw [take_snoc l k hlt, List.map_append]; rfl)
          rw [hxe] at hc1
          have HB := Lib.hid hb
          have ho2 : OwnL (wr.alloc (.cells #[.int .i64 G] 3)) w.heap.size (.slice As k cs) ((l.take k).map fun x => min x G) := OwnL.alloc HO.out _
          have HLS : Hid (Calls Try.prog 20 #[.int .i64 (lg l k), .slice (some ⟨wr.heap.size, 0, none⟩) 1 1] (wr.alloc (.cells #[.int .i64 G] 3)) fun e w' => e = .returned (.int .i64 (min (lg l k) G)) ∧ wr.alloc (.cells #[.int .i64 G] 3) = w') := Lib.hid (lst2_new (lg l k) G wr 3)
          have HO2 := Lib.hid ho2
          clear hat hxe hb ho2
          generalize hm : min (lg l k) G = m at *
          have HMM := Lib.hid hm
          clear hm
          generalize lg l k = x at *
          have hz2 : w.heap.size ≤ (wr.alloc (.cells #[.int .i64 G] 3)).heap.size := by simp; omega
          go_wp2_with fail
          refine HLS.out.mono ?_
          rintro e w2 ⟨rfl, hw2⟩
          have HO3 : Hid (OwnL w2 w.heap.size (.slice As k cs) ((l.take k).map fun x => min x G)) := Lib.hid (by rw [← hw2]; exact HO2.out)
          have HB3 : Hid (Below w.heap.size w w2) := Lib.hid (by rw [← hw2]; exact HB.out.alloc hz _)
          have hz3 : w.heap.size ≤ w2.heap.size := by rw [← hw2]; exact hz2
          clear hw2 HO2 HB hz2
          go_wp2_with (at_builtin; refine append_oneI rfl (.tmp 26) (.tmp 31) rfl w.heap.size _ ((l.take k).map fun x => min x G) m rfl rfl HO3.out (by omega) hz3 ?_; intro A9 c9 w9 ho9 hg9 hb9 hz9)
          go_roundw
          case rel =>
            refine ⟨k + 1, by omega, by go_num, ?_, HB3.out.trans hb9, by omega⟩
            rw [HM.out]
            rw [hml] at ho9
            exact ho9
          case measure => simp [intOf]; omega
        · obtain rfl : k = l.length := by omega
          have HE : Hid (shaR room l = ((l.take l.length).map fun x => min x G)) := Lib.hid (by rw [List.take_length]; exact HFG.out.symm)
          go_wp2
          go_ret
          refine rowPost_mk HE.out HO.out hb
end Go.Proofs.Ytdnmoedpajkebaa
