/-
  The walk of the program's BlindOf. Conditions: the lengths that are typed.
-/
import Derived.Test.YtpneopldbeefhaaWbl
namespace Go.Proofs.Ytpneopldbeefhaa
open Go.RowKit
set_option linter.unusedVariables false

set_option maxHeartbeats 3200000 in
theorem iBL_any (p : ByteArray) (z : Int) (L : List (Int × Int)) (w : World) (hp : p.size ≤ 1048576) (hx : BliR p.data.toList z L) :
    Calls Try.prog 10 #[.string p, .int .i64 z] w fun e w' => ∃ v, e = .returned v ∧ LR w' w.heap.size v L ∧ Below w.heap.size w w' := by
  have h1 := iVP_any p w (by unfold maxLen; omega)
  have hpl0 : p.data.toList.length = p.size := by simp
  rcases hx with ⟨hv, rfl⟩ | ⟨hv, hz, rfl⟩ | ⟨Q, K, n, hQ, hq1, hq2, hq3, hc, rfl, hqn, hn, rfl⟩
  · rw [hv] at h1
    have H1 := Lib.hid h1
    clear h1 hv
    go_enter Try.func10, Try.ntmps10
    go_wp2_with (go_at_call 16; refine H1.out.mono ?_; rintro e w1 ⟨rfl, hb1⟩)
    go_ret
    exact ⟨_, rfl, LR.nil _ _, hb1⟩
  · rw [hv] at h1
    have H1 := Lib.hid h1
    clear h1 hv
    rw [hpl0] at hz
    by_cases hlo : z < (p.size : Int) - 1
    · have hlod : decide (z < (p.size : Int) - 1) = true := by simpa using hlo
      clear hz
      go_enter Try.func10, Try.ntmps10
      go_wp2_with (go_at_call 16; refine H1.out.mono ?_; rintro e w1 ⟨rfl, hb1⟩)
      go_ret
      exact ⟨_, rfl, LR.nil _ _, hb1⟩
    · have hlod : decide (z < (p.size : Int) - 1) = false := by simpa using hlo
      have hhi : (20 : Int) < z := by omega
      have hhid : decide ((20 : Int) < z) = true := by simpa using hhi
      clear hz
      go_enter Try.func10, Try.ntmps10
      go_wp2_with (go_at_call 16; refine H1.out.mono ?_; rintro e w1 ⟨rfl, hb1⟩)
      go_ret
      exact ⟨_, rfl, LR.nil _ _, hb1⟩
  · have hv : polyB p.data.toList = true := by rw [hQ]; exact polyB_mk hq1 hq2 hq3
    have hpl : p.size = Q.length + 1 := by rw [← hpl0, hQ, txt_len]; rfl
    have hpb : p.data.toList.all isBit = true := by rw [hQ]; exact txt_bits _
    rw [hv] at h1
    have H1 := Lib.hid h1
    obtain ⟨i0, hi, hz0, hz1, hz2⟩ := info_parts infoP
    have HI := Lib.hid hi
    have HZ0 := Lib.hid hz0
    have HZ1 := Lib.hid hz1
    have HZ2 := Lib.hid hz2
    have HLEN := Lib.hid (fun a b (ha : a ≤ n) (hb : b ≤ n) => bl_len (K := K) hn ha hb)
    have HL : Hid (∀ a b, a < b → b < n → ∀ (W : World) (g : Nat), OwnB W g (txt (two a (b - a - 1) (n - b - 1))) → Calls Try.prog 24 #[.string p, .slice (some ⟨g, 0, none⟩) n n] W fun e w' => e = .returned (.bool (bt K a b)) ∧ W.grownBy w' (some g)) := (by
      intro a b hab hb W g ho
      have hlen : (txt (two a (b - a - 1) (n - b - 1))).length = n := by rw [txt_len, two_len]; omega
      have := lvn_any p W g n n _ hlen (by omega) (by omega) hpb (txt_bits _) (by omega) (by omega) (Nat.le_refl _) ho
      rw [hQ, bt_whole hq1 hq3 hc hab hb hqn] at this
      exact this)
    have hlo : ¬ (n : Int) < (p.size : Int) - 1 := by omega
    have hlod : decide ((n : Int) < (p.size : Int) - 1) = false := by simpa using hlo
    have hhi : ¬ (20 : Int) < (n : Int) := by omega
    have hhid : decide ((20 : Int) < (n : Int)) = false := by simpa using hhi
    clear h1 hv hi hz0 hz1 hz2 hc hQ hpl0 hpl hpb
    go_enter Try.func10, Try.ntmps10
    go_wp2_with (go_at_call 16; refine H1.out.mono ?_; rintro e w1 ⟨rfl, hb1⟩)
    go_loopw [5, 23] (fun ov av wr => ∃ a : Nat, a ≤ n ∧ av = .int .i64 a ∧ LR wr w.heap.size ov (outL K n a) ∧ Below w.heap.size w wr ∧ w.heap.size ≤ wr.heap.size) (fun _ av _ => n - (intOf av).toNat)
    case atStart => exact ⟨0, Nat.zero_le _, rfl, LR.nil _ _, hb1, hb1.size⟩
    case round =>
      obtain ⟨a, ha, rfl, hlr, hbel, hsz⟩ := hrel
      by_cases hlt : a < n
      · have hlr0 : LR wr w.heap.size u5 (outL K n a ++ innL K a (a + 1)) := by rw [innL_zero]; simpa using hlr
        have HLR0 := Lib.hid hlr0
        have HBEL0 := Lib.hid hbel
        clear hlr hlr0 hbel
        go_wp2
        go_loopw [5, 7] (fun ov bv wq => ∃ b : Nat, a < b ∧ b ≤ n ∧ bv = .int .i64 b ∧ LR wq w.heap.size ov (outL K n a ++ innL K a b) ∧ Below w.heap.size w wq ∧ w.heap.size ≤ wq.heap.size) (fun _ bv _ => n - (intOf bv).toNat)
        case atStart => exact ⟨a + 1, by omega, by omega, by go_num, HLR0.out, HBEL0.out, hsz⟩
        case round =>
          obtain ⟨b, hab, hbn, rfl, hlr, hbel2, hsz2⟩ := hrel
          have HLR := Lib.hid hlr
          have HBEL := Lib.hid hbel2
          clear hlr hbel2
          by_cases hblt : b < n
          · have ht := two_any wr a (b - a - 1) (n - b - 1) (by omega) b n (by omega) (by omega)
            have hl0 := fun W ho => HL.out a b hab hblt W (wr.heap.size + 1) ho
            have HT := Lib.hid ht
            clear ht
            cases hbt : bt K a b
            · rw [hbt] at hl0
              have HL0 := Lib.hid hl0
              have HE := Lib.hid (innL_no hbt)
              clear hl0 hbt
              go_wp2_with fail
              refine HT.out.mono ?_
              rintro e w2 ⟨rfl, ho, hb2⟩
              go_wp2_with fail
              refine (HL0.out _ ho).mono ?_
              rintro e w3 ⟨rfl, hg3⟩
              have hb3 := below_grow9 hb2 hg3 (by omega) hb2.size
              have hlr3 := HLR.out.below hb3
              have hb13 := HBEL.out.trans (hb3.mono hsz2)
              clear ho hb2 hg3
              go_wp2
              go_roundw
              case rel => exact ⟨b + 1, by omega, by omega, by go_num, by rw [HE.out]; exact hlr3, hb13, hb13.size⟩
              case measure => simp [intOf]; omega
            · rw [hbt] at hl0
              have HL0 := Lib.hid hl0
              have HE := Lib.hid (innL_yes hab hbt)
              have hlen := HLEN.out a b (by omega) (by omega)
              clear hl0 hbt
              go_wp2_with fail
              refine HT.out.mono ?_
              rintro e w2 ⟨rfl, ho, hb2⟩
              go_wp2_with fail
              refine (HL0.out _ ho).mono ?_
              rintro e wq ⟨rfl, hg3⟩
              have hb3 := below_grow9 hb2 hg3 (by omega) hb2.size
              obtain ⟨gs, hgl, hpr⟩ := HLR.out.below hb3
              have hbq := HBEL.out.trans (hb3.mono hsz2)
              have hszq := hbq.size
              have HPR := Lib.hid hpr
              have HBQ := Lib.hid hbq
              have HGL := Lib.hid hgl
              have hgn : gs.length ≤ 420 := by omega
              clear ho hb2 hg3 hb3 hpr hbq hgl hlen
              go_wp2_with (at_builtin; refine wpList_append_own _ rfl (.tmp 39) (.tmp 43) 24 rfl w.heap.size 33 i0 (.slice none 0 0) 1 24 Try.underlying24 HI.out HZ0.out HZ1.out HZ2.out rfl (by decide) u5 gs.length (pv gs) rfl ((HPR.out.own.alloc _).alloc _) ⟨wq.heap.size + 1, 0, none⟩ 1 1 [.slice (some ⟨wq.heap.size, 0, none⟩) 2 2] rfl rfl (by have h9 := one_new (wq.alloc (.cells #[.int .i64 (a : Int), .int .i64 (b : Int)] 3)) (.slice (some ⟨wq.heap.size, 0, none⟩) 2 2) 33; rw [World.size_alloc] at h9; exact h9) (by simp [Value.oneCell']) (by rw [mx]; omega) (by omega) (by simp; omega) ?_; intro v3 w3 hown3 hg3 hnil; clear hnil)
              have hlr3 := LR.push HGL.out HPR.out hszq hown3 hg3
              have hb3 := ((HBQ.out.alloc hszq (.cells #[.int .i64 (a : Int), .int .i64 (b : Int)] 3)).alloc (by simp; omega) (.cells #[.slice (some ⟨wq.heap.size, 0, none⟩) 2 2] 33)).grown hg3 (by simp; omega) (fun j hj => (HPR.out.own.lt j hj).1)
              rw [List.append_assoc, ← HE.out] at hlr3
              go_roundw
              case rel => exact ⟨b + 1, by omega, by omega, by go_num, hlr3, hb3, hb3.size⟩
              case measure => simp [intOf]; omega
          · obtain rfl : b = n := by omega
            have hlr9 : LR wr w.heap.size u5 (outL K b (a + 1)) := HLR.out
            have HLR9 := Lib.hid hlr9
            clear hlr9
            go_wp2
            go_roundw
            case rel => exact ⟨a + 1, by omega, by go_num, HLR9.out, HBEL.out, hsz2⟩
            case measure => simp [intOf]; omega
      · go_wp2
        go_ret
        obtain rfl : a = n := by omega
        exact ⟨_, rfl, hlr, hbel⟩
end Go.Proofs.Ytpneopldbeefhaa
