/-
  The walk of the model's BlindOf. Conditions: the lengths that are typed.
-/
import Derived.Test.YtpneopldbeefhaaWbl
namespace Go.Proofs.Ytpneopldbeefhaa
open Go.RowKit
set_option linter.unusedVariables false

set_option maxHeartbeats 3200000 in
theorem sBL_any (p : ByteArray) (z : Int) (L : List (Int × Int)) (w : World) (hp : p.size ≤ 1048576) (hx : BliR p.data.toList z L) :
    Calls Try.prog 9 #[.string p, .int .i64 z] w fun e w' => ∃ v, e = .returned v ∧ LR w' w.heap.size v L ∧ Below w.heap.size w w' := by
  have h1 := svP_any p w (by unfold maxLen; omega)
  have h0 := inR_any w z ((p.size : Int) - 1) 20
  have hpl0 : p.data.toList.length = p.size := by simp
  rcases hx with ⟨hv, rfl⟩ | ⟨hv, hz, rfl⟩ | ⟨Q, K, n, hQ, hq1, hq2, hq3, hc, rfl, hqn, hn, rfl⟩
  · rw [hv] at h1
    have H1 := Lib.hid h1
    clear h1 hv h0
    go_enter Try.func9, Try.ntmps9
    go_wp2_with (go_at_call 21; refine H1.out.mono ?_; rintro e w' ⟨rfl, rfl⟩)
    go_ret
    exact ⟨_, rfl, LR.nil _ _, Below.refl _ _⟩
  · have hd : (decide ((p.size : Int) - 1 ≤ z) && decide (z ≤ 20)) = false := by
      rw [hpl0] at hz
      by_cases h1 : (p.size : Int) - 1 ≤ z
      · have : ¬ z ≤ 20 := fun h2 => hz ⟨h1, h2⟩
        simp [this]
      · simp [h1]
    rw [hv] at h1
    rw [hd] at h0
    have H1 := Lib.hid h1
    have H0 := Lib.hid h0
    clear h1 hv h0 hd hz
    go_enter Try.func9, Try.ntmps9
    go_wp2_with (first | (go_at_call 21; refine H1.out.mono ?_; rintro e w' ⟨rfl, rfl⟩) | (go_at_call 26; with_reducible refine H0.out.mono ?_; rintro e w' ⟨rfl, rfl⟩))
    go_ret
    exact ⟨_, rfl, LR.nil _ _, Below.refl _ _⟩
  · have hv : polyB p.data.toList = true := by rw [hQ]; exact polyB_mk hq1 hq2 hq3
    have hpl : p.size = Q.length + 1 := by rw [← hpl0, hQ, txt_len]; rfl
    have hd : (decide ((p.size : Int) - 1 ≤ (n : Int)) && decide ((n : Int) ≤ 20)) = true := by simp; omega
    rw [hv] at h1
    rw [hd] at h0
    have H1 := Lib.hid h1
    have H0 := Lib.hid h0
    obtain ⟨i0, hi, hz0, hz1, hz2⟩ := info_parts infoP
    have HI := Lib.hid hi
    have HZ0 := Lib.hid hz0
    have HZ1 := Lib.hid hz1
    have HZ2 := Lib.hid hz2
    have HLEN := Lib.hid (fun a b (ha : a ≤ n) (hb : b ≤ n) => bl_len (K := K) hn ha hb)
    have HW : Hid (∀ a b, a < b → b < n → ∀ (Z1 Z2 Z3 : ByteArray), Z1 = ByteArray.mk (List.replicate a (48 : UInt8)).toArray → Z2 = ByteArray.mk (List.replicate (b - a - 1) (48 : UInt8)).toArray → Z3 = ByteArray.mk (List.replicate (n - b - 1) (48 : UInt8)).toArray →
        ∀ (W : World), Calls Try.prog 22 #[.string p, .string (Z1 ++ ({ data := #[49] } : ByteArray) ++ Z2 ++ { data := #[49] } ++ Z3)] W fun e w' => e = .returned (.bool (bt K a b)) ∧ ∃ m, w' = W.drewN m) := (by
      intro a b hab hb Z1 Z2 Z3 e1 e2 e3 W
      have hs := str_two3 a (b - a - 1) (n - b - 1)
      rw [← e1, ← e2, ← e3] at hs
      have := swh_any p (Z1 ++ ({ data := #[49] } : ByteArray) ++ Z2 ++ { data := #[49] } ++ Z3) W (by omega) (by omega) (by rw [hs, mk_size, txt_len, two_len]; omega)
      rw [hs, hQ, show (ByteArray.mk (txt (two a (b - a - 1) (n - b - 1))).toArray).data.toList = txt (two a (b - a - 1) (n - b - 1)) from by simp, bt_whole hq1 hq3 hc hab hb hqn] at this
      rw [hs]
      exact this)
    have HPL := Lib.hid hpl
    clear h1 hv h0 hd hi hz0 hz1 hz2 hc hQ hpl0 hpl
    go_enter Try.func9, Try.ntmps9
    go_wp2_with (first | (go_at_call 21; refine H1.out.mono ?_; rintro e w' ⟨rfl, rfl⟩) | (go_at_call 26; with_reducible refine H0.out.mono ?_; rintro e w' ⟨rfl, rfl⟩))
    go_loopw [5, 6] (fun ov av wr => ∃ a : Nat, a ≤ n ∧ av = .int .i64 a ∧ LR wr w.heap.size ov (outL K n a) ∧ Below w.heap.size w wr ∧ w.heap.size ≤ wr.heap.size) (fun _ av _ => n - (intOf av).toNat)
    case atStart => exact ⟨0, Nat.zero_le _, rfl, LR.new w _ (Nat.le_refl _), (Below.refl _ _).alloc (Nat.le_refl _) _, by simp⟩
    case round =>
      obtain ⟨a, ha, rfl, hlr, hbel, hsz⟩ := hrel
      by_cases hlt : a < n
      · have hlr0 : LR wr w.heap.size u5 (outL K n a ++ innL K a (a + 1)) := by rw [innL_zero]; simpa using hlr
        have HLR0 := Lib.hid hlr0
        have HBEL0 := Lib.hid hbel
        clear hlr hlr0 hbel
        go_wp2
        go_loopw [5, 7] (fun ov bv wq => ∃ b : Nat, a < b ∧ b ≤ n ∧ bv = .int .i64 b ∧ LR wq w.heap.size ov (outL K n a ++ innL K a b) ∧ Below w.heap.size w wq ∧ w.heap.size ≤ wq.heap.size) (fun _ bv _ => n - (intOf bv).toNat)
        case atStart => exact ⟨a + 1, by omega, by omega, by go_num, HLR0.out, HBEL0.out, hsz⟩
        case round =>
          obtain ⟨b, hab, hbn, rfl, hlr, hbel2, hsz2⟩ := hrel
          have HLR := Lib.hid hlr
          have HBEL := Lib.hid hbel2
          clear hlr hbel2
          by_cases hblt : b < n
          · have hz1 := sze_any (a : Int) wr (by omega) (by omega)
            have hz2 := sze_any ((b : Int) - a - 1) wr (by omega) (by omega)
            have hz3 := sze_any ((n : Int) - b - 1) wr (by omega) (by omega)
            rw [show (a : Int).toNat = a from by omega] at hz1
            rw [show ((b : Int) - a - 1).toNat = b - a - 1 from by omega] at hz2
            rw [show ((n : Int) - b - 1).toNat = n - b - 1 from by omega] at hz3
            have hw0 := HW.out a b hab hblt _ _ _ rfl rfl rfl
            have hs1 : (ByteArray.mk (List.replicate a (48 : UInt8)).toArray).size ≤ 20 := by rw [mk_size]; simp; omega
            have hs2 : (ByteArray.mk (List.replicate (b - a - 1) (48 : UInt8)).toArray).size ≤ 20 := by rw [mk_size]; simp; omega
            have hs3 : (ByteArray.mk (List.replicate (n - b - 1) (48 : UInt8)).toArray).size ≤ 20 := by rw [mk_size]; simp; omega
            generalize ByteArray.mk (List.replicate a (48 : UInt8)).toArray = Z1 at hz1 hw0 hs1
            generalize ByteArray.mk (List.replicate (b - a - 1) (48 : UInt8)).toArray = Z2 at hz2 hw0 hs2
            generalize ByteArray.mk (List.replicate (n - b - 1) (48 : UInt8)).toArray = Z3 at hz3 hw0 hs3
            have HZZ1 := Lib.hid hz1
            have HZZ2 := Lib.hid hz2
            have HZZ3 := Lib.hid hz3
            clear hz1 hz2 hz3
            cases hbt : bt K a b
            · rw [hbt] at hw0
              have HW0 := Lib.hid hw0
              have HE := Lib.hid (innL_no hbt)
              clear hw0 hbt
              go_wp2_with (first | (go_at_call 23; with_reducible refine HZZ1.out.mono ?_; rintro e w' ⟨rfl, rfl⟩) | (go_at_call 23; with_reducible refine HZZ2.out.mono ?_; rintro e w' ⟨rfl, rfl⟩) | (go_at_call 23; with_reducible refine HZZ3.out.mono ?_; rintro e w' ⟨rfl, rfl⟩))
              refine (HW0.out _).mono ?_
              rintro e w2 ⟨rfl, m, rfl⟩
              go_wp2
              go_roundw
              case rel => exact ⟨b + 1, by omega, by omega, by go_num, by rw [HE.out]; exact HLR.out.drewN m, below_drewN HBEL.out m, hsz2⟩
              case measure => simp [intOf]; omega
            · rw [hbt] at hw0
              have HW0 := Lib.hid hw0
              have HE := Lib.hid (innL_yes hab hbt)
              have hlen := HLEN.out a b (by omega) (by omega)
              clear hw0 hbt
              go_wp2_with (first | (go_at_call 23; with_reducible refine HZZ1.out.mono ?_; rintro e w' ⟨rfl, rfl⟩) | (go_at_call 23; with_reducible refine HZZ2.out.mono ?_; rintro e w' ⟨rfl, rfl⟩) | (go_at_call 23; with_reducible refine HZZ3.out.mono ?_; rintro e w' ⟨rfl, rfl⟩))
              refine (HW0.out _).mono ?_
              rintro e w2 ⟨rfl, m, rfl⟩
              obtain ⟨gs, hgl, hpr⟩ := HLR.out.drewN m
              have hbq := below_drewN HBEL.out m
              have hszq : w.heap.size ≤ (wr.drewN m).heap.size := hsz2
              generalize wr.drewN m = wq at *
              have HPR := Lib.hid hpr
              have HBQ := Lib.hid hbq
              have HGL := Lib.hid hgl
              have hgn : gs.length ≤ 420 := by omega
              clear hpr hbq hgl hlen
              go_wp2_with (at_builtin; refine wpList_append_own _ rfl (.tmp 52) (.tmp 56) 24 rfl w.heap.size 33 i0 (.slice none 0 0) 1 24 Try.underlying24 HI.out HZ0.out HZ1.out HZ2.out rfl (by decide) u5 gs.length (pv gs) rfl ((HPR.out.own.alloc _).alloc _) ⟨wq.heap.size + 1, 0, none⟩ 1 1 [.slice (some ⟨wq.heap.size, 0, none⟩) 2 2] rfl rfl (by have h9 := one_new (wq.alloc (.cells #[.int .i64 (a : Int), .int .i64 (b : Int)] 3)) (.slice (some ⟨wq.heap.size, 0, none⟩) 2 2) 33; rw [World.size_alloc] at h9; exact h9) (by simp [Value.oneCell']) (by rw [mx]; omega) (by omega) (by simp; omega) ?_; intro v3 w3 hown3 hg3 hnil; clear hnil)
              have hlr3 := LR.push HGL.out HPR.out hszq hown3 hg3
              have hb3 := ((HBQ.out.alloc hszq (.cells #[.int .i64 (a : Int), .int .i64 (b : Int)] 3)).alloc (by simp; omega) (.cells #[.slice (some ⟨wq.heap.size, 0, none⟩) 2 2] 33)).grown hg3 (by simp; omega) (fun j hj => (HPR.out.own.lt j hj).1)
              rw [List.append_assoc, ← HE.out] at hlr3
              go_roundw
              case rel => exact ⟨b + 1, by omega, by omega, by go_num, hlr3, hb3, hb3.size⟩
              case measure => simp [intOf]; omega
          · obtain rfl : b = n := by omega
            have hlr9 : LR wr w.heap.size u5 (outL K b (a + 1)) := HLR.out
            have HLR9 := Lib.hid hlr9
            clear hlr9
            go_wp2
            go_roundw
            case rel => exact ⟨a + 1, by omega, by go_num, HLR9.out, HBEL.out, hsz2⟩
            case measure => simp [intOf]; omega
      · go_wp2
        go_ret
        obtain rfl : a = n := by omega
        exact ⟨_, rfl, hlr, hbel⟩
end Go.Proofs.Ytpneopldbeefhaa
