/-
  The walk of the law FnIsWhole: it returns true at every code. No condition but that the code is a list that can be.
-/
import Derived.Test.YteililppbnbfhaaWdp
import Derived.Test.YteililppbnbfhaaWhm
namespace Go.Proofs.Yteililppbnbfhaa
open Go.RowKit
set_option linter.unusedVariables false

theorem rev_take (l : List Pc) (k : Nat) (hk : k < l.length) : (l.drop (l.length - k)).reverse ++ [l.getD (l.length - (k + 1)) d0] = (l.drop (l.length - (k + 1))).reverse := by
  obtain ⟨m, hm⟩ : ∃ m, l.length - (k + 1) = m := ⟨_, rfl⟩
  rw [hm, show l.length - k = m + 1 from by omega, List.drop_eq_getElem_cons (by omega : m < l.length), List.reverse_cons]
  rw [List.getD_eq_getElem?_getD, List.getElem?_eq_getElem (by omega : m < l.length)]
  rfl

set_option maxHeartbeats 3200000 in
theorem fnIsWhole_walk (a : Option Addr) (len cap : Nat) (zs : List Int) (w : World) (h : IsRow .u8 w a len cap zs) :
    Calls Try.prog 7 #[.slice a len cap] w fun e w' => e = .returned (.bool true) ∧ Below w.heap.size w w' := by
  by_cases hg : (1048576 : Int) < (len : Int)
  · go_enter Try.func7, Try.ntmps7
    go_wp2_with fail
    go_ret
    exact ⟨rfl, Below.refl _ _⟩
  · have H := Lib.hid (dIW_any w a len cap zs h)
    clear h
    go_enter Try.func7, Try.ntmps7
    go_wp2_with fail
    refine H.out.mono ?_
    rintro e w1 ⟨u, l, B, rfl, ho, hl, hb1⟩
    have HU := Lib.hid (PRds.of_own ho)
    have HB1 := Lib.hid hb1
    have hcap : ∀ A n c, u = .slice A n c → n ≤ c := fun A n c hv => by
      subst hv
      rcases ho.2 with ⟨h', _⟩ | ⟨g, c', cur, h', _, _, h3, _⟩
      · simp only [Value.slice.injEq] at h'; omega
      · simp only [Value.slice.injEq] at h'; omega
    obtain ⟨A, c, rfl⟩ := own_form3 ho
    have hlc := hcap _ _ _ rfl
    clear H ho hb1 hcap
    have HI := Lib.hid (fun W h => iIW_any W (.slice A l.length c) l h (by omega))
    have HS := Lib.hid (fun W h => sIW_any W (.slice A l.length c) l h (by omega))
    have HV := Lib.hid (fun W h => iVP_any W (.slice A l.length c) l h (by omega))
    have HA := Lib.hid (fun W h => iWA_any W A c l.length l rfl hlc h (by omega))
    have HR := Lib.hid (fun W v h => iIW_any W v l.reverse h (by rw [List.length_reverse]; omega))
    rw [whole_rev] at HR
    have HFW := Lib.hid (fun r b (h : WA l r b) hw => h.whole hw)
    generalize wholeB l = q at *
    generalize vpB l = qv at *
    have hqq : (q != q) = false := by simp
    have hqe : (q == q) = true := by simp
    go_wp2_with fail
    refine (HI.out _ HU.out).mono ?_
    rintro e w2 ⟨rfl, hb2⟩
    have HU2 := Lib.hid (HU.out.more hb2)
    have HB2 := Lib.hid (HB1.out.trans (hb2.mono HB1.out.size))
    clear hb2 HU
    go_wp2_with fail
    refine (HS.out _ HU2.out).mono ?_
    rintro e w3 ⟨rfl, hb3⟩
    have HU3 := Lib.hid (HU2.out.more hb3)
    have HB3 := Lib.hid (HB2.out.trans (hb3.mono HB2.out.size))
    clear hb3 HU2 HB2
    go_wp2_with fail
    refine (HV.out _ HU3.out).mono ?_
    rintro e w4 ⟨rfl, hb4⟩
    have HU4 := Lib.hid (HU3.out.more hb4)
    have HB4 := Lib.hid (HB3.out.trans (hb4.mono HB3.out.size))
    clear hb4 HU3 HB3
    cases qv
    · go_wp2_with fail
      refine (HS.out _ HU4.out).mono ?_
      rintro e w5 ⟨rfl, hb5⟩
      go_wp2
      go_ret
      exact ⟨rfl, HB4.out.trans (hb5.mono HB4.out.size)⟩
    · obtain ⟨i0, hi, hz0, hz1, hz2⟩ := info_parts infoP
      have HIn := Lib.hid hi
      have HZ0 := Lib.hid hz0
      have HZ1 := Lib.hid hz1
      have HZ2 := Lib.hid hz2
      clear hi hz0 hz1 hz2
      go_wp2
      have HM := Lib.hid (World.ownsRow_made (base := w4.heap.size) (e := 38) (size := 3) w4 #[] 0 (Nat.le_refl _) (by unfold maxLen; omega) rfl)
      have HB5 : Hid (Below w4.heap.size w4 (w4.alloc (.cells #[] 38))) := Lib.hid ((Below.refl _ _).alloc (Nat.le_refl _) _)
      generalize hw5 : w4.alloc (.cells #[] 38) = w5 at *
      clear hw5
      go_loopw [5, 6] (fun lv iv wr => ∃ (k : Nat) (A9 : Option Addr) (c9 : Nat), k ≤ l.length ∧ iv = .int .i64 ((l.length : Int) - (k : Int) - 1) ∧ lv = .slice A9 k c9 ∧ OwnP wr w4.heap.size lv (l.drop (l.length - k)).reverse ∧ Below w4.heap.size w4 wr) (fun _ iv _ => (intOf iv + 1).toNat)
      case atStart => exact ⟨0, some ⟨w4.heap.size, 0, none⟩, 0, Nat.zero_le _, by congr 1 <;> omega, rfl, by rw [Nat.sub_zero, List.drop_length]; exact HM.out, HB5.out⟩
      case round =>
        obtain ⟨k, A9, c9, hk, rfl, rfl, hown, hbel⟩ := hrel
        have HO := Lib.hid hown
        have HBEL := Lib.hid hbel
        have hsz := hbel.size
        clear hown
        by_cases hlt : k < l.length
        · have hd : decide ((0 : Int) ≤ (l.length : Int) - (k : Int) - 1) = true := by simp; omega
          have hR := HU4.out.more hbel
          obtain ⟨A', c', hv', h1'⟩ := hR
          obtain ⟨g, off, hA, hat⟩ := h1' (by omega)
          simp only [Value.slice.injEq] at hv'
          obtain ⟨rfl, hx0, rfl⟩ := hv'
          subst hA
          obtain ⟨c0, c1, c2⟩ := hat.2 (l.length - (k + 1)) (by omega)
          have HST := Lib.hid (rev_take l k hlt)
          have hlen : (l.drop (l.length - k)).reverse.length = k := by rw [List.length_reverse, List.length_drop]; omega
          have k0 : (0 : Int) ≤ (l.length : Int) - (k : Int) - 1 := by omega
          have k1 : (l.length : Int) - (k : Int) - 1 < (l.length : Int) := by omega
          have k2 : ((l.length : Int) - (k : Int) - 1).toNat = l.length - (k + 1) := by omega
          clear h1' hat hx0 hbel
          generalize l.getD (l.length - (k + 1)) d0 = p at *
          obtain ⟨x, y, z⟩ := p
          simp only at c0 c1 c2
          generalize hL : (l.drop (l.length - k)).reverse = L at *
          clear hL
          have HL := Lib.hid hlen
          clear hlen
          have hln : (Hid.out HL ▸ rfl : L.length = L.length) = rfl := rfl
          clear hln
          go_wp2_with (at_builtin; refine wpList_append_own _ rfl (.tmp 37) (.tmp 42) 24 rfl w4.heap.size 38 i0 (.agg #[.int .i64 0, .int .i64 0, .bool false]) 3 24 Try.underlying24 HIn.out HZ0.out HZ1.out HZ2.out rfl (by decide) _ k _ rfl (World.ownsRow.alloc (show wr.ownsRow w4.heap.size 38 3 (.slice A9 k c9) k (pcs L) from by have := HO.out; unfold OwnP at this; rwa [HL.out] at this) _) ⟨wr.heap.size, 0, none⟩ 1 1 (pcs [⟨x, y, z⟩]) rfl rfl (new3 _ _ _ _ _) (one3 _ _ _) (by rw [mx]; omega) (by omega) (by simp; omega) ?_; intro v9 w9 hown9 hg9 hnil; clear hnil; obtain ⟨A10, c10, rfl⟩ := own_form3 hown9)
          have R2 := push3_below (show wr.ownsRow w4.heap.size 38 3 (.slice A9 k c9) k (pcs L) from by have := HO.out; unfold OwnP at this; rwa [HL.out] at this) hg9 HBEL.out HBEL.out.size
          have ho9 : OwnP w9 w4.heap.size (.slice A10 (k + 1) c10) (L ++ [⟨x, y, z⟩]) := ownP_snoc (by rw [HL.out]; exact hown9)
          rw [HST.out] at ho9
          go_roundw
          case rel => exact ⟨k + 1, A10, c10, by omega, by congr 1; omega, rfl, ho9, R2.1⟩
          case measure => simp [intOf]; omega
        · have hk1 : k = l.length := by omega
          have hd : decide ((0 : Int) ≤ (l.length : Int) - (k : Int) - 1) = false := by simp; omega
          have HT : Hid (OwnP wr w4.heap.size (.slice A9 k c9) l.reverse) := Lib.hid (by have := HO.out; rwa [hk1, Nat.sub_self, List.drop_zero, ← hk1] at this)
          have HU5 := Lib.hid (HU4.out.more hbel)
          have HB6 := Lib.hid (HB4.out.trans (HBEL.out.mono HB4.out.size))
          have HTR := Lib.hid (PRds.of_own HT.out)
          clear hk1 hbel
          go_wp2_with fail
          refine (HA.out _ HU5.out).mono ?_
          rintro e w6 ⟨r, b, rfl, hwa, hb6⟩
          have HT6 := Lib.hid (HTR.out.more hb6)
          have HB7 := Lib.hid (HB6.out.trans (hb6.mono HB6.out.size))
          have hfw := HFW.out r b hwa
          clear hwa hb6
          go_wp2_with fail
          refine (HR.out _ _ HT6.out).mono ?_
          rintro e w7 ⟨rfl, hb7⟩
          have HB8 := Lib.hid (HB7.out.trans (hb7.mono HB7.out.size))
          clear hb7
          cases q
          · clear hfw
            go_wp2
            go_ret
            exact ⟨rfl, HB8.out⟩
          · obtain rfl := hfw rfl
            go_wp2
            go_ret
            exact ⟨rfl, HB8.out⟩
end Go.Proofs.Yteililppbnbfhaa
