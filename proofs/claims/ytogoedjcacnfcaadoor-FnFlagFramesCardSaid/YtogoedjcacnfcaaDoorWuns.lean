/-
  The walks of the functions that unstuff bits. Conditions: the lengths that are typed.
-/
import Derived.Test.YtogoedjcacnfcaaDoorWstuff
namespace Go.Proofs.YtogoedjcacnfcaaDoor
open Go.RowKit
set_option linter.unusedVariables false

theorem take_drop (s : ByteArray) (k : Nat) (c : UInt8) (h : s.data.toList.take (k + 1) = s.data.toList.take k ++ [c]) : s.data.toList = (s.data.toList.take k ++ [c]) ++ s.data.toList.drop (k + 1) := by
  rw [← h, List.take_append_drop]

/-- What unstuff leaves. -/
def UnsPost (l : List UInt8) (w : World) (e : Ending) (w' : World) : Prop :=
  w = w' ∧ match uns l with | some o => e = .returned (.tuple #[.string ⟨o.toArray⟩, .bool true]) | none => ∃ t, e = .returned (.tuple #[.string t, .bool false])
theorem unsPost_none {l : List UInt8} {w : World} {t : ByteArray} (h : uns l = none) : UnsPost l w (.returned (.tuple #[.string t, .bool false])) w := ⟨rfl, by rw [h]; exact ⟨t, rfl⟩⟩
theorem unsPost_some {l o : List UInt8} {w : World} (h : uns l = some o) : UnsPost l w (.returned (.tuple #[.string ⟨o.toArray⟩, .bool true])) w := ⟨rfl, by rw [h]⟩

set_option maxHeartbeats 400000 in
theorem sus_any (s : ByteArray) (w : World) (hs : s.size ≤ 1048576) :
    Calls Tryd.prog 31 #[.string s] w (UnsPost s.data.toList w) := by
  go_enter Tryd.func31, Tryd.ntmps31
  go_wp2
  go_loop [4, 5, 6] (fun o n i => ∃ (k : Nat) (st : List UInt8 × Nat), k ≤ s.size ∧ i = .int .i64 k ∧ o = .string ⟨st.1.toArray⟩ ∧ n = .int .i64 st.2 ∧ usf (s.data.toList.take k) ([], 0) = some st ∧ st.2 ≤ 5 ∧ st.1.length ≤ k) (fun _ _ i => s.size - (intOf i).toNat)
  case atStart => exact ⟨0, ([], 0), Nat.zero_le _, rfl, rfl, rfl, rfl, by simp, by simp⟩
  case round =>
    obtain ⟨k, ⟨o, n⟩, hk, rfl, rfl, rfl, hu, hn, hlo⟩ := hrel
    have HU := Lib.hid hu
    clear hu
    simp only [] at hn hlo
    by_cases hlt : k < s.size
    · have hsz : (ByteArray.mk o.toArray).size ≤ 1048576 := by rw [mk_size]; omega
      have HT := Lib.hid (take_snoc s k hlt)
      have HS := Lib.hid (usf_snoc _ s[k] _ _ HU.out)
      have HD := Lib.hid (take_drop s k s[k] HT.out)
      cases hn5 : ((n : Int) == 5)
      · have hne : n ≠ 5 := by simp at hn5; omega
        have hn4 : n ≤ 4 := by omega
        have HE := Lib.hid hne
        clear hne
        cases hc : ((s[k].toNat : Int) == 49)
        · go_wp2
          have e := usp_zero (o := o) HE.out (u8_not49 (c := s[k]) hc)
          go_round
          case rel => exact ⟨k + 1, (o ++ [s[k]], 0), by omega, by go_num, by rw [app_one o s k hlt], rfl, by rw [HT.out, HS.out, e], by simp, by simp; omega⟩
          case measure => simp [intOf]; omega
        · have hc9 := u8_49 (c := s[k]) hc
          go_wp2
          have e := usp_one (o := o) HE.out
          go_round
          case rel => exact ⟨k + 1, (o ++ [s[k]], n + 1), by omega, by go_num, by rw [app_one o s k hlt], by go_num, by rw [HT.out, HS.out, hc9, e], by simp only []; omega, by simp; omega⟩
          case measure => simp [intOf]; omega
      · have hne : n = 5 := by simp at hn5; omega
        have HE := Lib.hid hne
        clear hne
        cases hc : ((s[k].toNat : Int) == 49)
        · go_wp2
          have e := usp_skip (o := o) HE.out (u8_not49 (c := s[k]) hc)
          go_round
          case rel => exact ⟨k + 1, (o, 0), by omega, by go_num, rfl, rfl, by rw [HT.out, HS.out, e], by simp, by simp; omega⟩
          case measure => simp [intOf]; omega
        · have hc9 := u8_49 (c := s[k]) hc
          go_wp2
          go_ret2
          refine unsPost_none ?_
          rw [HD.out]
          exact uns_none _ _ (by rw [HS.out, hc9]; exact usp_none HE.out)
    · have e : s.data.toList.take k = s.data.toList := List.take_of_length_le (by simp; omega)
      have he := uns_end _ _ HU.out
      rw [e] at he
      simp only [] at he
      by_cases h5 : n < 5
      · rw [if_pos h5] at he
        have HX := Lib.hid he
        clear e he
        have hd : decide ((n : Int) < 5) = true := by simp; omega
        go_wp2
        go_ret2
        exact unsPost_some HX.out
      · rw [if_neg h5] at he
        have HX := Lib.hid he
        clear e he
        have hd : decide ((n : Int) < 5) = false := by simp; omega
        go_wp2
        go_ret2
        exact unsPost_none HX.out

/-- The two results of UnstuffBits. -/
def pairU (r : Option (List UInt8)) : Value := .tuple #[.string ⟨(r.getD []).toArray⟩, .bool r.isSome]
theorem pairU_none {l : List UInt8} (h : unsR l = none) : pairU (unsR l) = .tuple #[.string ⟨#[]⟩, .bool false] := by rw [h]; rfl
theorem pairU_some {l o : List UInt8} (h : unsR l = some o) : pairU (unsR l) = .tuple #[.string ⟨o.toArray⟩, .bool true] := by rw [h]; rfl
theorem unsR_long {l : List UInt8} (h : bitsB 48 l = false) : unsR l = none := by simp [unsR, h]
theorem unsR_none {l : List UInt8} (h : uns l = none) : unsR l = none := by unfold unsR; rw [h]; split <;> rfl
theorem unsR_big {l o : List UInt8} (h : uns l = some o) (hb : bitsB 40 o = false) : unsR l = none := by unfold unsR; rw [h]; simp [hb]
theorem unsR_some {l o : List UInt8} (hl : bitsB 48 l = true) (h : uns l = some o) (hb : bitsB 40 o = true) : unsR l = some o := by unfold unsR; rw [h]; simp [hb, hl]
theorem ret_of {a b : Value} (h : b = a) : Ending.returned a = .returned b := by rw [h]

set_option maxHeartbeats 400000 in
theorem sUB_any (s : ByteArray) (w : World) (hs : s.size ≤ maxLen) :
    Calls Tryd.prog 18 #[.string s] w fun e w' => e = .returned (pairU (unsR s.data.toList)) ∧ w = w' := by
  unfold maxLen at hs
  by_cases hg : (48 : Int) < (s.size : Int)
  · have HN := Lib.hid (pairU_none (unsR_long (l := s.data.toList) (by simp [bitsB]; omega)))
    go_enter Tryd.func18, Tryd.ntmps18
    go_wp2
    go_ret2
    exact ⟨ret_of HN.out, rfl⟩
  · have HN := fun h => Lib.hid (pairU_none (unsR_long (l := s.data.toList) (bitsB_bad (m := 48) h)))
    have HB := fun h => Lib.hid (bitsB_ok (m := 48) s h)
    have HV := Lib.hid (sus_any s w (by omega))
    have hgb : decide ((s.size : Int) ≤ 48) = true := by simp; omega
    have HG := Lib.hid hgb
    clear hgb
    go_enter Tryd.func18, Tryd.ntmps18
    go_wp2
    go_loop [4] (fun i => ∃ k : Nat, k ≤ s.size ∧ i = .int .i64 k ∧ (s.data.toList.take k).all isBit = true) (fun i => s.size - (intOf i).toNat)
    case atStart => exact ⟨0, Nat.zero_le _, rfl, by simp⟩
    case round =>
      obtain ⟨k, hk, rfl, hall⟩ := hrel
      have HA := Lib.hid hall
      clear hall
      by_cases hlt : k < s.size
      · go_wp2
        · have hb := isBit_of48 (c := s[k]) (by assumption)
          go_round
          case rel => exact ⟨k + 1, by omega, by go_num, by rw [all_snoc s k hlt, HA.out, hb]; rfl⟩
          case measure => simp [intOf]; omega
        · have hb := isBit_ne (c := s[k]) (by assumption)
          go_ret2
          exact ⟨ret_of (HN (all_bad s k hlt hb)).out, rfl⟩
        · have hb := isBit_or (c := s[k]) (by assumption) (by assumption)
          go_round
          case rel => exact ⟨k + 1, by omega, by go_num, by rw [all_snoc s k hlt, HA.out, hb]; rfl⟩
          case measure => simp [intOf]; omega
      · have H48 : Hid (bitsB 48 s.data.toList = true) := by rw [show Hid (bitsB 48 s.data.toList = true) = (bitsB 48 s.data.toList = true) from rfl, (HB (all_end s k hlt HA.out)).out]; exact HG.out
        have hv := HV.out
        unfold UnsPost at hv
        cases hu : uns s.data.toList with
        | none =>
          rw [hu] at hv
          have HV2 := Lib.hid hv
          have HX := Lib.hid (pairU_none (unsR_none hu))
          clear hv hu
          go_wp2_with (go_at_call 31; refine HV2.out.mono ?_; rintro e w' ⟨rfl, t, rfl⟩)
          go_ret2
          exact ⟨ret_of HX.out, rfl⟩
        | some o =>
          rw [hu] at hv
          have HV2 := Lib.hid hv
          have ho : (ByteArray.mk o.toArray).data.toList = o := rfl
          have hol : (ByteArray.mk o.toArray).size ≤ maxLen := by
            have h := uns_len hu
            rw [mk_size]; simp at h; unfold maxLen; omega
          have h2 := svb_any ⟨o.toArray⟩ w hol
          rw [ho] at h2
          cases hb : bitsB 40 o
          · rw [hb] at h2
            have H2 := Lib.hid h2
            have HX := Lib.hid (pairU_none (unsR_big hu hb))
            clear hv hu ho h2 hb
            go_wp2_with (first | (go_at_call 31; refine HV2.out.mono ?_; rintro e w' ⟨rfl, rfl⟩) | (go_at_call 32; refine H2.out.mono ?_; rintro e w' ⟨rfl, rfl⟩))
            go_ret2
            exact ⟨ret_of HX.out, rfl⟩
          · rw [hb] at h2
            have H2 := Lib.hid h2
            have HX := Lib.hid (pairU_some (unsR_some H48.out hu hb))
            clear hv hu ho h2 hb
            go_wp2_with (first | (go_at_call 31; refine HV2.out.mono ?_; rintro e w' ⟨rfl, rfl⟩) | (go_at_call 32; refine H2.out.mono ?_; rintro e w' ⟨rfl, rfl⟩))
            go_ret2
            exact ⟨ret_of HX.out, rfl⟩
end Go.Proofs.YtogoedjcacnfcaaDoor
