/-
  The walks of the functions that put frames on a wire. Conditions: where the lists lie, and the lengths that are typed.
-/
import Derived.Test.YtogoedjcacnfcaaDoorWstuff
import Derived.Test.YtogoedjcacnfcaaDoorSrow
import Derived.Lib.Strings
namespace Go.Proofs.YtogoedjcacnfcaaDoor
open Go.RowKit
set_option linter.unusedVariables false

/-- A flag. -/
def flg : List UInt8 := [48, 49, 49, 49, 49, 49, 49, 48]
/-- A frame: bits, at least one. -/
def frB (x : ByteArray) : Bool := bitsB 40 x.data.toList && !x.toList.isEmpty
/-- The first k frames on a wire. -/
def flgs (xs : List ByteArray) : Nat → List UInt8
  | 0 => flg
  | k + 1 => flgs xs k ++ (stf (xs.getD k ByteArray.empty).data.toList).1 ++ flg
/-- What FlagFrames gives. -/
def flagR (xs : List ByteArray) : List UInt8 := if (decide (xs.length ≤ 4) && xs.all frB) = true then flgs xs xs.length else []
theorem allF_snoc (f : ByteArray → Bool) (xs : List ByteArray) (k : Nat) (h : k < xs.length) (ha : (xs.take k).all f = true) (hb : f (xs.getD k ByteArray.empty) = true) : (xs.take (k + 1)).all f = true := by
  have e : xs.take (k + 1) = xs.take k ++ [xs.getD k ByteArray.empty] := by
    rw [List.take_add_one, List.getElem?_eq_getElem h]
    simp [List.getD_eq_getElem?_getD, List.getElem?_eq_getElem h]
  rw [e, List.all_append, ha]; simpa using hb
theorem allF_bad (f : ByteArray → Bool) (xs : List ByteArray) (k : Nat) (h : k < xs.length) (hb : f (xs.getD k ByteArray.empty) = false) : xs.all f = false := by
  rw [List.all_eq_false]
  exact ⟨xs.getD k ByteArray.empty, by rw [List.getD_eq_getElem?_getD, List.getElem?_eq_getElem h]; exact List.getElem_mem h, by rw [hb]; simp⟩
theorem allF_end (f : ByteArray → Bool) (xs : List ByteArray) (k : Nat) (h : ¬ k < xs.length) (ha : (xs.take k).all f = true) : xs.all f = true := by
  rwa [List.take_of_length_le (by omega)] at ha
theorem allF_get (f : ByteArray → Bool) (xs : List ByteArray) (k : Nat) (h : k < xs.length) (ha : xs.all f = true) : f (xs.getD k ByteArray.empty) = true := by
  rw [List.getD_eq_getElem?_getD, List.getElem?_eq_getElem h]
  exact List.all_eq_true.1 ha _ (List.getElem_mem h)
theorem frB_cases {x : ByteArray} (h : frB x = false) : bitsB 40 x.data.toList = false ∨ (bitsB 40 x.data.toList = true ∧ x.toList.isEmpty = true) := by
  unfold frB at h
  cases h1 : bitsB 40 x.data.toList
  · exact .inl rfl
  · rw [h1] at h; exact .inr ⟨rfl, by simpa using h⟩
theorem frB_yes {x : ByteArray} (h : frB x = true) : bitsB 40 x.data.toList = true ∧ x.toList.isEmpty = false := by
  unfold frB at h
  rw [Bool.and_eq_true] at h
  exact ⟨h.1, by simpa using h.2⟩
theorem frB_len {x : ByteArray} (h : frB x = true) : (stf x.data.toList).1.length ≤ 48 := by
  have hb : x.size ≤ 40 ∧ x.data.toList.all isBit = true := by simpa [bitsB] using (frB_yes h).1
  have := stf_len x.data.toList
  have hl : x.data.toList.length = x.size := by simp
  omega
theorem flgs_len (xs : List ByteArray) (h : xs.all frB = true) : ∀ k, k ≤ xs.length → (flgs xs k).length ≤ 8 + 56 * k
  | 0, _ => by simp [flgs, flg]
  | k + 1, hk => by
    have ih := flgs_len xs h k (by omega)
    have := frB_len (allF_get frB xs k (by omega) h)
    unfold flgs
    rw [List.length_append, List.length_append]
    have : flg.length = 8 := rfl
    omega

set_option maxHeartbeats 800000 in
theorem svf_at (w : World) (b off c n : Nat) (xs : List ByteArray) (hn : xs.length = n) (hn2 : n ≤ 1048576) (hxs : ∀ j, j < n → (xs.getD j ByteArray.empty).size ≤ 1048576) (h : AtS w b off xs) :
    Calls Tryd.prog 26 #[.slice (some ⟨b, off, none⟩) n c] w fun e w' => e = .returned (.bool (decide (xs.length ≤ 4) && xs.all frB)) ∧ w = w' := by
  have hfin : xs.all frB = true → (decide (xs.length ≤ 4) && xs.all frB) = decide ((n : Int) ≤ 4) := by
    intro ha; rw [ha, Bool.and_true, hn]; simp; omega
  have HFIN := Lib.hid hfin
  have HN := Lib.hid hn
  have HC := Lib.hid h.2
  have HS := Lib.hid hxs
  clear h hn hxs hfin
  go_enter Tryd.func26, Tryd.ntmps26
  go_wp2
  go_loop [3] (fun i => ∃ k : Nat, k ≤ n ∧ i = .int .i64 k ∧ (xs.take k).all frB = true) (fun i => n - (intOf i).toNat)
  case atStart => exact ⟨0, Nat.zero_le _, rfl, by simp⟩
  case round =>
    obtain ⟨k, hk, rfl, hall⟩ := hrel
    have HA := Lib.hid hall
    clear hall
    by_cases hlt : k < n
    · have hkx : k < xs.length := by have := HN.out; omega
      have hc1 := HC.out k hkx
      have hs := HS.out k hlt
      have HSN := fun h => Lib.hid (allF_snoc frB xs k hkx HA.out h)
      have HB := fun h => Lib.hid (allF_bad frB xs k hkx h)
      clear hkx
      generalize xs.getD k ByteArray.empty = x at *
      have hv := svb_any x w (by unfold maxLen; omega)
      cases hf : frB x
      · have HX := Lib.hid (HB hf).out
        rcases frB_cases hf with hb | ⟨hb, he⟩
        · rw [hb] at hv
          have HV := Lib.hid hv
          clear hf hb hv
          go_wp2_with (go_at_call 32; refine HV.out.mono ?_; rintro e w' ⟨rfl, rfl⟩)
          go_ret
          exact ⟨ret_bool (by rw [HX.out, Bool.and_false]), rfl⟩
        · rw [hb] at hv
          have HV := Lib.hid hv
          have he2 : x.toList = [] := by simpa using he
          clear hf hb hv
          go_wp2_with (go_at_call 32; refine HV.out.mono ?_; rintro e w' ⟨rfl, rfl⟩)
          go_ret
          exact ⟨ret_bool (by rw [HX.out, Bool.and_false]), rfl⟩
      · have HX := HSN hf
        obtain ⟨hb, he⟩ := frB_yes hf
        have he2 : ¬ x.toList = [] := by simpa using he
        rw [hb] at hv
        have HV := Lib.hid hv
        clear hf hb hv
        go_wp2_with (go_at_call 32; refine HV.out.mono ?_; rintro e w' ⟨rfl, rfl⟩)
        go_round
        case rel => exact ⟨k + 1, by omega, by go_num, HX.out⟩
        case measure => simp [intOf]; omega
    · have ha := allF_end frB xs k (by have := HN.out; omega) HA.out
      have HX := Lib.hid (HFIN.out ha)
      clear ha
      go_wp2
      go_ret
      exact ⟨ret_bool HX.out.symm, rfl⟩
set_option maxHeartbeats 400000 in
theorem svf_nil (w : World) (A : Option Addr) (c : Nat) : Calls Tryd.prog 26 #[.slice A 0 c] w fun e w' => e = .returned (.bool true) ∧ w = w' := by
  go_enter Tryd.func26, Tryd.ntmps26
  go_wp2
  refine wp_loop_rounds 1 ?_
  rw [rounds_succ]
  go_wp2
  go_ret
  exact ⟨rfl, rfl⟩
set_option maxHeartbeats 400000 in
theorem sfl_any (w : World) : Calls Tryd.prog 17 #[] w fun e w' => e = .returned (.string ⟨flg.toArray⟩) ∧ w = w' := by
  go_enter Tryd.func17, Tryd.ntmps17
  go_wp2
  go_ret
  exact ⟨rfl, rfl⟩

set_option maxHeartbeats 1600000 in
theorem sFF_at (w : World) (b off c n : Nat) (xs : List ByteArray) (hn : xs.length = n) (hn2 : n ≤ 1048576) (hxs : ∀ j, j < n → (xs.getD j ByteArray.empty).size ≤ 1048576) (h : AtS w b off xs) :
    Calls Tryd.prog 13 #[.slice (some ⟨b, off, none⟩) n c] w fun e w' => e = .returned (.string ⟨(flagR xs).toArray⟩) ∧ w = w' := by
  have hv := svf_at w b off c n xs hn hn2 hxs h
  cases hb : (decide (xs.length ≤ 4) && xs.all frB)
  · have e : flagR xs = [] := by unfold flagR; rw [if_neg (by rw [hb]; simp)]
    rw [e]
    rw [hb] at hv
    have HV := Lib.hid hv
    clear hv hb e hxs h
    go_enter Tryd.func13, Tryd.ntmps13
    go_wp2_with (go_at_call 26; refine HV.out.mono ?_; rintro e w' ⟨rfl, rfl⟩)
    go_ret
    exact ⟨rfl, rfl⟩
  · have e : flagR xs = flgs xs xs.length := by unfold flagR; rw [if_pos hb]
    have hb2 := hb
    rw [Bool.and_eq_true, decide_eq_true_iff] at hb2
    obtain ⟨h4, hall⟩ := hb2
    rw [e, hn]
    rw [hb] at hv
    have HV := Lib.hid hv
    have HALL := Lib.hid hall
    have HLEN := Lib.hid (flgs_len xs hall)
    have HN := Lib.hid hn
    have HC := Lib.hid h.2
    have HS := Lib.hid hxs
    have hn4 : n ≤ 4 := by omega
    clear hv hb e h hn hxs hall h4
    go_enter Tryd.func13, Tryd.ntmps13
    go_wp2_with (first | (go_at_call 26; refine HV.out.mono ?_; rintro e w' ⟨rfl, rfl⟩) | (go_at_call 17; refine (sfl_any _).mono ?_; rintro e w' ⟨rfl, rfl⟩))
    go_loop [3, 4] (fun s i => ∃ k : Nat, k ≤ n ∧ i = .int .i64 k ∧ s = .string ⟨(flgs xs k).toArray⟩) (fun _ i => n - (intOf i).toNat)
    case atStart => exact ⟨0, Nat.zero_le _, rfl, rfl⟩
    case round =>
      obtain ⟨k, hk, rfl, rfl⟩ := hrel
      by_cases hlt : k < n
      · have hkx : k < xs.length := by have := HN.out; omega
        have hc1 := HC.out k hkx
        have hs := HS.out k hlt
        have hl := HLEN.out k (by omega)
        have hfx := allF_get frB xs k hkx HALL.out
        have hsl := frB_len hfx
        have hst := sst_any (xs.getD k ByteArray.empty) w hs
        have hnext : flgs xs (k + 1) = flgs xs k ++ (stf (xs.getD k ByteArray.empty).data.toList).1 ++ flg := rfl
        have HST := Lib.hid hst
        have HNX := Lib.hid hnext
        clear hst hnext hfx hkx
        generalize (stf (xs.getD k ByteArray.empty).data.toList).1 = t at *
        generalize xs.getD k ByteArray.empty = x at *
        generalize flgs xs k = L at *
        have hz1 : (ByteArray.mk L.toArray).size ≤ 300 := by rw [mk_size]; omega
        have hz2 : (ByteArray.mk t.toArray).size ≤ 48 := by rw [mk_size]; omega
        have hz3 : L.length ≤ 300 := by omega
        have hz4 : flg.length ≤ 8 := Nat.le_refl _
        have hz5 : (ByteArray.mk flg.toArray).size ≤ 8 := Nat.le_refl _
        go_wp2_with (first | (go_at_call 27; refine HST.out.mono ?_; rintro e w' ⟨rfl, rfl⟩) | (go_at_call 17; refine (sfl_any _).mono ?_; rintro e w' ⟨rfl, rfl⟩))
        go_round
        case rel => exact ⟨k + 1, by omega, by go_num, by rw [HNX.out, ByteArray.mk_append_mk, ByteArray.mk_append_mk]⟩
        case measure => simp [intOf]; omega
      · obtain rfl : k = n := by omega
        go_wp2
        go_ret
        exact ⟨rfl, rfl⟩
set_option maxHeartbeats 400000 in
theorem sFF_nil (w : World) (A : Option Addr) (c : Nat) : Calls Tryd.prog 13 #[.slice A 0 c] w fun e w' => e = .returned (.string ⟨flg.toArray⟩) ∧ w = w' := by
  have HV := Lib.hid (svf_nil w A c)
  go_enter Tryd.func13, Tryd.ntmps13
  go_wp2_with (first | (go_at_call 26; refine HV.out.mono ?_; rintro e w' ⟨rfl, rfl⟩) | (go_at_call 17; refine (sfl_any _).mono ?_; rintro e w' ⟨rfl, rfl⟩))
  refine wp_loop_rounds 1 ?_
  rw [rounds_succ]
  go_wp2
  go_ret
  exact ⟨rfl, rfl⟩
theorem sFF_any (w : World) (v : Value) (xs : List ByteArray) (h : Rss w v xs) (hn : xs.length ≤ 1048576) (hxs : ∀ j, j < xs.length → (xs.getD j ByteArray.empty).size ≤ 1048576) :
    Calls Tryd.prog 13 #[v] w fun e w' => e = .returned (.string ⟨(flagR xs).toArray⟩) ∧ w = w' := by
  obtain ⟨A, c, rfl, h1⟩ := h
  rcases Nat.eq_zero_or_pos xs.length with h0 | h0
  · obtain rfl : xs = [] := List.eq_nil_of_length_eq_zero h0
    exact sFF_nil w A c
  · obtain ⟨b, off, rfl, ha⟩ := h1 h0
    exact sFF_at w b off c xs.length xs rfl hn hxs ha

set_option maxHeartbeats 1600000 in
theorem iFF_at (w : World) (b off c n : Nat) (xs : List ByteArray) (hn : xs.length = n) (hn2 : n ≤ 1048576) (hxs : ∀ j, j < n → (xs.getD j ByteArray.empty).size ≤ 1048576) (h : AtS w b off xs) :
    Calls Tryd.prog 12 #[.slice (some ⟨b, off, none⟩) n c] w fun e w' => e = .returned (.string ⟨(flagR xs).toArray⟩) ∧ Below w.heap.size w w' := by
  by_cases h4 : (4 : Int) < (n : Int)
  · have e : flagR xs = [] := by unfold flagR; rw [if_neg (by rw [Bool.and_eq_true, decide_eq_true_iff]; omega)]
    rw [e]
    clear e h hxs
    go_enter Tryd.func12, Tryd.ntmps12
    go_wp2
    go_ret
    exact ⟨rfl, Below.refl _ _⟩
  · have hbad : xs.all frB = false → flagR xs = [] := by intro ha; unfold flagR; rw [if_neg (by rw [ha]; simp)]
    have hgood : xs.all frB = true → flagR xs = flgs xs n := by
      intro ha; unfold flagR; rw [if_pos (by rw [ha, Bool.and_true, decide_eq_true_iff]; omega), hn]
    have hpre : ∀ k, k ≤ n → (xs.take k).all frB = true → (flgs xs k).length ≤ 8 + 56 * k := by
      intro k hk ha
      have e : flgs (xs.take k) k = flgs xs k := by
        have : ∀ j, j ≤ k → flgs (xs.take k) j = flgs xs j := by
          intro j
          induction j with
          | zero => intro _; rfl
          | succ j ih =>
            intro hj
            unfold flgs
            rw [ih (by omega)]
            have : (xs.take k).getD j ByteArray.empty = xs.getD j ByteArray.empty := by
              simp [List.getD_eq_getElem?_getD, show j < k from by omega]
            rw [this]
        exact this k (Nat.le_refl _)
      have := flgs_len (xs.take k) ha k (by rw [List.length_take]; omega)
      rwa [e] at this
    have HBAD := Lib.hid hbad
    have HGOOD := Lib.hid hgood
    have HPRE := Lib.hid hpre
    have HN := Lib.hid hn
    have HC := Lib.hid h.2
    have HS := Lib.hid hxs
    have hb := h.1
    clear h hn hxs hbad hgood hpre
    go_enter Tryd.func12, Tryd.ntmps12
    go_wp2
    go_loopw [3, 11] (fun s i wr => ∃ k : Nat, k ≤ n ∧ i = .int .i64 k ∧ s = .string ⟨(flgs xs k).toArray⟩ ∧ (xs.take k).all frB = true ∧ Below w.heap.size w wr) (fun _ i _ => n - (intOf i).toNat)
    case atStart => exact ⟨0, Nat.zero_le _, rfl, rfl, by simp, Below.refl _ _⟩
    case round =>
      obtain ⟨k, hk, rfl, rfl, hall, hbel⟩ := hrel
      have HA := Lib.hid hall
      have HBEL := Lib.hid hbel
      clear hall hbel
      by_cases hlt : k < n
      · have hkx : k < xs.length := by have := HN.out; omega
        have hc1 := (HBEL.out.cell (p := ⟨b, off + k, none⟩) hb).trans (HC.out k hkx)
        have hs := HS.out k hlt
        have hl := HPRE.out k hk HA.out
        have HSN := fun h => Lib.hid (allF_snoc frB xs k hkx HA.out h)
        have HB := fun h => Lib.hid (allF_bad frB xs k hkx h)
        have hnext : flgs xs (k + 1) = flgs xs k ++ (stf (xs.getD k ByteArray.empty).data.toList).1 ++ flg := rfl
        have HNX := Lib.hid hnext
        clear hkx hnext
        generalize xs.getD k ByteArray.empty = x at *
        generalize flgs xs k = L at *
        have hv := fun W => iVB_any x W (by unfold maxLen; omega)
        have hz1 : (ByteArray.mk L.toArray).size ≤ 300 := by rw [mk_size]; omega
        have hz3 : L.length ≤ 300 := by omega
        cases hf : frB x
        · have HX := Lib.hid (HBAD.out (HB hf).out)
          rcases frB_cases hf with hbb | ⟨hbb, he⟩
          · rw [hbb] at hv
            have HV := Lib.hid hv
            clear hv hbb hf
            cases hem : x.toList.isEmpty
            · have he2 : ¬ x.toList = [] := by simpa using hem
              go_wp2_with (go_at_call 16; refine (HV.out _).mono ?_; rintro e w1 ⟨rfl, hb1⟩)
              go_ret
              exact ⟨ret_str (by rw [HX.out]), HBEL.out.trans (hb1.mono HBEL.out.size)⟩
            · have he2 : x.toList = [] := by simpa using hem
              go_wp2
              go_ret
              exact ⟨ret_str (by rw [HX.out]), HBEL.out⟩
          · have he2 : x.toList = [] := by simpa using he
            clear hv hbb hf
            go_wp2
            go_ret
            exact ⟨ret_str (by rw [HX.out]), HBEL.out⟩
        · have HX := HSN hf
          obtain ⟨hbb, he⟩ := frB_yes hf
          have he2 : ¬ x.toList = [] := by simpa using he
          have hsl := frB_len hf
          have hsb := fun W => iSB_any x W hs
          have hstu : stuffS x.data.toList = (stf x.data.toList).1 := by unfold stuffS; rw [if_pos hbb]
          rw [hstu] at hsb
          rw [hbb] at hv
          have HV := Lib.hid hv
          generalize (stf x.data.toList).1 = t at *
          have HSB := Lib.hid hsb
          have hz2 : (ByteArray.mk t.toArray).size ≤ 48 := by rw [mk_size]; omega
          clear hv hbb hf hsb hstu
          go_wp2_with (first | (go_at_call 16; refine (HV.out _).mono ?_; rintro e w1 ⟨rfl, hb1⟩) | (go_at_call 25; refine (HSB.out _).mono ?_; rintro e w2 ⟨rfl, hb2⟩))
          have hb12 := HBEL.out.trans (hb1.mono HBEL.out.size)
          have hb13 := hb12.trans (hb2.mono hb12.size)
          go_roundw
          case rel => exact ⟨k + 1, by omega, by go_num, by rw [HNX.out, show ({ data := #[48, 49, 49, 49, 49, 49, 49, 48] } : ByteArray) = ⟨flg.toArray⟩ from rfl, ByteArray.mk_append_mk, ByteArray.mk_append_mk, List.append_assoc], HX.out, hb13⟩
          case measure => simp [intOf]; omega
      · obtain rfl : k = n := by omega
        have ha := allF_end frB xs k (by have := HN.out; omega) HA.out
        have HX := Lib.hid (HGOOD.out ha)
        clear ha
        go_wp2
        go_ret
        exact ⟨ret_str (by rw [HX.out]), HBEL.out⟩
set_option maxHeartbeats 400000 in
theorem iFF_nil (w : World) (A : Option Addr) (c : Nat) : Calls Tryd.prog 12 #[.slice A 0 c] w fun e w' => e = .returned (.string ⟨flg.toArray⟩) ∧ Below w.heap.size w w' := by
  go_enter Tryd.func12, Tryd.ntmps12
  go_wp2
  refine wp_loop_rounds 1 ?_
  rw [rounds_succ]
  go_wp2
  go_ret
  exact ⟨rfl, Below.refl _ _⟩
theorem iFF_any (w : World) (v : Value) (xs : List ByteArray) (h : Rss w v xs) (hn : xs.length ≤ 1048576) (hxs : ∀ j, j < xs.length → (xs.getD j ByteArray.empty).size ≤ 1048576) :
    Calls Tryd.prog 12 #[v] w fun e w' => e = .returned (.string ⟨(flagR xs).toArray⟩) ∧ Below w.heap.size w w' := by
  obtain ⟨A, c, rfl, h1⟩ := h
  rcases Nat.eq_zero_or_pos xs.length with h0 | h0
  · obtain rfl : xs = [] := List.eq_nil_of_length_eq_zero h0
    exact iFF_nil w A c
  · obtain ⟨b, off, rfl, ha⟩ := h1 h0
    exact iFF_at w b off c xs.length xs rfl hn hxs ha
end Go.Proofs.YtogoedjcacnfcaaDoor
