/-
  The walk of the program's UnescapeBytes. Conditions: where the list lies, and the lengths that are typed.
-/
import Derived.Test.YtfnegelnkcpdiaaWescI
namespace Go.Proofs.Ytfnegelnkcpdiaa
open Go.RowKit
set_option linter.unusedVariables false

theorem uneR_long {l : List Int} (h : 33 < l.length) : uneR l = none := by
  unfold uneR
  rw [if_neg]
  simp [bytesB]; omega
theorem uneR_last {l : List Int} (h : l.getLast? ≠ some 192) : uneR l = none := by
  unfold uneR
  rw [if_neg (fun h1 => h h1.2)]
theorem uneR_bad {l : List Int} (h : une false l.dropLast = none) : uneR l = none := by
  unfold uneR
  rw [h]; split <;> rfl
theorem last_split {l : List Int} (h : l.getLast? = some 192) : l = l.dropLast ++ [192] := by
  obtain ⟨ys, rfl⟩ := List.getLast?_eq_some_iff.1 h
  simp
theorem uneR_big {l o : List Int} (hl : l.getLast? = some 192) (h : une false l.dropLast = some o) (hb : bytesB 16 o = false) : uneR l = none := by
  unfold uneR
  rw [h]
  simp only []
  by_cases h1 : bytesB 33 l = true ∧ l.getLast? = some 192
  · rw [if_pos h1, if_neg]
    intro h2
    have h3 := (une_bytes l.dropLast o).1 h
    have h4 : l.all isByte = true := by
      have := h1.1
      simp only [bytesB, Bool.and_eq_true] at this
      exact this.2
    have h5 : l.dropLast.all isByte = true := by
      rw [last_split hl, List.all_append] at h4
      simp only [Bool.and_eq_true] at h4
      exact h4.1
    rw [h5] at h3
    simp only [bytesB, h3, Bool.and_true, decide_eq_false_iff_not] at hb
    exact hb h2
  · rw [if_neg h1]
theorem uneR_ok {l o : List Int} (h33 : l.length ≤ 33) (hl : l.getLast? = some 192) (h : une false l.dropLast = some o) (hb : bytesB 16 o = true) : uneR l = some o := by
  have h3 := (une_bytes l.dropLast o).1 h
  simp only [bytesB, Bool.and_eq_true, decide_eq_true_eq] at hb
  rw [hb.2] at h3
  have h4 : bytesB 33 l = true := by
    simp only [bytesB, Bool.and_eq_true, decide_eq_true_eq]
    refine ⟨h33, ?_⟩
    rw [last_split hl, List.all_append, ← h3]; rfl
  unfold uneR
  rw [if_pos ⟨h4, hl⟩, h]
  simp only []
  rw [if_pos hb.1]

/-- The two results of UnescapeBytes, the first in memory of the call's own. -/
def UnPost (r : Option (List Int)) (w : World) (e : Ending) (w' : World) : Prop :=
  ∃ u, e = .returned (.tuple #[u, .bool r.isSome]) ∧ w'.ownsRow w.heap.size 3 1 u (r.getD []).length (ints (r.getD [])) ∧ Below w.heap.size w w'
theorem unPost_none {w w' : World} {r : Option (List Int)} (h : r = none) (hb : Below w.heap.size w w') : UnPost r w (.returned (.tuple #[.slice none 0 0, .bool false])) w' := by
  subst h
  exact ⟨_, rfl, World.ownsRow_nil _ _ _ _, hb⟩
theorem unPost_some {w w' : World} {r : Option (List Int)} {o : List Int} {v : Value} (h : r = some o) (ho : w'.ownsRow w.heap.size 3 1 v o.length (ints o)) (hb : Below w.heap.size w w') : UnPost r w (.returned (.tuple #[v, .bool true])) w' := by
  subst h
  exact ⟨_, rfl, ho, hb⟩

theorem last_get {l : List Int} (h : 0 < l.length) : l.getLast? = some (l.getD (l.length - 1) 0) := by
  rw [List.getLast?_eq_getElem?, List.getD_eq_getElem?_getD, List.getElem?_eq_getElem (by omega)]
  rfl
theorem hold_new' (w : World) : Hold (w.alloc (.cells #[.slice none 0 0] 34)) w.heap.size (.slice none 0 0) := hold_new w _

set_option maxHeartbeats 3200000 in
theorem iUE_at (w : World) (b off c n : Nat) (xs : List Int) (hn : xs.length = n) (h0 : 1 ≤ n) (h33 : n ≤ 33) (hnc : n ≤ c) (h : At w b off xs) (hlast : xs.getD (n - 1) 0 = 192) :
    Calls Try.prog 14 #[.slice (some ⟨b, off, none⟩) n c] w (UnPost (uneR xs) w) := by
  have hmf : ∀ (fn : Fn) (first cap : Array Value) (w : World), (Instr.makeFunc fn first cap).run Try.prog w = .ok (.func fn first cap) w := fun _ _ _ _ => rfl
  have hgl : xs.getLast? = some 192 := by rw [last_get (by omega), hn, hlast]
  have hdl : xs.dropLast = xs.take (n - 1) := by rw [List.dropLast_eq_take, hn]
  have hcl := h.2 (n - 1) (by omega)
  rw [hlast] at hcl
  have HN := Lib.hid hn
  have HC := Lib.hid h.2
  have HGL := Lib.hid hgl
  have HDL := Lib.hid hdl
  have hb := h.1
  have HH := Lib.hid (hold_new' w)
  clear h hn hgl hdl hlast
  obtain ⟨m, rfl⟩ : ∃ m, n = m + 1 := ⟨n - 1, by omega⟩
  simp only [Nat.add_sub_cancel] at hcl HDL
  go_enter Try.func14, Try.ntmps14
  go_wp2
  go_loopw [7, 31] (fun ev i wr => ∃ (k : Nat) (o : List Int) (e : Bool) (v : Value), k ≤ m ∧ i = .int .i64 k ∧ ev = .bool e ∧ Hold wr w.heap.size v ∧ wr.ownsRow w.heap.size 3 1 v o.length (ints o) ∧ Below w.heap.size w wr ∧ ufo (xs.take k) ([], false) = some (o, e) ∧ o.length ≤ k) (fun _ i _ => m - (intOf i).toNat)
  case atStart => exact ⟨0, [], false, .slice none 0 0, Nat.zero_le _, rfl, rfl, HH.out, World.ownsRow_nil _ _ _ _, (Below.refl _ _).alloc (Nat.le_refl _) _, rfl, by simp⟩
  case round =>
    obtain ⟨k, o, e, v, hk, rfl, rfl, hh, hown, hbel, hu, hol⟩ := hrel
    have HHH := Lib.hid hh
    have HOW := Lib.hid hown
    have HU := Lib.hid hu
    clear hh hown hu
    by_cases hlt : k < m
    · have hkx : k < xs.length := by have := HN.out; omega
      have hc1 := (hbel.cell (p := ⟨b, off + k, none⟩) hb).trans (HC.out k hkx)
      have HS : Hid (ufo (xs.take (k + 1)) ([], false) = ust (o, e) (xs.getD k 0)) := by rw [takeI_snoc xs k hkx]; exact ufo_snoc _ _ _ _ HU.out
      have HD : Hid (xs.take m = xs.take (k + 1) ++ (xs.take m).drop (k + 1)) := by
        have e1 : xs.take (k + 1) = (xs.take m).take (k + 1) := by rw [List.take_take, Nat.min_eq_left (by omega)]
        rw [show Hid (xs.take m = xs.take (k + 1) ++ (xs.take m).drop (k + 1)) = (xs.take m = xs.take (k + 1) ++ (xs.take m).drop (k + 1)) from rfl, e1, List.take_append_drop]
      clear hkx
      generalize xs.getD k 0 = x at *
      cases e
      · cases h192 : (x == 192)
        · have n192 : x ≠ 192 := by simpa using h192
          cases h219 : (x == 219)
          · have n219 : x ≠ 219 := by simpa using h219
            have HX := Lib.hid (show ust (o, false) x = some (o ++ [x], false) by simp [ust, n192, n219])
            clear n192 n219
            have h219' : (x != 219) = true := by simpa using h219
            go_wp2_with fail
            refine (put_any _ w.heap.size w.heap.size v o x (by omega) HHH.out (Nat.le_refl _) HOW.out).mono ?_
            rintro e w1 ⟨rfl, v1, hh1, hown1, hb1⟩
            have hbb := hbel.trans hb1
            clear hbel hb1
            go_wp2
            go_roundw
            case rel => exact ⟨k + 1, o ++ [x], false, v1, by omega, by go_num, rfl, hh1, hown1, hbb, by rw [HS.out, HX.out], by simp; omega⟩
            case measure => simp [intOf]; omega
          · obtain rfl : x = 219 := by simpa using h219
            have HX := Lib.hid (show ust (o, false) 219 = some (o, true) from rfl)
            clear n192
            go_wp2
            go_roundw
            case rel => exact ⟨k + 1, o, true, v, by omega, by go_num, rfl, HHH.out, HOW.out, hbel, by rw [HS.out, HX.out], by omega⟩
            case measure => simp [intOf]; omega
        · obtain rfl : x = 192 := by simpa using h192
          have HX := Lib.hid (show ust (o, false) 192 = none from rfl)
          have e : uneR xs = none := uneR_bad (by rw [HDL.out, HD.out]; exact une_none (by rw [HS.out]; exact HX.out))
          have HE := Lib.hid e
          clear e
          go_wp2
          go_ret2
          exact unPost_none HE.out hbel
      · cases h220 : (x == 220)
        · have n220 : x ≠ 220 := by simpa using h220
          cases h221 : (x == 221)
          · have n221 : x ≠ 221 := by simpa using h221
            have HX := Lib.hid (show ust (o, true) x = none by simp [ust, n220, n221])
            clear n220 n221
            have e : uneR xs = none := uneR_bad (by rw [HDL.out, HD.out]; exact une_none (by rw [HS.out]; exact HX.out))
            have HE := Lib.hid e
            clear e
            go_wp2
            go_ret2
            exact unPost_none HE.out hbel
          · obtain rfl : x = 221 := by simpa using h221
            have HX := Lib.hid (show ust (o, true) 221 = some (o ++ [219], false) from rfl)
            clear n220
            go_wp2_with fail
            refine (put_any _ w.heap.size w.heap.size v o 219 (by omega) HHH.out (Nat.le_refl _) HOW.out).mono ?_
            rintro e w1 ⟨rfl, v1, hh1, hown1, hb1⟩
            have hbb := hbel.trans hb1
            clear hbel hb1
            go_wp2
            go_roundw
            case rel => exact ⟨k + 1, o ++ [219], false, v1, by omega, by go_num, rfl, hh1, hown1, hbb, by rw [HS.out, HX.out], by simp; omega⟩
            case measure => simp [intOf]; omega
        · obtain rfl : x = 220 := by simpa using h220
          have HX := Lib.hid (show ust (o, true) 220 = some (o ++ [192], false) from rfl)
          go_wp2_with fail
          refine (put_any _ w.heap.size w.heap.size v o 192 (by omega) HHH.out (Nat.le_refl _) HOW.out).mono ?_
          rintro e w1 ⟨rfl, v1, hh1, hown1, hb1⟩
          have hbb := hbel.trans hb1
          clear hbel hb1
          go_wp2
          go_roundw
          case rel => exact ⟨k + 1, o ++ [192], false, v1, by omega, by go_num, rfl, hh1, hown1, hbb, by rw [HS.out, HX.out], by simp; omega⟩
          case measure => simp [intOf]; omega
    · obtain rfl : k = m := by omega
      have hu := une_end HU.out
      cases e
      · have hu2 : une false (xs.take k) = some o := by rw [hu]; rfl
        have hv := ivb_any wr v o (Rds.of_own HOW.out) (by omega)
        have k0 := HHH.out.c
        have hlen : xs.length ≤ 33 := by have := HN.out; omega
        cases hbb : bytesB 16 o
        · have HE := Lib.hid (uneR_big HGL.out (by rw [HDL.out]; exact hu2) hbb)
          rw [hbb] at hv
          have HV := Lib.hid hv
          clear hv hu hu2 hbb hlen
          go_wp2_with (go_at_call 19; refine HV.out.mono ?_; rintro e w' ⟨rfl, rfl⟩)
          go_ret2
          exact unPost_none HE.out hbel
        · have HE := Lib.hid (uneR_ok hlen HGL.out (by rw [HDL.out]; exact hu2) hbb)
          rw [hbb] at hv
          have HV := Lib.hid hv
          clear hv hu hu2 hbb hlen
          go_wp2_with (go_at_call 19; refine HV.out.mono ?_; rintro e w' ⟨rfl, rfl⟩)
          go_ret2
          exact unPost_some HE.out HOW.out hbel
      · have e : uneR xs = none := uneR_bad (by rw [HDL.out, hu]; rfl)
        have HE := Lib.hid e
        clear e hu
        go_wp2
        go_ret2
        exact unPost_none HE.out hbel

set_option maxHeartbeats 400000 in
theorem iUE_no (w : World) (b off c n : Nat) (xs : List Int) (hn : xs.length = n) (h0 : 1 ≤ n) (hn2 : n ≤ 1048576) (h : At w b off xs) (hbad : 33 < n ∨ (n ≤ 33 ∧ xs.getD (n - 1) 0 ≠ 192)) :
    Calls Try.prog 14 #[.slice (some ⟨b, off, none⟩) n c] w (UnPost (uneR xs) w) := by
  have hcl := h.2 (n - 1) (by omega)
  obtain ⟨m, rfl⟩ : ∃ m, n = m + 1 := ⟨n - 1, by omega⟩
  simp only [Nat.add_sub_cancel] at hcl hbad
  rcases hbad with hbig | ⟨hs, hne⟩
  · have HE := Lib.hid (uneR_long (l := xs) (by omega))
    have hq : decide ((32 : Int) < (m : Int)) = true := by simp; omega
    clear h hn
    go_enter Try.func14, Try.ntmps14
    go_wp2
    go_ret2
    exact unPost_none HE.out (Below.refl _ _)
  · have HE : Hid (uneR xs = none) := uneR_last (by rw [last_get (by omega), hn]; simpa using hne)
    have hq : (xs.getD m 0 != 192) = true := by simpa using hne
    clear h hn hne
    generalize xs.getD m 0 = y at *
    go_enter Try.func14, Try.ntmps14
    go_wp2
    go_ret2
    exact unPost_none HE.out (Below.refl _ _)
set_option maxHeartbeats 400000 in
theorem iUE_nil (w : World) (A : Option Addr) (c : Nat) :
    Calls Try.prog 14 #[.slice A 0 c] w (UnPost (uneR []) w) := by
  have HE : Hid (uneR [] = none) := uneR_last (by simp)
  go_enter Try.func14, Try.ntmps14
  go_wp2
  go_ret2
  exact unPost_none HE.out (Below.refl _ _)

/-- A list of which the length is no more than its room. -/
def Fits (v : Value) : Prop := ∀ A n c, v = .slice A n c → n ≤ c
theorem iUE_any (w : World) (v : Value) (xs : List Int) (h : Rds w v xs) (hn : xs.length ≤ 1048576) (hf : Fits v) :
    Calls Try.prog 14 #[v] w (UnPost (uneR xs) w) := by
  obtain ⟨A, c, rfl, h1⟩ := h
  rcases Nat.eq_zero_or_pos xs.length with h0 | h0
  · obtain rfl : xs = [] := List.eq_nil_of_length_eq_zero h0
    exact iUE_nil w A c
  · obtain ⟨b, off, rfl, ha⟩ := h1 h0
    by_cases hok : xs.length ≤ 33 ∧ xs.getD (xs.length - 1) 0 = 192
    · exact iUE_at w b off c xs.length xs rfl h0 hok.1 (hf _ _ _ rfl) ha hok.2
    · exact iUE_no w b off c xs.length xs rfl h0 hn ha (by
        by_cases h33 : 33 < xs.length
        · exact .inl h33
        · exact .inr ⟨by omega, fun e => hok ⟨by omega, e⟩⟩)
end Go.Proofs.Ytfnegelnkcpdiaa
