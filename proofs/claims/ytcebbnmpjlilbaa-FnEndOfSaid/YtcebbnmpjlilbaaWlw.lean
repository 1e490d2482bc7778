/-
  The walks of the functions that look for the least number of a way. Conditions: where the lists lie, and the lengths that are typed.
-/
import Derived.Test.YtcebbnmpjlilbaaIrow
namespace Go.Proofs.Ytcebbnmpjlilbaa
open Go.RowKit
set_option linter.unusedVariables false

/-- A number that a part of a way may be. -/
def isHop (x : Int) : Bool := decide (1 ≤ x) && decide (x ≤ 60)
theorem hop_yes {x : Int} (h : isHop x = true) : 1 ≤ x ∧ x ≤ 60 := by simpa [isHop] using h
def lenB (n : Nat) : Bool := decide ((1 : Int) ≤ (n : Int)) && decide ((n : Int) ≤ 8)
def wayB (xs : List Int) : Bool := xs.all isHop && lenB xs.length
theorem take_snoc (xs : List Int) (k : Nat) (h : k < xs.length) : xs.take (k + 1) = xs.take k ++ [xs.getD k 0] := by
  rw [List.take_add_one, List.getElem?_eq_getElem h]
  simp [List.getD_eq_getElem?_getD, List.getElem?_eq_getElem h]
theorem allP_snoc (p : Int → Bool) (xs : List Int) (k : Nat) (h : k < xs.length) (ha : (xs.take k).all p = true) (hb : p (xs.getD k 0) = true) : (xs.take (k + 1)).all p = true := by
  rw [take_snoc xs k h, List.all_append, ha]; simpa using hb
theorem allP_bad (p : Int → Bool) (xs : List Int) (k : Nat) (h : k < xs.length) (hb : p (xs.getD k 0) = false) : xs.all p = false := by
  rw [List.all_eq_false]
  exact ⟨xs.getD k 0, by rw [List.getD_eq_getElem?_getD, List.getElem?_eq_getElem h]; exact List.getElem_mem h, by rw [hb]; simp⟩
theorem allP_end (p : Int → Bool) (xs : List Int) (k : Nat) (h : ¬ k < xs.length) (ha : (xs.take k).all p = true) : xs.all p = true := by
  rwa [List.take_of_length_le (by omega)] at ha
theorem allP_get {p : Int → Bool} {xs : List Int} (h : xs.all p = true) (k : Nat) (hk : k < xs.length) : p (xs.getD k 0) = true := by
  rw [List.getD_eq_getElem?_getD, List.getElem?_eq_getElem hk]
  exact List.all_eq_true.1 h _ (List.getElem_mem hk)

/-- The least of the first numbers, and after how many tries. -/
def lw (xs : List Int) : Nat → Int × Nat
  | 0 => (xs.getD 0 0, 1)
  | k + 1 => if xs.getD k 0 < (lw xs k).1 then (xs.getD k 0, (lw xs k).2 + 1) else lw xs k
theorem lw_tries (xs : List Int) : ∀ k, (lw xs k).2 ≤ k + 1
  | 0 => Nat.le_refl _
  | k + 1 => by
    have := lw_tries xs k
    unfold lw; split
    · show (lw xs k).2 + 1 ≤ k + 1 + 1; omega
    · omega
def leastR (xs : List Int) : Int := if wayB xs = true then (lw xs xs.length).1 else 0
def triesR (xs : List Int) : Int := if wayB xs = true then ((lw xs xs.length).2 : Int) else 0

set_option maxHeartbeats 400000 in
theorem inr_any (w : World) (x lo hi : Int) :
    Calls Try.prog 33 #[.int .i64 x, .int .i64 lo, .int .i64 hi] w fun e w' => e = .returned (.bool (decide (lo ≤ x) && decide (x ≤ hi))) ∧ w = w' := by
  by_cases h1 : lo ≤ x
  · have h2 : decide (lo ≤ x) = true := by simpa using h1
    go_enter Try.func33, Try.ntmps33
    go_wp2
    go_ret
    exact ⟨ret_bool (by simp [h1]), rfl⟩
  · have h2 : decide (lo ≤ x) = false := by simpa using h1
    go_enter Try.func33, Try.ntmps33
    go_wp2
    go_ret
    exact ⟨ret_bool (by simp), rfl⟩
set_option maxHeartbeats 400000 in
theorem wit_any (w : World) (x lo hi : Int) :
    Calls Try.prog 34 #[.int .i64 x, .int .i64 lo, .int .i64 hi] w fun e w' => e = .returned (.bool (decide (lo ≤ x) && decide (x ≤ hi))) ∧ w = w' := by
  by_cases h1 : lo ≤ x
  · have h2 : decide (lo ≤ x) = true := by simpa using h1
    go_enter Try.func34, Try.ntmps34
    go_wp2
    go_ret
    exact ⟨ret_bool (by simp [h1]), rfl⟩
  · have h2 : decide (lo ≤ x) = false := by simpa using h1
    go_enter Try.func34, Try.ntmps34
    go_wp2
    go_ret
    exact ⟨ret_bool (by simp), rfl⟩

set_option maxHeartbeats 800000 in
theorem iVW_at (w : World) (b off c n : Nat) (xs : List Int) (hn : xs.length = n) (hn2 : n ≤ 1048576) (h : At w b off xs) :
    Calls Try.prog 38 #[.slice (some ⟨b, off, none⟩) n c] w fun e w' => e = .returned (.bool (wayB xs)) ∧ w = w' := by
  have hres : xs.all isHop = true → wayB xs = lenB n := by
    intro ha; simp only [wayB, ha, Bool.true_and, hn]
  have HR := fun h => Lib.hid (hres h)
  have HN := Lib.hid hn
  have HC := Lib.hid h.2
  have HI := Lib.hid (fun x => wit_any w x 1 60)
  have HL : Hid (Calls Try.prog 34 #[.int .i64 (n : Int), .int .i64 1, .int .i64 8] w fun e w' => e = .returned (.bool (lenB n)) ∧ w = w') := wit_any w n 1 8
  clear h hn hres
  go_enter Try.func38, Try.ntmps38
  go_wp2
  go_loop [7] (fun i => ∃ k : Nat, k ≤ n ∧ i = .int .i64 k ∧ (xs.take k).all isHop = true) (fun i => n - (intOf i).toNat)
  case atStart => exact ⟨0, Nat.zero_le _, rfl, by simp⟩
  case round =>
    obtain ⟨k, hk, rfl, hall⟩ := hrel
    have HA := Lib.hid hall
    clear hall
    by_cases hlt : k < n
    · have hkx : k < xs.length := by have := HN.out; omega
      have hc1 := HC.out k hkx
      have HS := fun h => Lib.hid (allP_snoc isHop xs k hkx HA.out h)
      have HB := fun h => Lib.hid (allP_bad isHop xs k hkx h)
      clear hkx
      generalize xs.getD k 0 = x at *
      have hi : Calls Try.prog 34 #[.int .i64 x, .int .i64 1, .int .i64 60] w fun e w' => e = .returned (.bool (isHop x)) ∧ w = w' := HI.out x
      cases hb : isHop x
      · have HX := Lib.hid (HB hb).out
        rw [hb] at hi
        have H := Lib.hid hi
        clear hi hb
        go_wp2_with (go_at_call 34; refine H.out.mono ?_; rintro e w' ⟨rfl, rfl⟩)
        go_ret
        exact ⟨ret_bool (by symm; simp [wayB, HX.out]), rfl⟩
      · have HX := HS hb
        rw [hb] at hi
        have H := Lib.hid hi
        clear hi hb
        go_wp2_with (go_at_call 34; refine H.out.mono ?_; rintro e w' ⟨rfl, rfl⟩)
        go_round
        case rel => exact ⟨k + 1, by omega, by go_num, HX.out⟩
        case measure => simp [intOf]; omega
    · have ha := allP_end isHop xs k (by have := HN.out; omega) HA.out
      have HX := HR ha
      clear ha
      go_wp2_with (go_at_call 34; refine HL.out.mono ?_; rintro e w' ⟨rfl, rfl⟩)
      go_ret
      exact ⟨ret_bool HX.out.symm, rfl⟩
set_option maxHeartbeats 400000 in
theorem iVW_nil (w : World) (A : Option Addr) (c : Nat) :
    Calls Try.prog 38 #[.slice A 0 c] w fun e w' => e = .returned (.bool false) ∧ w = w' := by
  have HL : Hid (Calls Try.prog 34 #[.int .i64 0, .int .i64 1, .int .i64 8] w fun e w' => e = .returned (.bool false) ∧ w = w') := wit_any w 0 1 8
  go_enter Try.func38, Try.ntmps38
  go_wp2
  refine wp_loop_rounds 1 ?_
  rw [rounds_succ]
  go_wp2_with (go_at_call 34; refine HL.out.mono ?_; rintro e w' ⟨rfl, rfl⟩)
  go_ret
  exact ⟨rfl, rfl⟩
theorem iVW_any (w : World) (v : Value) (xs : List Int) (h : Rds w v xs) (hn : xs.length ≤ 1048576) :
    Calls Try.prog 38 #[v] w fun e w' => e = .returned (.bool (wayB xs)) ∧ w = w' := by
  obtain ⟨A, c, rfl, h1⟩ := h
  rcases Nat.eq_zero_or_pos xs.length with h0 | h0
  · obtain rfl : xs = [] := List.eq_nil_of_length_eq_zero h0
    exact iVW_nil w A c
  · obtain ⟨b, off, rfl, ha⟩ := h1 h0
    exact iVW_at w b off c xs.length xs rfl hn ha

theorem wayB_len {xs : List Int} (h : wayB xs = true) : 1 ≤ xs.length ∧ xs.length ≤ 8 := by
  simp only [wayB, lenB, Bool.and_eq_true, decide_eq_true_eq] at h; omega

set_option maxHeartbeats 800000 in
theorem iLW_no (w : World) (v : Value) (xs : List Int) (h : Rds w v xs) (hn : xs.length ≤ 1048576) (hb : wayB xs = false) :
    Calls Try.prog 23 #[v] w fun e w' => e = .returned (.tuple #[.int .i64 0, .int .i64 0]) ∧ w = w' := by
  have hv := iVW_any w v xs h hn
  rw [hb] at hv
  have HV := Lib.hid hv
  clear hv hb
  obtain ⟨A, c, rfl, _⟩ := h
  go_enter Try.func23, Try.ntmps23
  go_wp2_with (go_at_call 38; refine HV.out.mono ?_; rintro e w' ⟨rfl, rfl⟩)
  go_ret2
  exact ⟨rfl, rfl⟩

set_option maxHeartbeats 800000 in
theorem iLW_at (w : World) (b off c n : Nat) (xs : List Int) (hn : xs.length = n) (h : At w b off xs) (hb : wayB xs = true) :
    Calls Try.prog 23 #[.slice (some ⟨b, off, none⟩) n c] w fun e w' => e = .returned (.tuple #[.int .i64 (lw xs n).1, .int .i64 ((lw xs n).2 : Int)]) ∧ w = w' := by
  obtain ⟨l1, l8⟩ := wayB_len hb
  have hv := iVW_at w b off c n xs hn (by omega) h
  rw [hb] at hv
  rw [hn] at l1 l8
  have HV := Lib.hid hv
  have HC := Lib.hid (hn ▸ h.2)
  have hc0 := h.2 0 (by omega)
  rw [Nat.add_zero] at hc0
  have HE : Hid (xs.getD 0 0 = (lw xs 0).1) := rfl
  have HT := Lib.hid (lw_tries xs)
  clear hv h hn hb
  generalize xs.getD 0 0 = x0 at hc0 HE
  go_enter Try.func23, Try.ntmps23
  go_wp2_with (go_at_call 38; refine HV.out.mono ?_; rintro e w' ⟨rfl, rfl⟩)
  go_loop [4, 5, 16] (fun m t i => ∃ k : Nat, k ≤ n ∧ i = .int .i64 k ∧ m = .int .i64 (lw xs k).1 ∧ t = .int .i64 ((lw xs k).2 : Int)) (fun _ _ i => n - (intOf i).toNat)
  case atStart => exact ⟨0, Nat.zero_le _, rfl, by rw [HE.out], rfl⟩
  case round =>
    obtain ⟨k, hk, rfl, rfl, rfl⟩ := hrel
    have ht := HT.out k
    by_cases hlt : k < n
    · have hc1 := HC.out k hlt
      have hS : lw xs (k + 1) = if xs.getD k 0 < (lw xs k).1 then (xs.getD k 0, (lw xs k).2 + 1) else lw xs k := rfl
      generalize lw xs k = mt at *
      obtain ⟨m, t⟩ := mt
      generalize xs.getD k 0 = x at *
      simp only at ht hS ⊢
      have HS := Lib.hid hS
      clear hS
      by_cases hx : x < m
      · have hd : decide (x < m) = true := by simpa using hx
        go_wp2
        go_round
        case rel => exact ⟨k + 1, by omega, by go_num, by rw [HS.out, if_pos hx], by rw [HS.out, if_pos hx]; go_num⟩
        case measure => simp [intOf]; omega
      · have hd : decide (x < m) = false := by simpa using hx
        go_wp2
        go_round
        case rel => exact ⟨k + 1, by omega, by go_num, by rw [HS.out, if_neg hx], by rw [HS.out, if_neg hx]⟩
        case measure => simp [intOf]; omega
    · obtain rfl : k = n := by omega
      go_wp2
      go_ret2
      exact ⟨rfl, rfl⟩
theorem iLW_any (w : World) (v : Value) (xs : List Int) (h : Rds w v xs) (hn : xs.length ≤ 1048576) :
    Calls Try.prog 23 #[v] w fun e w' => e = .returned (.tuple #[.int .i64 (leastR xs), .int .i64 (triesR xs)]) ∧ w = w' := by
  cases hb : wayB xs
  · have e1 : leastR xs = 0 := by simp [leastR, hb]
    have e2 : triesR xs = 0 := by simp [triesR, hb]
    rw [e1, e2]
    exact iLW_no w v xs h hn hb
  · have e1 : leastR xs = (lw xs xs.length).1 := by simp [leastR, hb]
    have e2 : triesR xs = ((lw xs xs.length).2 : Int) := by simp [triesR, hb]
    rw [e1, e2]
    obtain ⟨l1, l8⟩ := wayB_len hb
    obtain ⟨A, c, rfl, h1⟩ := h
    obtain ⟨b, off, rfl, ha⟩ := h1 (by omega)
    exact iLW_at w b off c xs.length xs rfl ha hb
end Go.Proofs.Ytcebbnmpjlilbaa
