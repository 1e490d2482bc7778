/-
  The walks of the functions that say whether pieces are valid. Conditions: where the lists lie, and the lengths that are typed.
-/
import Derived.Test.YteililppbnbfhaaPrw
import Derived.Test.YteililppbnbfhaaWlw
namespace Go.Proofs.Yteililppbnbfhaa
open Go.RowKit
set_option linter.unusedVariables false

def c1B (a : Int) : Bool := decide (0 ≤ a) && decide (a ≤ 59)
def c2B (a s : Int) : Bool := decide (1 ≤ s) && decide (s ≤ 60 - a)
def pcB (p : Pc) : Bool := c1B p.a && c2B p.a p.s
def lpB (n : Nat) : Bool := decide ((n : Int) ≤ 20)
def vpB (ps : List Pc) : Bool := ps.all pcB && lpB ps.length
theorem c1_yes {a : Int} (h : c1B a = true) : 0 ≤ a ∧ a ≤ 59 := by simpa [c1B] using h
theorem c2_yes {a s : Int} (h : c2B a s = true) : 1 ≤ s ∧ s ≤ 60 - a := by simpa [c2B] using h
theorem pc_yes {p : Pc} (h : pcB p = true) : 0 ≤ p.a ∧ p.a ≤ 59 ∧ 1 ≤ p.s ∧ p.s ≤ 60 - p.a := by
  unfold pcB at h
  rw [Bool.and_eq_true] at h
  have := c1_yes h.1
  have := c2_yes h.2
  omega
theorem ptake_snoc (ps : List Pc) (k : Nat) (h : k < ps.length) : ps.take (k + 1) = ps.take k ++ [ps.getD k d0] := by
  rw [List.take_add_one, List.getElem?_eq_getElem h]
  simp [List.getD_eq_getElem?_getD, List.getElem?_eq_getElem h]
theorem pall_snoc (p : Pc → Bool) (ps : List Pc) (k : Nat) (h : k < ps.length) (ha : (ps.take k).all p = true) (hb : p (ps.getD k d0) = true) : (ps.take (k + 1)).all p = true := by
  rw [ptake_snoc ps k h, List.all_append, ha]; simpa using hb
theorem pall_bad (p : Pc → Bool) (ps : List Pc) (k : Nat) (h : k < ps.length) (hb : p (ps.getD k d0) = false) : ps.all p = false := by
  rw [List.all_eq_false]
  exact ⟨ps.getD k d0, by rw [List.getD_eq_getElem?_getD, List.getElem?_eq_getElem h]; exact List.getElem_mem h, by rw [hb]; simp⟩
theorem pall_end (p : Pc → Bool) (ps : List Pc) (k : Nat) (h : ¬ k < ps.length) (ha : (ps.take k).all p = true) : ps.all p = true := by
  rwa [List.take_of_length_le (by omega)] at ha
theorem pall_get {p : Pc → Bool} {ps : List Pc} (h : ps.all p = true) (k : Nat) (hk : k < ps.length) : p (ps.getD k d0) = true := by
  rw [List.getD_eq_getElem?_getD, List.getElem?_eq_getElem hk]
  exact List.all_eq_true.1 h _ (List.getElem_mem hk)
theorem same_l {P : Program} {f : FuncId} {args : Array Value} {w : World} {v : Value} (h : Calls P f args w fun e w' => e = .returned v ∧ w = w') : Calls P f args w fun e w' => e = .returned v ∧ w' = w :=
  h.mono fun _ _ ⟨he, hw⟩ => ⟨he, hw.symm⟩

set_option maxHeartbeats 800000 in
theorem ivpc_any (w : World) (x y : Int) (z : Bool) :
    Calls Try.prog 40 #[.agg #[.int .i64 x, .int .i64 y, .bool z]] w fun e w' => e = .returned (.bool (pcB ⟨x, y, z⟩)) ∧ Below w.heap.size w w' := by
  have HA : Hid (∀ W, Calls Try.prog 29 #[.int .i64 x, .int .i64 0, .int .i64 59] W fun e w' => e = .returned (.bool (c1B x)) ∧ W = w') := fun W => wit_any W x 0 59
  have HB : Hid (∀ W, Calls Try.prog 29 #[.int .i64 y, .int .i64 1, .int .i64 (60 - x)] W fun e w' => e = .returned (.bool (c2B x y)) ∧ W = w') := fun W => wit_any W y 1 (60 - x)
  cases h1 : c1B x
  · rw [h1] at HA
    rw [show pcB ⟨x, y, z⟩ = false from by simp [pcB, h1]]
    clear h1
    go_enter Try.func40, Try.ntmps40
    go_wp2_with (go_at_call 29; refine (HA.out _).mono ?_; rintro e w' ⟨rfl, rfl⟩)
    go_ret
    exact ⟨rfl, (Below.refl _ _).alloc (Nat.le_refl _) _⟩
  · obtain ⟨x0, x1⟩ := c1_yes h1
    rw [h1] at HA
    rw [show pcB ⟨x, y, z⟩ = c2B x y from by simp [pcB, h1]]
    clear h1
    cases h2 : c2B x y
    all_goals
      rw [h2] at HB
      clear h2
      go_enter Try.func40, Try.ntmps40
      go_wp2_with (first | (go_at_call 29; with_reducible refine (HA.out _).mono ?_; rintro e w' ⟨rfl, rfl⟩) | (go_at_call 29; with_reducible refine (HB.out _).mono ?_; rintro e w' ⟨rfl, rfl⟩))
      go_ret
      exact ⟨rfl, (Below.refl _ _).alloc (Nat.le_refl _) _⟩

set_option maxHeartbeats 1600000 in
theorem iVP_at (w : World) (b off c n : Nat) (ps : List Pc) (hn : ps.length = n) (hn2 : n ≤ 1048576) (h : PAt w b off ps) :
    Calls Try.prog 22 #[.slice (some ⟨b, off, none⟩) n c] w fun e w' => e = .returned (.bool (vpB ps)) ∧ Below w.heap.size w w' := by
  have hres : ps.all pcB = true → vpB ps = lpB n := by
    intro ha; simp only [vpB, ha, Bool.true_and, hn]
  have hno : ps.all pcB = false → vpB ps = false := by
    intro ha; simp only [vpB, ha, Bool.false_and]
  have HR := fun h => Lib.hid (hres h)
  have HNO := fun h => Lib.hid (hno h)
  have HN := Lib.hid hn
  have HC := Lib.hid h
  have HV := Lib.hid ivpc_any
  clear h hn hres hno
  go_enter Try.func22, Try.ntmps22
  go_wp2
  go_loopw [7] (fun i wr => ∃ k : Nat, k ≤ n ∧ i = .int .i64 k ∧ (ps.take k).all pcB = true ∧ Below w.heap.size w wr) (fun i _ => n - (intOf i).toNat)
  case atStart => exact ⟨0, Nat.zero_le _, rfl, by simp, Below.refl _ _⟩
  case round =>
    obtain ⟨k, hk, rfl, hall, hbel⟩ := hrel
    have HA := Lib.hid hall
    have HBEL := Lib.hid hbel
    clear hall
    by_cases hlt : k < n
    · have hkx : k < ps.length := by have := HN.out; omega
      obtain ⟨c0, c1, c2⟩ := (HC.out.below hbel HC.out.1).2 k hkx
      have HS := fun h => Lib.hid (pall_snoc pcB ps k hkx HA.out h)
      have HB := fun h => Lib.hid (HNO (pall_bad pcB ps k hkx h)).out
      clear hkx hbel
      generalize ps.getD k d0 = q at *
      obtain ⟨x, y, z⟩ := q
      simp only at c0 c1 c2
      cases hb : pcB ⟨x, y, z⟩
      · have HX := HB hb
        have hi : ∀ W, Calls Try.prog 40 #[.agg #[.int .i64 x, .int .i64 y, .bool z]] W fun e w' => e = .returned (.bool false) ∧ Below W.heap.size W w' := fun W => hb ▸ HV.out W x y z
        have H := Lib.hid hi
        clear hi hb
        go_wp2_with (go_at_call 40; refine (H.out _).mono ?_; rintro e w' ⟨rfl, hb2⟩)
        go_ret
        exact ⟨ret_bool HX.out.symm, (HBEL.out.alloc HBEL.out.size _).trans (hb2.mono (by simp; have := HBEL.out.size; omega))⟩
      · have HX := HS hb
        have hi : ∀ W, Calls Try.prog 40 #[.agg #[.int .i64 x, .int .i64 y, .bool z]] W fun e w' => e = .returned (.bool true) ∧ Below W.heap.size W w' := fun W => hb ▸ HV.out W x y z
        have H := Lib.hid hi
        clear hi hb
        go_wp2_with (go_at_call 40; refine (H.out _).mono ?_; rintro e w' ⟨rfl, hb2⟩; have HB2 := Lib.hid hb2; clear hb2)
        go_roundw
        case rel => exact ⟨k + 1, by omega, by go_num, HX.out, (HBEL.out.alloc HBEL.out.size _).trans (HB2.out.mono (by simp; have := HBEL.out.size; omega))⟩
        case measure => simp [intOf]; omega
    · have ha := pall_end pcB ps k (by have := HN.out; omega) HA.out
      have HX := HR ha
      clear ha
      go_wp2
      go_ret
      exact ⟨ret_bool HX.out.symm, HBEL.out⟩
set_option maxHeartbeats 400000 in
theorem iVP_nil (w : World) (A : Option Addr) (c : Nat) :
    Calls Try.prog 22 #[.slice A 0 c] w fun e w' => e = .returned (.bool true) ∧ Below w.heap.size w w' := by
  go_enter Try.func22, Try.ntmps22
  go_wp2
  refine wp_loop_rounds 1 ?_
  rw [rounds_succ]
  go_wp2
  go_ret
  exact ⟨rfl, Below.refl _ _⟩
theorem iVP_any (w : World) (v : Value) (ps : List Pc) (h : PRds w v ps) (hn : ps.length ≤ 1048576) :
    Calls Try.prog 22 #[v] w fun e w' => e = .returned (.bool (vpB ps)) ∧ Below w.heap.size w w' := by
  obtain ⟨A, c, rfl, h1⟩ := h
  rcases Nat.eq_zero_or_pos ps.length with h0 | h0
  · obtain rfl : ps = [] := List.eq_nil_of_length_eq_zero h0
    exact iVP_nil w A c
  · obtain ⟨b, off, rfl, ha⟩ := h1 h0
    exact iVP_at w b off c ps.length ps rfl hn ha

set_option maxHeartbeats 1600000 in
theorem svp_at (w : World) (b off c n : Nat) (ps : List Pc) (hn : ps.length = n) (hn2 : n ≤ 1048576) (h : PAt w b off ps) :
    Calls Try.prog 25 #[.slice (some ⟨b, off, none⟩) n c] w fun e w' => e = .returned (.bool (vpB ps)) ∧ ∃ m, w' = w.drewN m := by
  have hres : ps.all pcB = true → vpB ps = lpB n := by
    intro ha; simp only [vpB, ha, Bool.true_and, hn]
  have hno : ps.all pcB = false → vpB ps = false := by
    intro ha; simp only [vpB, ha, Bool.false_and]
  have HR := fun h => Lib.hid (hres h)
  have HNO := fun h => Lib.hid (hno h)
  have HN := Lib.hid hn
  have HC := Lib.hid h
  have HI := Lib.hid inr_any
  clear h hn hres hno
  go_enter Try.func25, Try.ntmps25
  go_wp2
  go_loopw [3] (fun i wr => ∃ k m : Nat, k ≤ n ∧ i = .int .i64 k ∧ (ps.take k).all pcB = true ∧ wr = w.drewN m) (fun i _ => n - (intOf i).toNat)
  case atStart => exact ⟨0, 0, Nat.zero_le _, rfl, by simp, rfl⟩
  case round =>
    obtain ⟨k, m, hk, rfl, hall, rfl⟩ := hrel
    have HA := Lib.hid hall
    clear hall
    have hk0 : (0 : Int) ≤ (k : Int) := by omega
    by_cases hlt : k < n
    · have hkn : (k : Int) < (n : Int) := by omega
      have hkx : k < ps.length := by have := HN.out; omega
      obtain ⟨c0, c1, c2⟩ := (show PAt (w.drewN m) b off ps from HC.out).2 k hkx
      have HS := fun h => Lib.hid (pall_snoc pcB ps k hkx HA.out h)
      have HB := fun h => Lib.hid (HNO (pall_bad pcB ps k hkx h)).out
      clear hkx
      generalize hwj : w.drewN m = wj at c0 c1 c2 ⊢
      have HWJ := Lib.hid hwj
      clear hwj
      generalize ps.getD k d0 = q at *
      obtain ⟨x, y, z⟩ := q
      simp only at c0 c1 c2
      have H1 : Hid (∀ W, Calls Try.prog 26 #[.int .i64 x, .int .i64 0, .int .i64 59] W fun e w' => e = .returned (.bool (c1B x)) ∧ W = w') := fun W => HI.out W x 0 59
      have H2 : Hid (∀ W, Calls Try.prog 26 #[.int .i64 y, .int .i64 1, .int .i64 (60 - x)] W fun e w' => e = .returned (.bool (c2B x y)) ∧ W = w') := fun W => HI.out W y 1 (60 - x)
      cases h1 : c1B x
      · rw [h1] at H1
        have HX := HB (by simp [pcB, h1])
        clear h1 H2
        go_wp2
        go_quiet ((go_at_call 26; exact Calls.quiet_of_same (same_l (H1.out _))))
        go_wp2
        go_ret
        exact ⟨ret_bool HX.out.symm, m + nq, by rw [← HWJ.out, World.drewN_drewN]⟩
      · obtain ⟨x0, x1⟩ := c1_yes h1
        cases h2 : c2B x y
        · rw [h1] at H1
          rw [h2] at H2
          have HX := HB (by simp [pcB, h2])
          clear h1 h2
          go_wp2
          go_quiet ((first | (go_at_call 26; with_reducible exact Calls.quiet_of_same (same_l (H1.out _))) | (go_at_call 26; with_reducible exact Calls.quiet_of_same (same_l (H2.out _)))))
          go_wp2
          go_ret
          exact ⟨ret_bool HX.out.symm, m + nq, by rw [← HWJ.out, World.drewN_drewN]⟩
        · rw [h1] at H1
          rw [h2] at H2
          have HX := HS (by simp [pcB, h1, h2])
          clear h1 h2
          go_wp2
          go_quiet ((first | (go_at_call 26; with_reducible exact Calls.quiet_of_same (same_l (H1.out _))) | (go_at_call 26; with_reducible exact Calls.quiet_of_same (same_l (H2.out _)))))
          go_wp2
          go_roundw
          case rel => exact ⟨k + 1, m + nq, by omega, by go_num, HX.out, by rw [← HWJ.out, World.drewN_drewN]⟩
          case measure => simp [intOf]; omega
    · have ha := pall_end pcB ps k (by have := HN.out; omega) HA.out
      have HX := HR ha
      clear ha
      go_wp2
      go_ret
      exact ⟨ret_bool HX.out.symm, m, rfl⟩
set_option maxHeartbeats 400000 in
theorem svp_nil (w : World) (A : Option Addr) (c : Nat) :
    Calls Try.prog 25 #[.slice A 0 c] w fun e w' => e = .returned (.bool true) ∧ ∃ m, w' = w.drewN m := by
  go_enter Try.func25, Try.ntmps25
  go_wp2
  refine wp_loop_rounds 1 ?_
  rw [rounds_succ]
  go_wp2
  go_ret
  exact ⟨rfl, 0, rfl⟩
theorem svp_any (w : World) (v : Value) (ps : List Pc) (h : PRds w v ps) (hn : ps.length ≤ 1048576) :
    Calls Try.prog 25 #[v] w fun e w' => e = .returned (.bool (vpB ps)) ∧ ∃ m, w' = w.drewN m := by
  obtain ⟨A, c, rfl, h1⟩ := h
  rcases Nat.eq_zero_or_pos ps.length with h0 | h0
  · obtain rfl : ps = [] := List.eq_nil_of_length_eq_zero h0
    exact svp_nil w A c
  · obtain ⟨b, off, rfl, ha⟩ := h1 h0
    exact svp_at w b off c ps.length ps rfl hn ha
end Go.Proofs.Yteililppbnbfhaa
