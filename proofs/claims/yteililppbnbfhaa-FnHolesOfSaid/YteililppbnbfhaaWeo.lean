/-
  The walks of the program's functions that say where pieces end. Conditions: where the lists lie, and the lengths that are typed.
-/
import Derived.Test.YteililppbnbfhaaWvpc
namespace Go.Proofs.Yteililppbnbfhaa
open Go.RowKit
set_option linter.unusedVariables false

/-- Where a piece ends. -/
def Pc.e (p : Pc) : Int := p.a + p.s
/-- Where the first piece without More ends, -1 if there is none. -/
def fE : List Pc → Int
  | [] => -1
  | p :: ps => if p.m = false then p.e else fE ps
/-- Whether a piece goes with an end. -/
def gw (E : Int) (p : Pc) : Bool := if p.m = true then (decide (E = -1) || decide (p.e < E)) else decide (p.e = E)
def okE (ps : List Pc) : Bool := vpB ps && ps.all (gw (fE ps))
def endR (ps : List Pc) : Int := if okE ps = true then fE ps else -1

theorem fE_app (ps qs : List Pc) (h : ∀ p ∈ ps, p.m = true) : fE (ps ++ qs) = fE qs := by
  induction ps with
  | nil => rfl
  | cons p ps ih =>
    have := h p (by simp)
    simp only [List.cons_append, fE, this]
    exact ih (fun q hq => h q (by simp [hq]))
theorem fE_none (ps : List Pc) (h : ∀ p ∈ ps, p.m = true) : fE ps = -1 := by
  have := fE_app ps [] h
  simpa [fE] using this
theorem fE_at (ps : List Pc) (k : Nat) (hk : k < ps.length) (h : ∀ p ∈ ps.take k, p.m = true) (hm : (ps.getD k d0).m = false) : fE ps = (ps.getD k d0).e := by
  have e : ps = ps.take k ++ (ps.getD k d0 :: ps.drop (k + 1)) := by
    have : ps.getD k d0 = ps[k] := by simp [List.getD_eq_getElem?_getD, List.getElem?_eq_getElem hk]
    rw [this, ← List.drop_eq_getElem_cons hk, List.take_append_drop]
  have h2 := fE_app (ps.take k) (ps.getD k d0 :: ps.drop (k + 1)) h
  rw [← e] at h2
  rw [h2]; show (if (ps.getD k d0).m = false then _ else _) = _; rw [if_pos hm]
theorem all_m_snoc (ps : List Pc) (k : Nat) (h : k < ps.length) (ha : ∀ p ∈ ps.take k, p.m = true) (hb : (ps.getD k d0).m = true) : ∀ p ∈ ps.take (k + 1), p.m = true := by
  rw [ptake_snoc ps k h]
  intro p hp
  rcases List.mem_append.1 hp with hp | hp
  · exact ha p hp
  · simp at hp; rw [hp]; exact hb

set_option maxHeartbeats 800000 in
theorem iea_any (w : World) (x y : Int) (z : Bool) (hx : 0 ≤ x ∧ x ≤ 1000) (hy : 0 ≤ y ∧ y ≤ 1000) :
    Calls Try.prog 42 #[.agg #[.int .i64 x, .int .i64 y, .bool z]] w fun e w' => e = .returned (.int .i64 (x + y)) ∧ Below w.heap.size w w' := by
  go_enter Try.func42, Try.ntmps42
  go_wp2
  go_ret
  exact ⟨rfl, (Below.refl _ _).alloc (Nat.le_refl _) _⟩

set_option maxHeartbeats 800000 in
theorem igw_any (w : World) (x y : Int) (z : Bool) (E : Int) (hx : 0 ≤ x ∧ x ≤ 1000) (hy : 0 ≤ y ∧ y ≤ 1000) :
    Calls Try.prog 48 #[.agg #[.int .i64 x, .int .i64 y, .bool z], .int .i64 E] w fun e w' => e = .returned (.bool (gw E ⟨x, y, z⟩)) ∧ Below w.heap.size w w' := by
  have HE := Lib.hid (fun W => iea_any W x y z hx hy)
  cases z
  · rw [show gw E ⟨x, y, false⟩ = decide (x + y = E) from rfl]
    go_enter Try.func48, Try.ntmps48
    go_wp2_with (go_at_call 42; refine (HE.out _).mono ?_; rintro e w' ⟨rfl, hb2⟩)
    go_ret
    exact ⟨ret_bool (by rw [Bool.eq_iff_iff]; simp), ((Below.refl _ _).alloc (Nat.le_refl _) _).trans (hb2.mono (by simp))⟩
  · rw [show gw E ⟨x, y, true⟩ = (decide (E = -1) || decide (x + y < E)) from rfl]
    by_cases h1 : E = -1
    · have e1 : (E == -1) = true := by simpa using h1
      go_enter Try.func48, Try.ntmps48
      go_wp2
      go_ret
      exact ⟨ret_bool (by simp [h1]), (Below.refl _ _).alloc (Nat.le_refl _) _⟩
    · have e1 : (E == -1) = false := by simpa using h1
      rw [show decide (E = -1) = false from by simpa using h1, Bool.false_or]
      clear h1
      go_enter Try.func48, Try.ntmps48
      go_wp2_with (go_at_call 42; refine (HE.out _).mono ?_; rintro e w' ⟨rfl, hb2⟩)
      go_ret
      exact ⟨rfl, ((Below.refl _ _).alloc (Nat.le_refl _) _).trans (hb2.mono (by simp))⟩

set_option maxHeartbeats 1600000 in
theorem ife_at (w : World) (b off c n : Nat) (ps : List Pc) (hn : ps.length = n) (hn2 : n ≤ 1048576) (hv : ps.all pcB = true) (h : PAt w b off ps) :
    Calls Try.prog 47 #[.slice (some ⟨b, off, none⟩) n c] w fun e w' => e = .returned (.int .i64 (fE ps)) ∧ Below w.heap.size w w' := by
  have HN := Lib.hid hn
  have HC := Lib.hid h
  have HV := Lib.hid hv
  have HE := Lib.hid iea_any
  clear h hn hv
  go_enter Try.func47, Try.ntmps47
  go_wp2
  go_loopw [7] (fun i wr => ∃ k : Nat, k ≤ n ∧ i = .int .i64 k ∧ (∀ p ∈ ps.take k, p.m = true) ∧ Below w.heap.size w wr) (fun i _ => n - (intOf i).toNat)
  case atStart => exact ⟨0, Nat.zero_le _, rfl, by simp, Below.refl _ _⟩
  case round =>
    obtain ⟨k, hk, rfl, hall, hbel⟩ := hrel
    have HA := Lib.hid hall
    have HBEL := Lib.hid hbel
    clear hall
    by_cases hlt : k < n
    · have hkx : k < ps.length := by have := HN.out; omega
      obtain ⟨c0, c1, c2⟩ := (HC.out.below hbel HC.out.1).2 k hkx
      have hp := pc_yes (pall_get HV.out k hkx)
      have HS := fun h => Lib.hid (all_m_snoc ps k hkx HA.out h)
      have HB := fun h => Lib.hid (fE_at ps k hkx HA.out h)
      clear hkx hbel
      generalize ps.getD k d0 = q at *
      obtain ⟨x, y, z⟩ := q
      simp only at c0 c1 c2 hp
      cases z
      · have HX := HB rfl
        have HEE := Lib.hid (fun W => HE.out W x y false (by omega) (by omega))
        clear hp
        go_wp2_with (go_at_call 42; refine (HEE.out _).mono ?_; rintro e w' ⟨rfl, hb2⟩)
        go_ret
        exact ⟨ret_int HX.out.symm, (HBEL.out.alloc HBEL.out.size _).trans (hb2.mono (by simp; have := HBEL.out.size; omega))⟩
      · have HX := HS rfl
        clear hp
        go_wp2
        go_roundw
        case rel => exact ⟨k + 1, by omega, by go_num, HX.out, HBEL.out.alloc HBEL.out.size _⟩
        case measure => simp [intOf]; omega
    · have hx : fE ps = -1 := by
        apply fE_none
        have := HA.out
        rwa [List.take_of_length_le (by have := HN.out; omega)] at this
      have HX := Lib.hid hx
      clear hx
      go_wp2
      go_ret
      exact ⟨ret_int HX.out.symm, HBEL.out⟩
set_option maxHeartbeats 400000 in
theorem ife_nil (w : World) (A : Option Addr) (c : Nat) :
    Calls Try.prog 47 #[.slice A 0 c] w fun e w' => e = .returned (.int .i64 (-1)) ∧ Below w.heap.size w w' := by
  go_enter Try.func47, Try.ntmps47
  go_wp2
  refine wp_loop_rounds 1 ?_
  rw [rounds_succ]
  go_wp2
  go_ret
  exact ⟨rfl, Below.refl _ _⟩

set_option maxHeartbeats 800000 in
theorem iEO_bad (w : World) (v : Value) (ps : List Pc) (h : PRds w v ps) (hn : ps.length ≤ 1048576) (hb : vpB ps = false) :
    Calls Try.prog 36 #[v] w fun e w' => e = .returned (.tuple #[.int .i64 (-1), .bool false]) ∧ Below w.heap.size w w' := by
  have hv := iVP_any w v ps h hn
  rw [hb] at hv
  have HV := Lib.hid hv
  clear hv hb
  obtain ⟨A, c, rfl, _⟩ := h
  go_enter Try.func36, Try.ntmps36
  go_wp2_with (go_at_call 22; refine HV.out.mono ?_; rintro e w' ⟨rfl, hb2⟩)
  go_ret2
  exact ⟨rfl, hb2⟩
set_option maxHeartbeats 800000 in
theorem iEO_nil (w : World) (A : Option Addr) (c : Nat) :
    Calls Try.prog 36 #[.slice A 0 c] w fun e w' => e = .returned (.tuple #[.int .i64 (-1), .bool true]) ∧ Below w.heap.size w w' := by
  have HV := Lib.hid (fun W => iVP_nil W A c)
  have HF := Lib.hid (fun W => ife_nil W A c)
  go_enter Try.func36, Try.ntmps36
  go_wp2_with (first | (go_at_call 22; refine (HV.out _).mono ?_; rintro e w1 ⟨rfl, hb1⟩) | (go_at_call 47; refine (HF.out _).mono ?_; rintro e w2 ⟨rfl, hb2⟩))
  refine wp_loop_rounds 1 ?_
  rw [rounds_succ]
  go_wp2
  go_ret2
  exact ⟨rfl, hb1.trans (hb2.mono hb1.size)⟩

set_option maxHeartbeats 1600000 in
theorem iEO_at (w : World) (b off c n : Nat) (ps : List Pc) (hn : ps.length = n) (hn2 : n ≤ 1048576) (hv : vpB ps = true) (h : PAt w b off ps) :
    Calls Try.prog 36 #[.slice (some ⟨b, off, none⟩) n c] w fun e w' => e = .returned (.tuple #[.int .i64 (endR ps), .bool (okE ps)]) ∧ Below w.heap.size w w' := by
  have hall : ps.all pcB = true := by simp only [vpB, Bool.and_eq_true] at hv; exact hv.1
  have hV := iVP_at w b off c n ps hn hn2 h
  rw [hv] at hV
  have HVV := Lib.hid hV
  have HF := Lib.hid (fun W hh => ife_at W b off c n ps hn hn2 hall hh)
  have hyes : ps.all (gw (fE ps)) = true → endR ps = fE ps ∧ okE ps = true := by
    intro ha; simp [endR, okE, hv, ha]
  have hno : ps.all (gw (fE ps)) = false → endR ps = -1 ∧ okE ps = false := by
    intro ha; simp [endR, okE, hv, ha]
  have HYES := fun h => Lib.hid (hyes h)
  have HNO := fun h => Lib.hid (hno h)
  have HALL := Lib.hid hall
  have HN := Lib.hid hn
  have HC := Lib.hid h
  have HG := Lib.hid igw_any
  clear h hn hv hall hV hyes hno
  generalize fE ps = E at *
  go_enter Try.func36, Try.ntmps36
  go_wp2_with (first | (go_at_call 22; refine HVV.out.mono ?_; rintro e w1 ⟨rfl, hb1⟩; have HB1 := Lib.hid hb1; clear hb1) | (go_at_call 47; refine (HF.out _ (HC.out.below HB1.out HC.out.1)).mono ?_; rintro e w2 ⟨rfl, hb2⟩; have HB2 := Lib.hid (HB1.out.trans (hb2.mono HB1.out.size)); clear hb2))
  go_loopw [14] (fun i wr => ∃ k : Nat, k ≤ n ∧ i = .int .i64 k ∧ (ps.take k).all (gw E) = true ∧ Below w.heap.size w wr) (fun i _ => n - (intOf i).toNat)
  case atStart => exact ⟨0, Nat.zero_le _, rfl, by simp, HB2.out⟩
  case round =>
    obtain ⟨k, hk, rfl, hall, hbel⟩ := hrel
    have HA := Lib.hid hall
    have HBEL := Lib.hid hbel
    clear hall
    by_cases hlt : k < n
    · have hkx : k < ps.length := by have := HN.out; omega
      obtain ⟨c0, c1, c2⟩ := (HC.out.below hbel HC.out.1).2 k hkx
      have hp := pc_yes (pall_get HALL.out k hkx)
      have HS := fun h => Lib.hid (pall_snoc (gw E) ps k hkx HA.out h)
      have HB := fun h => Lib.hid (HNO (pall_bad (gw E) ps k hkx h)).out
      clear hkx hbel
      generalize ps.getD k d0 = q at *
      obtain ⟨x, y, z⟩ := q
      simp only at c0 c1 c2 hp
      have hG := fun W => HG.out W x y z E (by omega) (by omega)
      clear hp
      cases hb : gw E ⟨x, y, z⟩
      · have HX := HB hb
        rw [hb] at hG
        have H := Lib.hid hG
        clear hG hb
        go_wp2_with (go_at_call 48; refine (H.out _).mono ?_; rintro e w' ⟨rfl, hb2⟩)
        go_ret2
        rw [HX.out.1, HX.out.2]
        exact ⟨rfl, (HBEL.out.alloc HBEL.out.size _).trans (hb2.mono (by simp; have := HBEL.out.size; omega))⟩
      · have HX := HS hb
        rw [hb] at hG
        have H := Lib.hid hG
        clear hG hb
        go_wp2_with (go_at_call 48; refine (H.out _).mono ?_; rintro e w' ⟨rfl, hb2⟩; have HB3 := Lib.hid hb2; clear hb2)
        go_roundw
        case rel => exact ⟨k + 1, by omega, by go_num, HX.out, (HBEL.out.alloc HBEL.out.size _).trans (HB3.out.mono (by simp; have := HBEL.out.size; omega))⟩
        case measure => simp [intOf]; omega
    · have ha := pall_end (gw E) ps k (by have := HN.out; omega) HA.out
      have HX := HYES ha
      clear ha
      go_wp2
      go_ret2
      rw [HX.out.1, HX.out.2]
      exact ⟨rfl, HBEL.out⟩
theorem iEO_any (w : World) (v : Value) (ps : List Pc) (h : PRds w v ps) (hn : ps.length ≤ 1048576) :
    Calls Try.prog 36 #[v] w fun e w' => e = .returned (.tuple #[.int .i64 (endR ps), .bool (okE ps)]) ∧ Below w.heap.size w w' := by
  cases hv : vpB ps
  · have e1 : endR ps = -1 := by simp [endR, okE, hv]
    have e2 : okE ps = false := by simp [okE, hv]
    rw [e1, e2]
    exact iEO_bad w v ps h hn hv
  · obtain ⟨A, c, rfl, h1⟩ := h
    rcases Nat.eq_zero_or_pos ps.length with h0 | h0
    · obtain rfl : ps = [] := List.eq_nil_of_length_eq_zero h0
      exact iEO_nil w A c
    · obtain ⟨b, off, rfl, ha⟩ := h1 h0
      exact iEO_at w b off c ps.length ps rfl hn hv ha
end Go.Proofs.Yteililppbnbfhaa
