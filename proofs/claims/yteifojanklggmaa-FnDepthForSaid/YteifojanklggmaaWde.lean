/-
  The walks of both functions DepthFor. Conditions: where the lists lie, and the lengths that are typed.
-/
import Derived.Test.YteifojanklggmaaWpo
namespace Go.Proofs.Yteifojanklggmaa
open Go.RowKit
set_option linter.unusedVariables false

theorem bkL_get (r d : Int) (l : List Int) (n k : Nat) (h : k < n) : (bkL r d l n).getD k false = flag r d l k := by
  simp [bkL, List.getD_eq_getElem?_getD, h]
theorem fitB_all {r d : Int} {l : List Int} (h : ∀ j, j < l.length → flag r d l j = true) : fitB r d l = true := by
  simp only [fitB, bkL, List.all_eq_true, List.mem_map, List.mem_range]
  rintro x ⟨j, hj, rfl⟩
  exact h j hj

/-- A row of bools whose cells can be read. -/
theorem rdsZ_cells {w : World} {A : Option Addr} {n c : Nat} {xs : List Bool} (h : RdsZ w (.slice A n c) xs) (h0 : 0 < xs.length) : ∃ b off, A = some ⟨b, off, none⟩ ∧ AtZ w b off xs := by
  obtain ⟨A', c', hv, h1⟩ := h
  injection hv with e1 e2 e3
  subst e1
  exact h1 h0

set_option maxHeartbeats 800000 in
theorem sft_any (w : World) (r d : Int) (v : Value) (l : List Int) (hr : 0 ≤ r ∧ r ≤ 30) (hd : 0 ≤ d ∧ d ≤ 200) (hl : okL l = true) (hv : Rds w v l) :
    Calls Try.prog 38 #[.int .i64 r, .int .i64 d, v] w fun e w' => e = .returned (.bool (fitB r d l)) ∧ Below w.heap.size w w' := by
  have H := Lib.hid (sps_any w r d v l hr hd hl hv)
  have hlen := okL_len hl
  clear hv hl
  go_enter Try.func38, Try.ntmps38
  go_wp2_with fail
  refine H.out.mono ?_
  rintro e w1 ⟨u, rfl, hu, hb1⟩
  obtain ⟨Au, cu, rfl⟩ := hu.form
  have HU := Lib.hid hu.rds
  have HB := Lib.hid hb1
  have hlt1 := bkL_len r d l l.length
  rw [hlt1]
  rw [hlt1] at HU
  clear hu hb1 H
  go_wp2
  go_loop [9] (fun i => ∃ k : Nat, k ≤ l.length ∧ i = .int .i64 k ∧ ∀ j, j < k → flag r d l j = true) (fun i => l.length - (intOf i).toNat)
  case atStart => exact ⟨0, Nat.zero_le _, rfl, fun j hj => absurd hj (by omega)⟩
  case round =>
    obtain ⟨k, hk, rfl, hall⟩ := hrel
    have HA := Lib.hid hall
    clear hall
    by_cases hlt : k < l.length
    · obtain ⟨b, off, rfl, hat⟩ := rdsZ_cells HU.out (by omega)
      have hc1 := hat.2 k (by omega)
      rw [bkL_get r d l l.length k hlt] at hc1
      have HX := fun h => Lib.hid (fitB_bad (r := r) (d := d) k hlt h)
      have HS : Hid (flag r d l k = true → ∀ j, j < k + 1 → flag r d l j = true) := Lib.hid (fun h j hj => by
        rcases (show j < k ∨ j = k from by omega) with hj | rfl
        · exact HA.out j hj
        · exact h)
      clear hat
      cases hf : flag r d l k
      · rw [hf] at hc1
        have HY := Lib.hid (HX hf).out
        clear HX HS hf
        go_wp2
        go_ret
        exact ⟨ret_bool HY.out.symm, HB.out⟩
      · rw [hf] at hc1
        have HY := Lib.hid (HS.out hf)
        clear HX HS hf
        go_wp2
        go_round
        case rel => exact ⟨k + 1, by omega, by go_num, HY.out⟩
        case measure => simp [intOf]; omega
    · have HY := Lib.hid (fitB_all (r := r) (d := d) (l := l) (fun j hj => HA.out j (by omega)))
      go_wp2
      go_ret
      exact ⟨ret_bool HY.out.symm, HB.out⟩

/-- What both functions DepthFor leave. -/
def DepPost (r : Int) (l : List Int) (w : World) (e : Ending) (w' : World) : Prop := e = .returned (.tuple #[.int .i64 (depN r l), .bool (depB' r l)]) ∧ Below w.heap.size w w'
theorem depPost_none {r : Int} {l : List Int} {w w' : World} (h : depO r l = none) (hb : Below w.heap.size w w') : DepPost r l w (.returned (.tuple #[.int .i64 0, .bool false])) w' := by
  refine ⟨?_, hb⟩
  unfold depN depB'; rw [h]; rfl
theorem depPost_some {r : Int} {l : List Int} {w w' : World} {d : Nat} (h : depO r l = some d) (hb : Below w.heap.size w w') : DepPost r l w (.returned (.tuple #[.int .i64 d, .bool true])) w' := by
  refine ⟨?_, hb⟩
  unfold depN depB'; rw [h]; rfl

set_option maxHeartbeats 800000 in
theorem sDF_any (r : Int) (w : World) (v : Value) (l : List Int) (hv : Rds w v l) (hn : l.length ≤ 1048576) :
    Calls Try.prog 19 #[.int .i64 r, v] w (DepPost r l w) := by
  have H1 := sVbk_any w r 0
  have H2 := sVld_any w v l hv hn
  rw [show (rateB r && depB 0) = rateB r from by simp [depB]] at H1
  cases hr : rateB r
  · have hb : depO r l = none := by simp [depO, depOk, hr]
    rw [hr] at H1
    have HR := Lib.hid H1
    have HN := Lib.hid hb
    clear H1 H2 hr hb
    go_enter Try.func19, Try.ntmps19
    go_wp2_with fail
    refine HR.out.mono ?_
    rintro e w' ⟨rfl, rfl⟩
    go_wp2
    go_ret2
    exact depPost_none HN.out (Below.refl _ _)
  · rw [hr] at H1
    have HR := Lib.hid H1
    cases hl : okL l
    · have hb : depO r l = none := by simp [depO, depOk, hl]
      rw [hl] at H2
      have HD := Lib.hid H2
      have HN := Lib.hid hb
      clear H1 H2 hr hb hl
      go_enter Try.func19, Try.ntmps19
      go_wp2_with fail
      refine HR.out.mono ?_
      rintro e w' ⟨rfl, rfl⟩
      go_wp2_with fail
      refine HD.out.mono ?_
      rintro e w' ⟨rfl, rfl⟩
      go_wp2
      go_ret2
      exact depPost_none HN.out (Below.refl _ _)
    · have hb : depO r l = depFrom r l 201 0 := by simp [depO, depOk, hl, hr]
      have hr2 : 0 ≤ r ∧ r ≤ 30 := by simpa [rateB] using hr
      rw [hl] at H2
      have HD := Lib.hid H2
      have HN := Lib.hid hb
      have HF := Lib.hid (fun W (d : Nat) (hd : d ≤ 200) h => sft_any W r d v l hr2 (by omega) hl h)
      have HV := Lib.hid hv
      have HVL := Lib.hid hv.lies
      clear H1 H2 hr hb hl hv
      go_enter Try.func19, Try.ntmps19
      go_wp2_with fail
      refine HR.out.mono ?_
      rintro e w' ⟨rfl, rfl⟩
      go_wp2_with fail
      refine HD.out.mono ?_
      rintro e w' ⟨rfl, rfl⟩
      go_wp2
      go_loopw [6] (fun i wr => ∃ k : Nat, k ≤ 201 ∧ i = .int .i64 k ∧ depO r l = depFrom r l (201 - k) k ∧ Below w.heap.size w wr) (fun i _ => 201 - (intOf i).toNat)
      case atStart => exact ⟨0, by omega, rfl, HN.out, Below.refl _ _⟩
      case round =>
        obtain ⟨k, hk, rfl, hdep, hb⟩ := hrel
        by_cases hlt : k ≤ 200
        · have hd2 : decide ((k : Int) ≤ 200) = true := by simp; omega
          have hstep : depFrom r l (201 - k) k = if fitB r k l = true then some k else depFrom r l (201 - (k + 1)) (k + 1) := by
            rw [show 201 - k = (201 - (k + 1)) + 1 from by omega]; rfl
          rw [hstep] at hdep
          have HDP := Lib.hid hdep
          have HC := Lib.hid (HF.out wr k hlt (HV.out.below hb HVL.out))
          have HB := Lib.hid hb
          clear hdep hstep hb
          cases hf : fitB r k l
          · rw [hf] at HC
            have HE := Lib.hid (HDP.out.trans (if_neg (by rw [hf]; simp)))
            clear hf HDP
            go_wp2_with fail
            refine HC.out.mono ?_
            rintro e w1 ⟨rfl, hb1⟩
            go_wp2
            go_roundw
            case rel => exact ⟨k + 1, by omega, by go_num, HE.out, HB.out.trans (hb1.mono HB.out.size)⟩
            case measure => simp [intOf]; omega
          · rw [hf] at HC
            have HE := Lib.hid (HDP.out.trans (if_pos (by rw [hf])))
            clear hf HDP
            go_wp2_with fail
            refine HC.out.mono ?_
            rintro e w1 ⟨rfl, hb1⟩
            go_wp2
            go_ret2
            exact depPost_some HE.out (HB.out.trans (hb1.mono HB.out.size))
        · have hd2 : decide ((k : Int) ≤ 200) = false := by simp; omega
          obtain rfl : k = 201 := by omega
          have HDP := Lib.hid hdep
          clear hdep
          go_wp2
          go_ret2
          exact depPost_none HDP.out hb

def IxPost (xs : List Bool) (w : World) (e : Ending) (w' : World) : Prop := (∃ k : Int, e = .returned (.int .i64 k) ∧ (0 ≤ k ↔ xs.all id = false) ∧ -1 ≤ k ∧ k ≤ 1048576) ∧ w = w'
set_option maxHeartbeats 800000 in
theorem ixF_any (w : World) (v : Value) (xs : List Bool) (hv : RdsZ w v xs) (hn : xs.length ≤ 1048576) :
    Calls Try.prog 44 #[v, .bool false] w (IxPost xs w) := by
  obtain ⟨A, c, rfl, hA⟩ := hv
  have HA := Lib.hid hA
  clear hA
  have HBAD : Hid (∀ k, k < xs.length → xs.getD k false = false → xs.all id = false) := Lib.hid (fun k hk h => by
    rw [List.all_eq_false]
    exact ⟨xs.getD k false, by rw [List.getD_eq_getElem?_getD, List.getElem?_eq_getElem hk]; exact List.getElem_mem hk, by rw [h]; simp⟩)
  have HOK : Hid ((∀ j, j < xs.length → xs.getD j false = true) → xs.all id = true) := Lib.hid (fun h => by
    rw [List.all_eq_true]
    intro x hx
    obtain ⟨j, hj, rfl⟩ := List.getElem_of_mem hx
    have := h j hj
    rwa [List.getD_eq_getElem?_getD, List.getElem?_eq_getElem hj] at this)
  go_enter Try.func44, Try.ntmps44
  go_wp2
  go_loop [8] (fun i => ∃ k : Nat, k ≤ xs.length ∧ i = .int .i64 k ∧ ∀ j, j < k → xs.getD j false = true) (fun i => xs.length - (intOf i).toNat)
  case atStart => exact ⟨0, Nat.zero_le _, rfl, fun j hj => absurd hj (by omega)⟩
  case round =>
    obtain ⟨k, hk, rfl, hall⟩ := hrel
    have HAL := Lib.hid hall
    clear hall
    by_cases hlt : k < xs.length
    · obtain ⟨b, off, rfl, hat⟩ := HA.out (by omega)
      have hc1 := hat.2 k hlt
      have HX := fun h => Lib.hid (HBAD.out k hlt h)
      have HS : Hid (xs.getD k false = true → ∀ j, j < k + 1 → xs.getD j false = true) := Lib.hid (fun h j hj => by
        rcases (show j < k ∨ j = k from by omega) with hj | rfl
        · exact HAL.out j hj
        · exact h)
      clear hat
      cases hf : xs.getD k false
      · rw [hf] at hc1
        have HY := Lib.hid (HX hf).out
        clear HX HS hf
        go_wp2
        go_ret
        exact ⟨⟨k, rfl, ⟨fun _ => HY.out, fun _ => by omega⟩, by omega, by omega⟩, rfl⟩
      · rw [hf] at hc1
        have HY := Lib.hid (HS.out hf)
        clear HX HS hf
        go_wp2
        go_round
        case rel => exact ⟨k + 1, by omega, by go_num, HY.out⟩
        case measure => simp [intOf]; omega
    · have HY := Lib.hid (HOK.out (fun j hj => HAL.out j (by omega)))
      go_wp2
      go_ret
      exact ⟨⟨-1, rfl, ⟨fun h => absurd h (by omega), fun h => by rw [HY.out] at h; cases h⟩, by omega, by omega⟩, rfl⟩
set_option maxHeartbeats 400000 in
theorem ctF_any (w : World) (v : Value) (xs : List Bool) (hv : RdsZ w v xs) (hn : xs.length ≤ 1048576) :
    Calls Try.prog 43 #[v, .bool false] w fun e w' => e = .returned (.bool (!xs.all id)) ∧ w = w' := by
  have H := Lib.hid (ixF_any w v xs hv hn)
  go_enter Try.func43, Try.ntmps43
  go_wp2_with fail
  refine H.out.mono ?_
  rintro e w' ⟨⟨k, rfl, hk, h1, h2⟩, rfl⟩
  have HK := Lib.hid hk
  clear hk
  go_wp2
  go_ret
  refine ⟨ret_bool ?_, rfl⟩
  cases hx : xs.all id
  · simp; exact HK.out.2 hx
  · simp
    rcases Int.lt_or_le k 0 with h | h
    · exact h
    · have := HK.out.1 h; rw [hx] at this; cases this

theorem bok_all {r d : Int} {l : List Int} (h : bokB r d l = true) : (bokL r d l).all id = fitB r d l := by rw [bokL_ok h]; rfl
def apB (r d : Int) (l : List Int) : Bool := bokB r d l && fitB r d l
set_option maxHeartbeats 800000 in
theorem iAP_any (r d : Int) (w : World) (v : Value) (l : List Int) (hv : Rds w v l) (hn : l.length ≤ 1048576) :
    Calls Try.prog 39 #[.int .i64 r, .int .i64 d, v] w fun e w' => e = .returned (.bool (apB r d l)) ∧ Below w.heap.size w w' := by
  have H := Lib.hid (iPO_any r d w v l hv hn hv.lies)
  have hL := bokL_len r d l
  cases hb : bokB r d l
  · have e1 : apB r d l = false := by simp [apB, hb]
    have e2 := bokN_bad hb
    rw [e1]
    rw [e2] at H
    clear e1 e2 hb
    go_enter Try.func39, Try.ntmps39
    go_wp2_with fail
    refine H.out.mono ?_
    rintro e w1 ⟨u, rfl, hu, hb1⟩
    go_wp2
    go_ret
    exact ⟨rfl, hb1⟩
  · have e1 : apB r d l = (bokL r d l).all id := by rw [bok_all hb]; simp [apB, hb]
    have e2 := bokN_ok hb
    obtain ⟨hr, hd, hl⟩ := bok_parts hb
    have hbd := hh_bd hr.1 hd.1 hl l.length
    rw [e1]
    rw [e2] at H
    clear e1 e2 hb
    generalize hh r d l l.length = h at *
    generalize bokL r d l = L at *
    go_enter Try.func39, Try.ntmps39
    go_wp2_with fail
    refine H.out.mono ?_
    rintro e w1 ⟨u, rfl, hu, hb1⟩
    have HC := Lib.hid (ctF_any w1 u L hu.rds (by omega))
    have HB := Lib.hid hb1
    clear hu hb1
    cases hx : L.all id
    · rw [hx] at HC
      have HXX := Lib.hid hx
      clear hx
      go_wp2_with fail
      refine HC.out.mono ?_
      rintro e w' ⟨rfl, rfl⟩
      go_wp2
      go_ret
      exact ⟨ret_bool HXX.out.symm, HB.out⟩
    · rw [hx] at HC
      have HXX := Lib.hid hx
      clear hx
      go_wp2_with fail
      refine HC.out.mono ?_
      rintro e w' ⟨rfl, rfl⟩
      go_wp2
      go_ret
      exact ⟨ret_bool HXX.out.symm, HB.out⟩

/-- Where it is sought by allPass, the same is found. -/
theorem dep_step {r : Int} {l : List Int} {k : Nat} (hk : k ≤ 200) (h : depO r l = if depOk r l = true then depFrom r l (201 - k) k else none) :
    depO r l = if apB r k l = true then some k else (if depOk r l = true then depFrom r l (201 - (k + 1)) (k + 1) else none) := by
  rw [h]
  by_cases ho : depOk r l = true
  · have hb : apB r k l = fitB r k l := by
      simp only [depOk, Bool.and_eq_true] at ho
      have : depB (k : Int) = true := by simp [depB]; omega
      simp [apB, bokB, ho.1, ho.2, this]
    rw [if_pos ho, if_pos ho, hb, show 201 - k = (201 - (k + 1)) + 1 from by omega]
    rfl
  · have hb : apB r k l = false := by
      cases hr : rateB r
      · simp [apB, bokB, hr]
      · cases hl : okL l
        · simp [apB, bokB, hl]
        · exact absurd (by simp [depOk, hr, hl]) ho
    rw [if_neg ho, if_neg ho, hb]; rfl

set_option maxHeartbeats 800000 in
theorem iDF_any (r : Int) (w : World) (v : Value) (l : List Int) (hv : Rds w v l) (hn : l.length ≤ 1048576) :
    Calls Try.prog 20 #[.int .i64 r, v] w (DepPost r l w) := by
  have HF := Lib.hid (fun W (d : Nat) h => iAP_any r d W v l h hn)
  have HV := Lib.hid hv
  have HVL := Lib.hid hv.lies
  have HN : Hid (depO r l = if depOk r l = true then depFrom r l (201 - 0) 0 else none) := Lib.hid rfl
  have HE : Hid ((if depOk r l = true then depFrom r l (201 - 201) 201 else none) = none) := Lib.hid (by split <;> rfl)
  clear hv
  go_enter Try.func20, Try.ntmps20
  go_wp2
  go_loopw [7] (fun i wr => ∃ k : Nat, k ≤ 201 ∧ i = .int .i64 k ∧ (depO r l = if depOk r l = true then depFrom r l (201 - k) k else none) ∧ Below w.heap.size w wr) (fun i _ => 201 - (intOf i).toNat)
  case atStart => exact ⟨0, by omega, rfl, HN.out, Below.refl _ _⟩
  case round =>
    obtain ⟨k, hk, rfl, hdep, hb⟩ := hrel
    by_cases hlt : k ≤ 200
    · have hd2 : decide ((k : Int) < 201) = true := by simp; omega
      have HDP := Lib.hid (dep_step hlt hdep)
      have HC := Lib.hid (HF.out wr k (HV.out.below hb HVL.out))
      have HB := Lib.hid hb
      clear hdep hb
      cases hf : apB r k l
      · rw [hf] at HC
        have HE := Lib.hid (HDP.out.trans (if_neg (by rw [hf]; simp)))
        clear hf HDP
        go_wp2_with fail
        refine HC.out.mono ?_
        rintro e w1 ⟨rfl, hb1⟩
        go_wp2
        go_roundw
        case rel => exact ⟨k + 1, by omega, by go_num, HE.out, HB.out.trans (hb1.mono HB.out.size)⟩
        case measure => simp [intOf]; omega
      · rw [hf] at HC
        have HE := Lib.hid (HDP.out.trans (if_pos (by rw [hf])))
        clear hf HDP
        go_wp2_with fail
        refine HC.out.mono ?_
        rintro e w1 ⟨rfl, hb1⟩
        go_wp2
        go_ret2
        exact depPost_some HE.out (HB.out.trans (hb1.mono HB.out.size))
    · have hd2 : decide ((k : Int) < 201) = false := by simp; omega
      obtain rfl : k = 201 := by omega
      have HDP := Lib.hid (hdep.trans HE.out)
      clear hdep
      go_wp2
      go_ret2
      exact depPost_none HDP.out hb
end Go.Proofs.Yteifojanklggmaa
