/-
  The walk of the model's function that says which numbers pieces have. Conditions: where the list lies, and that its pieces are valid.
-/
import Derived.Test.YteililppbnbfhaaPru
import Derived.Test.YteililppbnbfhaaWes
namespace Go.Proofs.Yteililppbnbfhaa
open Go.RowKit
set_option linter.unusedVariables false

theorem infoB : (Try.prog.info? 4).map (fun i => (i.zero, i.size, i.bytes)) = some (some (.bool false), 1, 1) := by kernel_rfl
/-- Sixty answers. -/
def bls (f : Nat → Bool) : List Value := (List.range 60).map fun j => .bool (f j)
theorem bls_len (f : Nat → Bool) : (bls f).length = 60 := by simp [bls]
theorem bls_get (f : Nat → Bool) (j : Nat) (h : j < 60) : (bls f)[j]? = some (.bool (f j)) := by simp [bls, h]
theorem bls_set (f : Nat → Bool) (j : Nat) (h : j < 60) : (bls f).set j (.bool true) = bls (fun i => if i = j then true else f i) := by
  apply List.ext_getElem?
  intro i
  rw [List.getElem?_set]
  by_cases hij : j = i
  · subst hij
    rw [if_pos rfl, if_pos (by rw [bls_len]; exact h), bls_get _ _ h]
    simp
  · rw [if_neg hij]
    by_cases hi : i < 60
    · rw [bls_get _ _ hi, bls_get _ _ hi, if_neg (fun e => hij e.symm)]
    · rw [List.getElem?_eq_none (by rw [bls_len]; omega), List.getElem?_eq_none (by rw [bls_len]; omega)]
/-- A row of the call's own, of sixty answers. -/
def OwnB (w : World) (B g : Nat) (f : Nat → Bool) : Prop := w.ownsRow B 4 1 (.slice (some ⟨g, 0, none⟩) 60 60) 60 (bls f)
theorem OwnB.cell {w : World} {B g : Nat} {f : Nat → Bool} (h : OwnB w B g f) (j : Nat) (hj : j < 60) : w.cell? ⟨g, j, none⟩ = some (.bool (f j)) := by
  have := World.ownsRow.cellAt h j (by omega)
  rw [this, bls_get f j hj]
theorem OwnB.put {w : World} {B g : Nat} {f : Nat → Bool} (h : OwnB w B g f) (j : Nat) (hj : j < 60) : OwnB (w.setCell ⟨g, j, none⟩ (.bool true)) B g (fun i => if i = j then true else f i) ∧ w.grownBy (w.setCell ⟨g, j, none⟩ (.bool true)) (some g) := by
  have h1 := World.ownsRow.stored h j (.bool true)
  rw [bls_set f j hj] at h1
  exact h1
theorem bls_ext {f f' : Nat → Bool} (h : ∀ j, j < 60 → f j = f' j) : bls f = bls f' := by
  apply List.ext_getElem?
  intro i
  by_cases hi : i < 60
  · rw [bls_get _ _ hi, bls_get _ _ hi, h i hi]
  · rw [List.getElem?_eq_none (by rw [bls_len]; omega), List.getElem?_eq_none (by rw [bls_len]; omega)]
theorem OwnB.ext {w : World} {B g : Nat} {f f' : Nat → Bool} (h : OwnB w B g f) (he : ∀ j, j < 60 → f j = f' j) : OwnB w B g f' := by
  unfold OwnB at h ⊢
  rw [← bls_ext he]; exact h
/-- Whether one of the pieces has the number. -/
def hasB (ps : List Pc) (j : Nat) : Bool := ps.any fun p => decide (p.a ≤ (j : Int)) && decide ((j : Int) < p.e)
theorem hasB_iff (ps : List Pc) (j : Nat) : hasB ps j = true ↔ Inn ps (j : Int) := by
  unfold hasB Inn
  rw [List.any_eq_true]
  constructor
  · rintro ⟨p, hp, h⟩
    simp only [Bool.and_eq_true, decide_eq_true_eq] at h
    exact ⟨p, hp, h⟩
  · rintro ⟨p, hp, h⟩
    exact ⟨p, hp, by simp only [Bool.and_eq_true, decide_eq_true_eq]; exact h⟩
/-- .. one of the first k, or the next one below the number t. -/
def hasT (ps : List Pc) (k : Nat) (t : Int) (j : Nat) : Bool := hasB (ps.take k) j || (decide ((ps.getD k d0).a ≤ (j : Int)) && decide ((j : Int) < t))
theorem hasT_start (ps : List Pc) (k j : Nat) : hasB (ps.take k) j = hasT ps k (ps.getD k d0).a j := by
  unfold hasT
  have : (decide ((ps.getD k d0).a ≤ (j : Int)) && decide ((j : Int) < (ps.getD k d0).a)) = false := by
    rw [Bool.and_eq_false_iff]; simp; omega
  rw [this, Bool.or_false]
theorem hasT_end (ps : List Pc) (k j : Nat) (hk : k < ps.length) : hasT ps k (ps.getD k d0).e j = hasB (ps.take (k + 1)) j := by
  unfold hasT hasB
  rw [ptake_snoc ps k hk, List.any_append]
  simp
theorem hasT_step (ps : List Pc) (k j : Nat) (t : Int) (ht : (ps.getD k d0).a ≤ t) (ht0 : 0 ≤ t) : (if j = t.toNat then true else hasT ps k t j) = hasT ps k (t + 1) j := by
  unfold hasT
  by_cases h : j = t.toNat
  · rw [if_pos h]
    have : (decide ((ps.getD k d0).a ≤ (j : Int)) && decide ((j : Int) < t + 1)) = true := by
      simp only [Bool.and_eq_true, decide_eq_true_eq]; omega
    rw [this, Bool.or_true]
  · rw [if_neg h]
    congr 2
    rw [decide_eq_decide]; omega

set_option maxHeartbeats 1600000 in
theorem cov_at (w : World) (b off c n : Nat) (ps : List Pc) (hn : ps.length = n) (hn2 : n ≤ 1000) (hv : ps.all pcB = true) (h : PAt w b off ps) :
    Calls Try.prog 41 #[.slice (some ⟨b, off, none⟩) n c] w
      fun e w' => e = .returned (.slice (some ⟨w.heap.size, 0, none⟩) 60 60) ∧ OwnB w' w.heap.size w.heap.size (hasB ps) ∧ Below w.heap.size w w' := by
  obtain ⟨i0, hi, hz0, hz1, hz2⟩ := info_parts infoB
  have HI := Lib.hid hi
  have HZ0 := Lib.hid hz0
  have HZ1 := Lib.hid hz1
  have HZ2 := Lib.hid hz2
  have HN := Lib.hid hn
  have HC := Lib.hid h
  have HV := Lib.hid hv
  clear hi hz0 hz1 hz2 h hn hv
  go_enter Try.func41, Try.ntmps41
  go_wp2_with (at_make; refine wpList_make_full _ rfl _ _ 56 rfl w.heap.size 4 i0 (.bool false) 1 Try.underlying56 HI.out HZ0.out HZ1.out _ _ _ _ 60 rfl rfl rfl rfl (by rw [HZ2.out]; omega) (by unfold maxLen; omega) (Nat.le_refl _) ?_; intro w1 hown1 hg1; have hb1 := (Below.refl w.heap.size w).grown hg1 (Nat.le_refl _) (fun k hk => by cases hk))
  have ho1 : OwnB w1 w.heap.size w.heap.size (hasB []) := by
    unfold OwnB
    have e : bls (hasB []) = (madeCells (Value.bool false).cells (60 * 1)).toList := by
      rw [show (Value.bool false).cells = #[.bool false] from rfl, toList_madeCells_one]
      apply List.ext_getElem?
      intro j
      by_cases hj : j < 60
      · rw [bls_get _ _ hj, show (60 * 1) = 60 from rfl, List.getElem?_replicate, if_pos hj]; rfl
      · rw [List.getElem?_eq_none (by rw [bls_len]; omega), List.getElem?_eq_none (by simp; omega)]
    rw [e]; exact hown1
  have HO1 := Lib.hid ho1
  clear ho1 hown1 hg1
  go_loopw [4] (fun iv wr => ∃ k : Nat, k ≤ n ∧ iv = .int .i64 k ∧ OwnB wr w.heap.size w.heap.size (hasB (ps.take k)) ∧ Below w.heap.size w wr) (fun iv _ => n - (intOf iv).toNat)
  case atStart => exact ⟨0, Nat.zero_le _, rfl, by rw [List.take_zero]; exact HO1.out, hb1⟩
  case round =>
    obtain ⟨k, hk, rfl, hown, hbel⟩ := hrel
    have HO := Lib.hid hown
    have HBEL := Lib.hid hbel
    by_cases hlt : k < n
    · have hkx : k < ps.length := by have := HN.out; omega
      obtain ⟨c0, c1, c2⟩ := (HC.out.below hbel HC.out.1).2 k hkx
      have hp := pc_yes (pall_get HV.out k hkx)
      have HST := Lib.hid (hasT_start ps k)
      have HEN := Lib.hid (fun j => hasT_end ps k j hkx)
      have HSP := Lib.hid (fun j t => hasT_step ps k j t)
      clear hown hbel hkx
      have HC2 := Lib.hid (fun (w' : World) (hb : Below w.heap.size w w') => (HC.out.below hb HC.out.1).2 k (by have := HN.out; omega))
      generalize hq : ps.getD k d0 = q at *
      obtain ⟨pa, ps', pm⟩ := q
      simp only [Pc.e] at c0 c1 c2 hp HST HEN HSP HC2
      have HQ := Lib.hid hq
      clear hq
      have ew := pwrap (pa + ps') (by omega)
      go_wp2
      go_loopw [5] (fun tv wq => ∃ t : Int, tv = .int .i64 t ∧ pa ≤ t ∧ t ≤ pa + ps' ∧ OwnB wq w.heap.size w.heap.size (hasT ps k t) ∧ Below w.heap.size w wq) (fun tv _ => (pa + ps' - intOf tv).toNat)
      case atStart => exact ⟨pa, rfl, by omega, by omega, HO.out.ext (fun j _ => HST.out j), HBEL.out⟩
      case round =>
        obtain ⟨t, rfl, ht0, ht1, hown, hbel⟩ := hrel
        have HO2 := Lib.hid hown
        have HB2 := Lib.hid hbel
        obtain ⟨e0, e1, e2⟩ := HC2.out _ hbel
        have hk0 : (0 : Int) ≤ (k : Int) := by omega
        have hkn : (k : Int) < (n : Int) := by omega
        by_cases hlt2 : t < pa + ps'
        · have hd : decide (t < pa + ps') = true := by simpa using hlt2
          obtain ⟨tn, rfl⟩ : ∃ tn : Nat, t = tn := ⟨t.toNat, by omega⟩
          have htn : tn < 60 := by omega
          have hcl := hown.cell tn htn
          have hfz := World.ownsRow.frozenAt hown tn
          have hput := hown.put tn htn
          have hput2 := hput.1.ext (f' := hasT ps k ((tn : Int) + 1)) (fun j _ => by
            have := HSP.out j (tn : Int) ht0 (by omega)
            rw [← this]
            simp)
          have HP2 := Lib.hid (And.intro hput2 hput.2)
          have htn0 : (0 : Int) ≤ (tn : Int) := by omega
          have htn1 : (tn : Int) < 60 := by omega
          generalize hasT ps k (tn : Int) tn = bb at hcl
          clear hown hbel hput hput2
          go_wp2
          go_quiet (fail)
          go_wp2
          have hbp : Below w.heap.size w ((wr.setCell ⟨w.heap.size, tn, none⟩ (.bool true)).drewN nq) := below_drewN (below_grown HB2.out HP2.out.2 (Nat.le_refl _) HB2.out.size) nq
          go_roundw
          case rel => exact ⟨(tn : Int) + 1, rfl, by omega, by omega, HP2.out.1, hbp⟩
          case measure => simp [intOf]; omega
        · have hd : decide (t < pa + ps') = false := by simpa using hlt2
          have ht : t = pa + ps' := by omega
          clear hown hbel hlt2
          go_wp2
          go_quiet (fail)
          go_wp2
          go_roundw
          case rel => exact ⟨k + 1, by omega, by go_num, (HO2.out.ext (fun j _ => by rw [ht]; exact HEN.out j)), below_drewN HB2.out nq⟩
          case measure => simp [intOf]; omega
    · have e : ps.take k = ps := List.take_of_length_le (by have := HN.out; omega)
      rw [e] at hown
      clear e
      go_wp2
      go_ret
      exact ⟨rfl, hown, hbel⟩
end Go.Proofs.Yteililppbnbfhaa
