/-
  The walk of the program's function that says which numbers are missing. Conditions: where the list lies, that its pieces are valid, and the length that is typed.
-/
import Derived.Test.YteililppbnbfhaaWmp
import Derived.Test.YteililppbnbfhaaWeq
namespace Go.Proofs.Yteililppbnbfhaa
open Go.RowKit Go.Maps
set_option linter.unusedVariables false

/-- Whether one of the pieces has the number. -/
def inI (ps : List Pc) (j : Int) : Bool := ps.any fun p => decide (p.a ≤ j) && decide (j < p.e)
theorem inI_iff (ps : List Pc) (j : Int) : inI ps j = true ↔ Inn ps j := by
  unfold inI Inn
  rw [List.any_eq_true]
  constructor
  · rintro ⟨p, hp, h⟩
    simp only [Bool.and_eq_true, decide_eq_true_eq] at h
    exact ⟨p, hp, h⟩
  · rintro ⟨p, hp, h⟩
    exact ⟨p, hp, by simp only [Bool.and_eq_true, decide_eq_true_eq]; exact h⟩
theorem hasB_inI (ps : List Pc) (j : Nat) : hasB ps j = inI ps j := rfl
/-- The numbers up to a length that none of the pieces has. -/
def mis (ps : List Pc) (N : Nat) (j : Int) : Bool := (decide (0 ≤ j) && decide (j < (N : Int))) && !inI ps j
/-- .. none of the first k, and the next one not below the number t. -/
def misT (ps : List Pc) (N k : Nat) (t : Int) (j : Int) : Bool := mis (ps.take k) N j && !(decide ((ps.getD k d0).a ≤ j) && decide (j < t))
theorem misT_start (ps : List Pc) (N k : Nat) (j : Int) : mis (ps.take k) N j = misT ps N k (ps.getD k d0).a j := by
  unfold misT
  have : (decide ((ps.getD k d0).a ≤ j) && decide (j < (ps.getD k d0).a)) = false := by
    rw [Bool.and_eq_false_iff]; simp; omega
  rw [this]; simp
theorem misT_end (ps : List Pc) (N k : Nat) (j : Int) (hk : k < ps.length) : misT ps N k (ps.getD k d0).e j = mis (ps.take (k + 1)) N j := by
  unfold misT mis inI
  rw [ptake_snoc ps k hk, List.any_append]
  simp [Bool.and_assoc]
theorem misT_step (ps : List Pc) (N k : Nat) (j t : Int) (ht : (ps.getD k d0).a ≤ t) : (if j = t then false else misT ps N k t j) = misT ps N k (t + 1) j := by
  unfold misT
  by_cases h : j = t
  · rw [if_pos h]
    have : (decide ((ps.getD k d0).a ≤ j) && decide (j < t + 1)) = true := by
      simp only [Bool.and_eq_true, decide_eq_true_eq]; omega
    rw [this]; simp
  · rw [if_neg h]
    congr 3
    rw [decide_eq_decide]; omega
theorem mis_start (N : Nat) (j : Int) : (decide (0 ≤ j) && decide (j < (N : Int))) = mis [] N j := by simp [mis, inI]
theorem up_start (j : Int) : false = (decide (0 ≤ j) && decide (j < ((0 : Nat) : Int))) := by
  symm; rw [Bool.and_eq_false_iff]; simp; omega
theorem up_step (j : Int) (k : Nat) : (if j = (k : Int) then true else (decide (0 ≤ j) && decide (j < (k : Int)))) = (decide (0 ≤ j) && decide (j < ((k + 1 : Nat) : Int))) := by
  by_cases h : j = (k : Int)
  · rw [if_pos h]; symm
    simp only [Bool.and_eq_true, decide_eq_true_eq]; omega
  · rw [if_neg h]
    congr 1
    rw [decide_eq_decide]; omega

set_option maxHeartbeats 3200000 in
theorem mis_at (w : World) (b off c n N : Nat) (ps : List Pc) (hn : ps.length = n) (hn2 : n ≤ 1000) (hv : ps.all pcB = true) (hN1 : 1 ≤ N) (hN2 : N ≤ 60) (h : PAt w b off ps) :
    Calls Try.prog 30 #[.slice (some ⟨b, off, none⟩) n c, .int .i64 N] w
      fun e w' => e = .returned (.map (some w.heap.size)) ∧ MapB w' w.heap.size N (mis ps N) ∧ Below w.heap.size w w' := by
  have hmm := make_hint
  have HN := Lib.hid hn
  have HC := Lib.hid h
  have HV := Lib.hid hv
  clear h hn hv
  go_enter Try.func30, Try.ntmps30
  go_wp2
  have HM0 := Lib.hid ((MapB.made w).ext up_start)
  clear hmm
  go_loopw [13] (fun iv wr => ∃ k : Nat, k ≤ N ∧ iv = .int .i64 k ∧ MapB wr w.heap.size k (fun j => decide (0 ≤ j) && decide (j < (k : Int))) ∧ Below w.heap.size w wr) (fun iv _ => N - (intOf iv).toNat)
  case atStart => exact ⟨0, Nat.zero_le _, rfl, HM0.out, (Below.refl _ _).alloc (Nat.le_refl _) _⟩
  case round =>
    obtain ⟨k, hk, rfl, hmap, hbel⟩ := hrel
    have HM := Lib.hid hmap
    have HBEL := Lib.hid hbel
    clear hmap hbel
    by_cases hlt : k < N
    · go_wp2_with (at_mapUpdate; refine wp_put rfl _ _ _ rfl w.heap.size k _ rfl HM.out (by unfold maxLen; omega) (k : Int) (WalkArith.wf_i64 (by omega)) rfl rfl ?_; intro w1 hm1 hg1; have HM1 := Lib.hid (hm1.ext (fun j => up_step j k)); have HG1 := Lib.hid hg1; clear hm1 hg1)
      go_roundw
      case rel => exact ⟨k + 1, by omega, by go_num, HM1.out, below_grown HBEL.out HG1.out (Nat.le_refl _) HBEL.out.size⟩
      case measure => simp [intOf]; omega
    · obtain rfl : k = N := by omega
      have HM1 := Lib.hid (HM.out.ext (mis_start k))
      go_wp2
      go_loopw [21] (fun iv wr => ∃ i : Nat, i ≤ n ∧ iv = .int .i64 i ∧ MapB wr w.heap.size k (mis (ps.take i) k) ∧ Below w.heap.size w wr) (fun iv _ => n - (intOf iv).toNat)
      case atStart => exact ⟨0, Nat.zero_le _, rfl, HM1.out, HBEL.out⟩
      case round =>
        obtain ⟨i, hi, rfl, hmap, hbel⟩ := hrel
        have HM2 := Lib.hid hmap
        have HB2 := Lib.hid hbel
        by_cases hlt2 : i < n
        · have hkx : i < ps.length := by have := HN.out; omega
          obtain ⟨c0, c1, c2⟩ := (HC.out.below hbel HC.out.1).2 i hkx
          have hp := pc_yes (pall_get HV.out i hkx)
          have HST := Lib.hid (misT_start ps k i)
          have HEN := Lib.hid (fun j => misT_end ps k i j hkx)
          have HSP := Lib.hid (fun j t => misT_step ps k i j t)
          have HL := Lib.hid hmap.lt
          clear hmap hbel hkx
          generalize hq : ps.getD i d0 = q at *
          obtain ⟨pa, ps', pm⟩ := q
          simp only [Pc.e] at c0 c1 c2 hp HST HEN HSP
          have HQ := Lib.hid hq
          clear hq
          have HEA := Lib.hid (fun W => iea_any W pa ps' pm (by omega) (by omega))
          go_wp2
          have HBK := Lib.hid (Blk.new wr 38 #[.int .i64 pa, .int .i64 ps', .bool pm])
          have HM3 := Lib.hid (HM2.out.kept (World.grownBy_alloc wr (.cells #[.int .i64 pa, .int .i64 ps', .bool pm] 38) none) (by simp))
          have HB3 := Lib.hid (HB2.out.alloc HB2.out.size (.cells #[.int .i64 pa, .int .i64 ps', .bool pm] 38))
          have hz0 := HB2.out.size
          generalize hW2 : wr.alloc (.cells #[.int .i64 pa, .int .i64 ps', .bool pm] 38) = w2 at *
          obtain ⟨g, hg⟩ : ∃ g, g = wr.heap.size := ⟨_, rfl⟩
          rw [← hg] at HBK hz0 ⊢
          have HGW := Lib.hid (show g < w2.heap.size by rw [← hW2, hg]; simp)
          have HLW : Hid (w.heap.size < g) := Lib.hid (by rw [hg]; exact HL.out)
          clear hW2 hg
          go_loopw [9] (fun tv wq => ∃ t : Int, tv = .int .i64 t ∧ pa ≤ t ∧ t ≤ pa + ps' ∧ MapB wq w.heap.size k (misT ps k i t) ∧ Below w.heap.size w wq ∧ Blk wq g 38 #[.int .i64 pa, .int .i64 ps', .bool pm]) (fun tv _ => (pa + ps' - intOf tv).toNat)
          case atStart => exact ⟨pa, rfl, by omega, by omega, HM3.out.ext HST.out, HB3.out, HBK.out⟩
          case round =>
            obtain ⟨t, rfl, ht0, ht1, hmap, hbel, hblk⟩ := hrel
            have HM4 := Lib.hid hmap
            have HB4 := Lib.hid hbel
            have HBK4 := Lib.hid hblk
            have d0' := hblk.cell 0
            have d1' := hblk.cell 1
            have d2' := hblk.cell 2
            have f0' := hblk.frozen 0
            have f1' := hblk.frozen 1
            have f2' := hblk.frozen 2
            simp at d0' d1' d2'
            have hml := hmap.lt
            have hgl := hblk.lt
            clear hmap hbel hblk
            by_cases hlt3 : t < pa + ps'
            · have hd : decide (t < pa + ps') = true := by simpa using hlt3
              go_wp2_with (first | (go_at_call 42; refine (HEA.out _).mono ?_; rintro e w5 ⟨rfl, hb5⟩; have HM5 := Lib.hid (HM4.out.below hb5 hml); have HBK5 := Lib.hid (HBK4.out.below hb5 hgl); have HB5 := Lib.hid (HB4.out.trans (hb5.mono HB4.out.size)); clear hb5) | (at_delete; refine wp_del rfl _ _ rfl w.heap.size k _ rfl HM5.out t (WalkArith.wf_i64 (by omega)) rfl ?_; intro w6 hm6 hg6; have HM6 := Lib.hid (hm6.ext (fun j => HSP.out j t ht0)); have HG6 := Lib.hid hg6; clear hm6 hg6))
              have hbk6 : Blk w6 g 38 #[.int .i64 pa, .int .i64 ps', .bool pm] := (HG6.out.block g HBK5.out.lt (fun e => by have h1 := HLW.out; simp only [Option.some.injEq] at e; omega)).trans HBK5.out
              have hbel6 := below_grown HB5.out HG6.out (Nat.le_refl _) HB5.out.size
              go_roundw
              case rel => exact ⟨t + 1, rfl, by omega, by omega, HM6.out, hbel6, hbk6⟩
              case measure => simp [intOf]; omega
            · have hd : decide (t < pa + ps') = false := by simpa using hlt3
              have ht : t = pa + ps' := by omega
              go_wp2_with (go_at_call 42; refine (HEA.out _).mono ?_; rintro e w5 ⟨rfl, hb5⟩; have HM5 := Lib.hid (HM4.out.below hb5 hml); have HB5 := Lib.hid (HB4.out.trans (hb5.mono HB4.out.size)); clear hb5)
              go_roundw
              case rel => exact ⟨i + 1, by omega, by go_num, HM5.out.ext (fun j => by rw [ht]; exact HEN.out j), HB5.out⟩
              case measure => simp [intOf]; omega
        · have e : ps.take i = ps := List.take_of_length_le (by have := HN.out; omega)
          rw [e] at HM2
          go_wp2
          go_ret
          exact ⟨rfl, HM2.out, HB2.out⟩
set_option maxHeartbeats 1600000 in
theorem mis_nil (w : World) (A : Option Addr) (c N : Nat) (hN1 : 1 ≤ N) (hN2 : N ≤ 60) :
    Calls Try.prog 30 #[.slice A 0 c, .int .i64 N] w
      fun e w' => e = .returned (.map (some w.heap.size)) ∧ MapB w' w.heap.size N (mis [] N) ∧ Below w.heap.size w w' := by
  have hmm := make_hint
  go_enter Try.func30, Try.ntmps30
  go_wp2
  have HM0 := Lib.hid ((MapB.made w).ext up_start)
  clear hmm
  go_loopw [13] (fun iv wr => ∃ k : Nat, k ≤ N ∧ iv = .int .i64 k ∧ MapB wr w.heap.size k (fun j => decide (0 ≤ j) && decide (j < (k : Int))) ∧ Below w.heap.size w wr) (fun iv _ => N - (intOf iv).toNat)
  case atStart => exact ⟨0, Nat.zero_le _, rfl, HM0.out, (Below.refl _ _).alloc (Nat.le_refl _) _⟩
  case round =>
    obtain ⟨k, hk, rfl, hmap, hbel⟩ := hrel
    have HM := Lib.hid hmap
    have HBEL := Lib.hid hbel
    clear hmap hbel
    by_cases hlt : k < N
    · go_wp2_with (at_mapUpdate; refine wp_put rfl _ _ _ rfl w.heap.size k _ rfl HM.out (by unfold maxLen; omega) (k : Int) (WalkArith.wf_i64 (by omega)) rfl rfl ?_; intro w1 hm1 hg1; have HM1 := Lib.hid (hm1.ext (fun j => up_step j k)); have HG1 := Lib.hid hg1; clear hm1 hg1)
      go_roundw
      case rel => exact ⟨k + 1, by omega, by go_num, HM1.out, below_grown HBEL.out HG1.out (Nat.le_refl _) HBEL.out.size⟩
      case measure => simp [intOf]; omega
    · obtain rfl : k = N := by omega
      have HM1 := Lib.hid (HM.out.ext (mis_start k))
      go_wp2
      refine wp_loop_rounds 1 ?_
      rw [rounds_succ]
      go_wp2
      go_ret
      exact ⟨rfl, HM1.out, HBEL.out⟩
theorem mis_any (w : World) (v : Value) (ps : List Pc) (N : Nat) (h : PRds w v ps) (hn2 : ps.length ≤ 1000) (hv : ps.all pcB = true) (hN1 : 1 ≤ N) (hN2 : N ≤ 60) :
    Calls Try.prog 30 #[v, .int .i64 N] w
      fun e w' => e = .returned (.map (some w.heap.size)) ∧ MapB w' w.heap.size N (mis ps N) ∧ Below w.heap.size w w' := by
  obtain ⟨A, c, rfl, h1⟩ := h
  rcases Nat.eq_zero_or_pos ps.length with h0 | h0
  · obtain rfl : ps = [] := List.eq_nil_of_length_eq_zero h0
    exact mis_nil w A c N hN1 hN2
  · obtain ⟨b, off, rfl, ha⟩ := h1 h0
    exact mis_at w b off c ps.length N ps rfl hn2 hv hN1 hN2 ha

/-- A row of the numbers that a map holds, from one of them on. -/
def Row (f : Int → Bool) (N : Nat) (p : Pc) : Prop := p.a < p.e ∧ (∀ j, p.a ≤ j → j < p.e → f j = true) ∧ f p.e = false ∧ p.m = decide (p.e < (N : Int))
set_option maxHeartbeats 1600000 in
theorem rowAt_any (w : World) (b n N : Nat) (f : Int → Bool) (x : Int) (h : MapB w b n f) (hf : ∀ j, f j = true → 0 ≤ j ∧ j < 60) (hx : f x = true) (hN : N ≤ 60) :
    Calls Try.prog 31 #[.map (some b), .int .i64 x, .int .i64 N] w
      fun e w' => ∃ p : Pc, e = .returned p.val ∧ p.a = x ∧ Row f N p ∧ Below w.heap.size w w' := by
  have HM := Lib.hid h
  have HF := Lib.hid hf
  have HX := Lib.hid hx
  have hx0 := hf x hx
  clear h hf hx
  go_enter Try.func31, Try.ntmps31
  go_wp2
  have HM1 := Lib.hid (HM.out.kept (World.grownBy_alloc w (.cells #[.int .i64 0, .int .i64 0, .bool false] 38) none) (by simp))
  have HB1 := Lib.hid ((Below.refl w.heap.size w).alloc (Nat.le_refl _) (.cells #[.int .i64 0, .int .i64 0, .bool false] 38))
  have HK1 := Lib.hid (Blk.new w 38 #[.int .i64 0, .int .i64 0, .bool false])
  generalize w.alloc (.cells #[.int .i64 0, .int .i64 0, .bool false] 38) = w1 at *
  have HL := Lib.hid (fun k hk => HM1.out.look k hk)
  go_loop [7] (fun ev => ∃ e : Int, ev = .int .i64 e ∧ x ≤ e ∧ e ≤ 60 ∧ (∀ j, x ≤ j → j < e → f j = true) ∧ (e = x → f e = true)) (fun ev => (61 - intOf ev).toNat)
  case atStart => exact ⟨x, rfl, by omega, by omega, fun j h1 h2 => by omega, fun _ => HX.out⟩
  case round =>
    obtain ⟨e, rfl, h1, h2, hall, hxx⟩ := hrel
    have HALL := Lib.hid hall
    have hl := HL.out e (WalkArith.wf_i64 (by omega))
    cases hfe : f e
    · rw [hfe] at hl hxx
      have hne : x < e := by
        rcases Int.lt_or_eq_of_le h1 with h | h
        · exact h
        · exact absurd (hxx h.symm) (by simp)
      have HFE := Lib.hid hfe
      clear hall hfe hxx
      have d0' := HK1.out.cell 0
      have d1' := HK1.out.cell 1
      have d2' := HK1.out.cell 2
      have f0' := HK1.out.frozen 0
      have f1' := HK1.out.frozen 1
      have f2' := HK1.out.frozen 2
      simp at d0' d1' d2'
      go_wp2
      exact bodyPost_ret (results_cell_row (p := 6) (ty := 38) rfl _ _ w.heap.size 38 #[.int .i64 x, .int .i64 (e - x), .bool (decide (e < (N : Int)))] (0, 0) _ rfl (by
        have := ((HK1.out.set_ 0 (.int .i64 x)).set_ 1 (.int .i64 (e - x))).set_ 2 (.bool (decide (e < (N : Int))))
        simp at this
        exact this) Try.underlying38 rfl (by kernel_rfl)) rfl ⟨⟨x, e - x, decide (e < (N : Int))⟩, rfl, rfl, by
          have he : Pc.e ⟨x, e - x, decide (e < (N : Int))⟩ = e := by show x + (e - x) = e; omega
          exact ⟨by rw [he]; exact hne, by rw [he]; exact HALL.out, by rw [he]; exact HFE.out, by rw [he]⟩, (((HB1.out.setCell (Nat.le_refl _) _).setCell (Nat.le_refl _) _).setCell (Nat.le_refl _) _)⟩
    · rw [hfe] at hl
      have hb := HF.out e hfe
      have HFE := Lib.hid hfe
      clear hall hfe hxx
      go_wp2
      go_round
      case rel => exact ⟨e + 1, rfl, by omega, by omega, fun j h3 h4 => by
        rcases (show j < e ∨ j = e from by omega) with h5 | h5
        · exact HALL.out j h3 h5
        · rw [h5]; exact HFE.out, fun h5 => by omega⟩
      case measure => simp [intOf]; omega
end Go.Proofs.Yteililppbnbfhaa
