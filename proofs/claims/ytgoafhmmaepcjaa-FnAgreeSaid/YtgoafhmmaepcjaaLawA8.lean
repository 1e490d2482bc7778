/-
  The walk of the law FnAgree: it returns true at every list of bytes. Conditions: the list is one that can be.
-/
import Derived.Test.YtgoafhmmaepcjaaWdag
import Derived.Test.YtgoafhmmaepcjaaLawA7
import Derived.BigQuiet
import Derived.Deep.QuietTactic
namespace Go.Proofs.Ytgoafhmmaepcjaa
open Go.RowKit
set_option linter.unusedVariables false

theorem ndf_comm (xs ys : List Int) : ndf ys xs = ndf xs ys := funext fun k => by unfold ndf; exact Nat.or_comm _ _
theorem caN_comm (o p : Ofr) : caN p o = caN o p := by unfold caN; exact Nat.and_comm _ _
theorem agB_comm (o p : Ofr) : agB p o = agB o p := by
  unfold agB
  rw [Int.min_comm p.hi o.hi, Int.max_comm p.lo o.lo]
  cases voB o <;> cases voB p <;> simp
theorem agX_comm (o p : Ofr) : agX p o = agX o p := by unfold agX; rw [agB_comm, Int.min_comm]
theorem agS_comm (o p : Ofr) : agS p o = agS o p := by unfold agS; rw [agB_comm, ndf_comm, caN_comm]
theorem ag_round {o p : Ofr} (h : agB o p = true) : bits .and .i64 o.ca p.ca = ((caN o p : Nat) : Int) ∧ caN o p < 32 ∧ o.nd.length = 5 ∧ p.nd.length = 5 ∧ ∀ (S : Nat), S = fx (ndf o.nd p.nd) (caN o p) → ∀ k, k < 5 → ∃ N : Nat, bits .or .i64 (o.nd.getD k 0) (p.nd.getD k 0) = (N : Int) ∧ N < 32 ∧
    (S.testBit k = true → bits .and .i64 (N : Int) (S : Int) = (N : Int)) ∧ (S.testBit k = false → (caN o p).testBit k = true → (bits .and .i64 (N : Int) (bits .or .i64 (S : Int) (p2 k)) == (N : Int)) = false) := by
  have h' := h
  simp only [agB, Bool.and_eq_true] at h'
  obtain ⟨h1, h2, _⟩ := h'
  obtain ⟨n1, c1, _⟩ := voB_parts h1
  obtain ⟨n2, c2, _⟩ := voB_parts h2
  have e := and_nat6 (a := o.ca.toNat) (b := p.ca.toNat) (by omega) (by omega)
  rw [Int.toNat_of_nonneg c1.1, Int.toNat_of_nonneg c2.1] at e
  have hC : caN o p < 32 := Nat.lt_of_le_of_lt Nat.and_le_left (by omega : o.ca.toNat < 32)
  refine ⟨e, hC, n1.1, n2.1, fun S hS k hk => ?_⟩
  obtain ⟨a1, a2⟩ := n1.get hk
  obtain ⟨b1, b2⟩ := n2.get hk
  have hN : ndf o.nd p.nd k < 32 := or_lt a2 b2
  have hSl : S < 32 := by rw [hS]; exact fx_lt hC
  have hpk : (2 : Nat) ^ k < 32 := by
    have : (2 : Nat) ^ k < 2 ^ 5 := Nat.pow_lt_pow_right (by omega) hk
    simpa using this
  refine ⟨ndf o.nd p.nd k, ?_, hN, fun ht => ?_, fun hf hc => ?_⟩
  · rw [a1, b1, or_nat6 a2 b2]; rfl
  · rw [and_nat6 hN hSl]
    subst hS
    rw [(fx_has ht).2]
  · have e1 : bits .or .i64 (S : Int) (p2 k) = ((S ||| 2 ^ k : Nat) : Int) := or_nat6 hSl hpk
    rw [e1, and_nat6 hN (or_lt hSl hpk)]
    refine beq_eq_false_iff_ne.2 (fun e2 => ?_)
    have e3 : ndf o.nd p.nd k &&& (S ||| 2 ^ k) = ndf o.nd p.nd k := by exact_mod_cast e2
    subst hS
    rw [fx_all hk hc e3] at hf
    cases hf

set_option maxRecDepth 50000 in
set_option maxHeartbeats 12800000 in
theorem fnAgree_walk (a : Option Addr) (len cap : Nat) (zs : List Int) (w : World) (h : IsRow .u8 w a len cap zs) :
    Calls Try.prog 10 #[.slice a len cap] w fun e w' => e = .returned (.bool true) ∧ Below w.heap.size w w' := by
  by_cases hg : (1048576 : Int) < (len : Int)
  · go_enter Try.func10, Try.ntmps10
    go_wp2_with fail
    go_ret
    exact ⟨rfl, Below.refl _ _⟩
  · have H := Lib.hid (dag_any w a len cap zs h)
    clear h
    go_enter Try.func10, Try.ntmps10
    go_wp2_with fail
    refine H.out.mono ?_
    rintro e w1 ⟨lo, hi, ca, A, c, xs, lo2, hi2, ca2, A2, c2, ys, rfl, hrd, hx5, hrd2, hy5, hb1⟩
    have hba := (Below.refl w1.heap.size w1).alloc (Nat.le_refl _) (.cells #[.int .i64 lo, .int .i64 hi, .int .i64 ca, .slice A xs.length c] 34)
    have hp := (Bo.new (o := ⟨lo, hi, ca, xs⟩) hrd).more ((Below.refl _ (w1.alloc (.cells #[.int .i64 lo, .int .i64 hi, .int .i64 ca, .slice A xs.length c] 34))).alloc (Nat.le_refl _) (.cells #[.int .i64 lo2, .int .i64 hi2, .int .i64 ca2, .slice A2 ys.length c2] 34))
    have hq := Bo.new (w := w1.alloc (.cells #[.int .i64 lo, .int .i64 hi, .int .i64 ca, .slice A xs.length c] 34)) (o := ⟨lo2, hi2, ca2, ys⟩) (hrd2.more6 hba)
    rw [World.size_alloc] at hq
    have HP1 := Lib.hid hp
    have HQ1 := Lib.hid hq
    have HB1 := Lib.hid ((hb1.alloc hb1.size (.cells #[.int .i64 lo, .int .i64 hi, .int .i64 ca, .slice A xs.length c] 34)).alloc (by have := hb1.size; simp; omega) (.cells #[.int .i64 lo2, .int .i64 hi2, .int .i64 ca2, .slice A2 ys.length c2] 34))
    have hI := fun W h h2 => iAG_any ⟨lo, hi, ca, xs⟩ ⟨lo2, hi2, ca2, ys⟩ (.slice A xs.length c) (.slice A2 ys.length c2) W h h2 (by show xs.length ≤ 1048576; omega) (by show ys.length ≤ 1048576; omega)
    have hS := fun W h h2 => sAG_any ⟨lo, hi, ca, xs⟩ ⟨lo2, hi2, ca2, ys⟩ (.slice A xs.length c) (.slice A2 ys.length c2) W h h2 (by show xs.length ≤ 1048576; omega) (by show ys.length ≤ 1048576; omega)
    have hJ := fun W h h2 => iAG_any ⟨lo2, hi2, ca2, ys⟩ ⟨lo, hi, ca, xs⟩ (.slice A2 ys.length c2) (.slice A xs.length c) W h h2 (by show ys.length ≤ 1048576; omega) (by show xs.length ≤ 1048576; omega)
    rw [agX_comm, agS_comm, agB_comm] at hJ
    have HFA := Lib.hid (agS_facts (o := ⟨lo, hi, ca, xs⟩) (p := ⟨lo2, hi2, ca2, ys⟩))
    have HRO := Lib.hid (ag_round (o := ⟨lo, hi, ca, xs⟩) (p := ⟨lo2, hi2, ca2, ys⟩))
    unfold ofv at hI hS hJ
    simp only at hI hS hJ
    generalize hab : agB ⟨lo, hi, ca, xs⟩ ⟨lo2, hi2, ca2, ys⟩ = bb at *
    generalize agX ⟨lo, hi, ca, xs⟩ ⟨lo2, hi2, ca2, ys⟩ = X at *
    generalize hgs : agS ⟨lo, hi, ca, xs⟩ ⟨lo2, hi2, ca2, ys⟩ = T at *
    have HI := Lib.hid hI
    have HS := Lib.hid hS
    have HJ := Lib.hid hJ
    clear hrd hrd2 hb1 hba hp hq H hI hS hJ hab hgs
    obtain ⟨p0, p1, p2', p3⟩ := HP1.out.a.c4
    obtain ⟨q0, q1, q2, q3⟩ := HQ1.out.a.c4
    simp only at p0 p1 p2' q0 q1 q2
    go_upto_region 4 with fail
    generalize (w1.alloc (.cells #[.int .i64 lo, .int .i64 hi, .int .i64 ca, .slice A xs.length c] 34)).alloc (.cells #[.int .i64 lo2, .int .i64 hi2, .int .i64 ca2, .slice A2 ys.length c2] 34) = w2 at *
    generalize w1.heap.size = q at *
    go_wp2_with fail
    refine (HI.out _ HP1.out.r HQ1.out.r).mono ?_
    rintro e w3 ⟨rfl, hb3⟩
    have HP3 := Lib.hid (HP1.out.more hb3)
    have HQ3 := Lib.hid (HQ1.out.more hb3)
    have HB3 := Lib.hid (HB1.out.trans (hb3.mono HB1.out.size))
    clear hb3 p0 p1 p2' p3 q0 q1 q2 q3 HP1 HQ1 HB1 HI
    obtain ⟨p0, p1, p2', p3⟩ := HP3.out.a.c4
    obtain ⟨q0, q1, q2, q3⟩ := HQ3.out.a.c4
    simp only at p0 p1 p2' q0 q1 q2
    go_wp2_with fail
    refine (HS.out _ HP3.out.r HQ3.out.r).mono ?_
    rintro e w4 ⟨rfl, hb4⟩
    have HP4 := Lib.hid (HP3.out.more hb4)
    have HQ4 := Lib.hid (HQ3.out.more hb4)
    have HB4 := Lib.hid (HB3.out.trans (hb4.mono HB3.out.size))
    clear hb4 p0 p1 p2' p3 q0 q1 q2 q3 HP3 HQ3 HB3 HS
    obtain ⟨p0, p1, p2', p3⟩ := HP4.out.a.c4
    obtain ⟨q0, q1, q2, q3⟩ := HQ4.out.a.c4
    simp only at p0 p1 p2' q0 q1 q2
    have hXX : (X != X) = false := by simp
    have hTT : (T != T) = false := by simp
    cases bb
    · go_wp2
      go_ret
      exact ⟨rfl, HB4.out⟩
    · obtain ⟨_, _, hX, hle, S, hS, hSf, hS32, hand1, hand2⟩ := HFA.out (by first | rfl | trivial)
      obtain ⟨hC, hC32, hn1, hn2, hrnd⟩ := HRO.out (by first | rfl | trivial)
      have HRN := Lib.hid (hrnd S hSf)
      try simp only at hX
      try simp only at hle
      try simp only at hand1
      try simp only at hand2
      try simp only at hC
      try simp only at hn1
      try simp only at hn2
      generalize caN ⟨lo, hi, ca, xs⟩ ⟨lo2, hi2, ca2, ys⟩ = C at *
      have hge1 : lo ≤ X := by omega
      have hge2 : lo2 ≤ X := by omega
      have HN1 := Lib.hid hn1
      have HN2 := Lib.hid hn2
      subst hS
      rw [hn1] at HP4 HJ p3
      rw [hn2] at HQ4 HJ q3
      clear hX hle hSf hrnd hXX hTT HFA HRO hn1 hn2 hx5 hy5
      rw [HN1.out, HN2.out]
      go_wp2_with fail
      refine (HJ.out _ HQ4.out.r HP4.out.r).mono ?_
      rintro e w5 ⟨rfl, hb5⟩
      have HP5 := Lib.hid (HP4.out.more hb5)
      have HQ5 := Lib.hid (HQ4.out.more hb5)
      have HB5 := Lib.hid (HB4.out.trans (hb5.mono HB4.out.size))
      clear hb5 p0 p1 p2' p3 q0 q1 q2 q3 HP4 HQ4 HB4 HJ
      obtain ⟨p0, p1, p2', p3⟩ := HP5.out.a.c4
      obtain ⟨q0, q1, q2, q3⟩ := HQ5.out.a.c4
      simp only at p0 p1 p2' q0 q1 q2
      have HR1 := Lib.hid HP5.out.r
      have HR2 := Lib.hid HQ5.out.r
      have HCE := Lib.hid (And.intro (And.intro p0 (And.intro p2' p3)) (And.intro q0 (And.intro q2 q3)))
      clear p0 p1 p2' p3 q0 q1 q2 q3 HP5 HQ5
      go_wp2
      go_loopw [14] (fun iv wr => ∃ k d : Nat, k ≤ 5 ∧ iv = .int .i64 k ∧ wr = w5.drewN d) (fun iv _ => 5 - (intOf iv).toNat)
      case atStart => exact ⟨0, 0, by omega, rfl, rfl⟩
      case round =>
        obtain ⟨k, d, hk, rfl, hwr⟩ := hrel
        have HWR := Lib.hid hwr
        obtain ⟨⟨p0, p2', p3⟩, q0, q2, q3⟩ := HCE.out
        have p0 : wr.cell? ⟨q, 0, none⟩ = some (.int .i64 lo) := by rw [hwr]; exact p0
        have p2' : wr.cell? ⟨q, 2, none⟩ = some (.int .i64 ca) := by rw [hwr]; exact p2'
        have p3 : wr.cell? ⟨q, 3, none⟩ = some (.slice A 5 c) := by rw [hwr]; exact p3
        have q0 : wr.cell? ⟨q + 1, 0, none⟩ = some (.int .i64 lo2) := by rw [hwr]; exact q0
        have q2 : wr.cell? ⟨q + 1, 2, none⟩ = some (.int .i64 ca2) := by rw [hwr]; exact q2
        have q3 : wr.cell? ⟨q + 1, 3, none⟩ = some (.slice A2 5 c2) := by rw [hwr]; exact q3
        by_cases hlt : k < 5
        · obtain ⟨N, hor, hN, hy, hn⟩ := HRN.out k hlt
          have hx : ∃ b off, A = some ⟨b, off, none⟩ ∧ wr.cell? ⟨b, off + k, none⟩ = some (.int .i64 (xs.getD k 0)) := by
            obtain ⟨A', c', e1, h1⟩ := HR1.out
            injection e1 with e2 _ _
            obtain ⟨b, off, e3, ha⟩ := h1 (by rw [HN1.out]; omega)
            exact ⟨b, off, by rw [e2, e3], by rw [hwr]; exact ha.2 k (by rw [HN1.out]; omega)⟩
          have hy2 : ∃ b off, A2 = some ⟨b, off, none⟩ ∧ wr.cell? ⟨b, off + k, none⟩ = some (.int .i64 (ys.getD k 0)) := by
            obtain ⟨A', c', e1, h1⟩ := HR2.out
            injection e1 with e2 _ _
            obtain ⟨b, off, e3, ha⟩ := h1 (by rw [HN2.out]; omega)
            exact ⟨b, off, by rw [e2, e3], by rw [hwr]; exact ha.2 k (by rw [HN2.out]; omega)⟩
          obtain ⟨b1, off1, rfl, hx⟩ := hx
          obtain ⟨b2, off2, rfl, hy2⟩ := hy2
          generalize xs.getD k 0 = x at *
          generalize ys.getD k 0 = y at *
          have HS1 := Lib.hid (fun W => lbt_any S k (by omega) (by omega) W)
          have HC1 := Lib.hid (fun W => lbt_any C k (by omega) (by omega) W)
          have HPW := Lib.hid (fun W => lpw_any k (by omega) W)
          have hNN : ((N : Int) != (N : Int)) = false := by simp
          have hk5 : (k : Int) < (5 : Int) := by omega
          rw [bt_val] at HS1 HC1
          clear hwr
          have HY := Lib.hid hy
          have HNO := Lib.hid hn
          clear hy hn
          generalize (N : Int) = n at *
          cases hsb : S.testBit k
          · rw [hsb] at HS1 HNO
            simp only [Bool.false_eq_true, if_false] at HS1
            cases hcb : C.testBit k
            · rw [hcb] at HC1
              simp only [Bool.false_eq_true, if_false] at HC1
              clear hsb hcb HY HNO
              go_wp2
              go_quiet (fail)
              go_wp2_with fail
              refine (HS1.out _).mono ?_
              rintro e w' ⟨rfl, rfl⟩
              go_wp2_with fail
              refine (HC1.out _).mono ?_
              rintro e w' ⟨rfl, rfl⟩
              go_wp2
              go_roundw
              case rel => exact ⟨k + 1, d + nq, by omega, by go_num, by rw [HWR.out, World.drewN_drewN]⟩
              case measure => simp [intOf]; omega
            · rw [hcb] at HC1 HNO
              simp only [if_true] at HC1
              have hno := HNO.out (by first | rfl | trivial) (by first | rfl | trivial)
              clear hsb hcb HY HNO
              go_wp2
              go_quiet (fail)
              go_wp2_with fail
              refine (HS1.out _).mono ?_
              rintro e w' ⟨rfl, rfl⟩
              go_wp2_with fail
              refine (HC1.out _).mono ?_
              rintro e w' ⟨rfl, rfl⟩
              go_wp2_with fail
              refine (HS1.out _).mono ?_
              rintro e w' ⟨rfl, rfl⟩
              go_wp2_with fail
              refine (HPW.out _).mono ?_
              rintro e w' ⟨rfl, rfl⟩
              generalize p2 k = pk at *
              go_wp2
              go_roundw
              case rel => exact ⟨k + 1, d + nq, by omega, by go_num, by rw [HWR.out, World.drewN_drewN]⟩
              case measure => simp [intOf]; omega
          · rw [hsb] at HS1 HY
            simp only [if_true] at HS1
            have hyy := HY.out (by first | rfl | trivial)
            cases hcb : C.testBit k
            · rw [hcb] at HC1
              simp only [Bool.false_eq_true, if_false] at HC1
              clear hsb hcb HY HNO
              go_wp2
              go_quiet (fail)
              go_wp2_with fail
              refine (HS1.out _).mono ?_
              rintro e w' ⟨rfl, rfl⟩
              go_wp2_with fail
              refine (HC1.out _).mono ?_
              rintro e w' ⟨rfl, rfl⟩
              go_wp2
              go_roundw
              case rel => exact ⟨k + 1, d + nq, by omega, by go_num, by rw [HWR.out, World.drewN_drewN]⟩
              case measure => simp [intOf]; omega
            · rw [hcb] at HC1
              simp only [if_true] at HC1
              clear hsb hcb HY HNO
              go_wp2
              go_quiet (fail)
              go_wp2_with fail
              refine (HS1.out _).mono ?_
              rintro e w' ⟨rfl, rfl⟩
              go_wp2_with fail
              refine (HC1.out _).mono ?_
              rintro e w' ⟨rfl, rfl⟩
              go_wp2_with fail
              refine (HS1.out _).mono ?_
              rintro e w' ⟨rfl, rfl⟩
              go_wp2
              go_roundw
              case rel => exact ⟨k + 1, d + nq, by omega, by go_num, by rw [HWR.out, World.drewN_drewN]⟩
              case measure => simp [intOf]; omega
        · clear hwr
          go_wp2
          go_ret
          exact ⟨rfl, by rw [HWR.out]; exact below_drewN HB5.out d⟩
end Go.Proofs.Ytgoafhmmaepcjaa
