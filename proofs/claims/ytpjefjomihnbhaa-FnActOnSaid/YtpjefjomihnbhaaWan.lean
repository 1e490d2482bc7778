/-
  The walk of the law FnActOn, given what its draw answers. Condition: the draw's contract.
-/
import Derived.Test.YtpjefjomihnbhaaWam
import Derived.Test.YtpjefjomihnbhaaWrl
namespace Go.Proofs.Ytpjefjomihnbhaa
open Go.RowKit
set_option linter.unusedVariables false

/-- What the draw of ActOn's arguments answers. -/
def DaPost (w : World) (e : Ending) (w' : World) : Prop :=
  ∃ (n a k m kn s d h da wo : Int) (act : Nat), e = .returned (.tuple #[.agg #[.int .i64 n, .int .i64 a, .int .i64 k, .int .i64 m], .agg #[.int .i64 kn, .int .i64 s, .int .i64 d, .int .i64 h, .int .i64 da, .int .i64 wo], .int .u8 (act : Int)]) ∧ act ≤ 255 ∧ Below w.heap.size w w'

theorem neq_same (r : Lk) (W : World) : (binOp .neq 26 (.agg #[.int .i64 r.kn, .int .i64 r.s, .int .i64 r.d, .int .i64 r.h, .int .i64 r.da, .int .i64 r.wo]) (.agg #[.int .i64 r.kn, .int .i64 r.s, .int .i64 r.d, .int .i64 r.h, .int .i64 r.da, .int .i64 r.wo])).run Try.prog W = .ok (.bool false) W := by
  have := neq_links r r W
  simpa using this
theorem eql_same (r : Lk) (W : World) : (binOp .eql 26 (.agg #[.int .i64 r.kn, .int .i64 r.s, .int .i64 r.d, .int .i64 r.h, .int .i64 r.da, .int .i64 r.wo]) (.agg #[.int .i64 r.kn, .int .i64 r.s, .int .i64 r.d, .int .i64 r.h, .int .i64 r.da, .int .i64 r.wo])).run Try.prog W = .ok (.bool true) W := by
  obtain ⟨x0, x1, x2, x3, x4, x5⟩ := r
  simp only
  go_simp

set_option maxRecDepth 20000 in
set_option maxHeartbeats 6400000 in
theorem fnActOn_walk0 (a : Option Addr) (len cap : Nat) (w : World) (hd : Calls Try.prog 4 #[.slice a len cap] w (DaPost w)) :
    Calls Try.prog 3 #[.slice a len cap] w fun e w' => e = .returned (.bool true) ∧ Below w.heap.size w w' := by
  by_cases hg : (1048576 : Int) < (len : Int)
  · go_enter Try.func3, Try.ntmps3
    go_wp2_with fail
    go_ret
    exact ⟨rfl, Below.refl _ _⟩
  · have H := Lib.hid hd
    clear hd
    go_enter Try.func3, Try.ntmps3
    go_wp2_with fail
    refine H.out.mono ?_
    rintro e w1 ⟨n, a', k, m, kn, s, d, h, da, wo, act, rfl, ha, hb1⟩
    clear H
    have HI := Lib.hid (fun W => iAO_any n a' k m kn s d h da wo W act ha)
    have HS := Lib.hid (fun W => sAO_any n a' k m kn s d h da wo W act ha)
    have HZ : Hid (∀ W, Calls Try.prog 5 #[.agg #[.int .i64 n, .int .i64 a', .int .i64 k, .int .i64 m], .agg #[.int .i64 kn, .int .i64 s, .int .i64 d, .int .i64 h, .int .i64 da, .int .i64 wo], .int .u8 122] W fun e w' => e = .returned (.tuple #[lv (aoL ⟨n, a', k, m⟩ ⟨kn, s, d, h, da, wo⟩ 122), .bool (aoM ⟨n, a', k, m⟩ ⟨kn, s, d, h, da, wo⟩ 122), .bool (aoR ⟨n, a', k, m⟩ ⟨kn, s, d, h, da, wo⟩ 122)]) ∧ Below W.heap.size W w') := Lib.hid (fun W => iAO_any n a' k m kn s d h da wo W 122 (by omega))
    unfold lv at HI HS HZ
    have HK := Lib.hid (fun hz => ao_ok (p := ⟨n, a', k, m⟩) (l := ⟨kn, s, d, h, da, wo⟩) hz)
    have HB := Lib.hid (fun hz => ao_bad (p := ⟨n, a', k, m⟩) (l := ⟨kn, s, d, h, da, wo⟩) hz act)
    have HN := Lib.hid (fun hz hm => ao_not (p := ⟨n, a', k, m⟩) (l := ⟨kn, s, d, h, da, wo⟩) hz act hm)
    have HM := Lib.hid (fun hz hm => ao_may (p := ⟨n, a', k, m⟩) (l := ⟨kn, s, d, h, da, wo⟩) hz act hm)
    generalize aoL ⟨n, a', k, m⟩ ⟨kn, s, d, h, da, wo⟩ act = r at HI HS HN HM
    generalize aoM ⟨n, a', k, m⟩ ⟨kn, s, d, h, da, wo⟩ act = b1 at HI HS HB HN HM
    generalize aoR ⟨n, a', k, m⟩ ⟨kn, s, d, h, da, wo⟩ act = b2 at HI HS HB HN HM
    generalize aoR ⟨n, a', k, m⟩ ⟨kn, s, d, h, da, wo⟩ 122 = z2 at HZ HK HB HN HM
    generalize aoM ⟨n, a', k, m⟩ ⟨kn, s, d, h, da, wo⟩ 122 = z1 at HZ
    generalize aoL ⟨n, a', k, m⟩ ⟨kn, s, d, h, da, wo⟩ 122 = rz at HZ
    have HT1 := Lib.hid (Two2.new w1 #[.int .i64 n, .int .i64 a', .int .i64 k, .int .i64 m] #[.int .i64 kn, .int .i64 s, .int .i64 d, .int .i64 h, .int .i64 da, .int .i64 wo])
    have HRR := Lib.hid (fun W => neq_same r W)
    go_wp2_with fail
    refine (HI.out _).mono ?_
    rintro e w2 ⟨rfl, hb2⟩
    have HT2 := Lib.hid ((HT1.out.more hb2).more ((Below.refl w2.heap.size w2).alloc (Nat.le_refl _) (.cells #[.int .i64 r.kn, .int .i64 r.s, .int .i64 r.d, .int .i64 r.h, .int .i64 r.da, .int .i64 r.wo] 26)))
    have HO2 := Lib.hid (Blk.new w2 26 #[.int .i64 r.kn, .int .i64 r.s, .int .i64 r.d, .int .i64 r.h, .int .i64 r.da, .int .i64 r.wo])
    have hz2 : w1.heap.size + 2 ≤ w2.heap.size := (HT1.out.more hb2).z
    clear hb2
    go_upto_region 5 with fail
    generalize (w2.alloc (.cells #[.int .i64 r.kn, .int .i64 r.s, .int .i64 r.d, .int .i64 r.h, .int .i64 r.da, .int .i64 r.wo] 26)) = v2 at *
    obtain ⟨p0, p1, p2, p3⟩ := HT2.out.p.c4
    obtain ⟨l0, l1, l2, l3, l4, l5⟩ := HT2.out.l.c6
    go_wp2_with fail
    refine (HS.out _).mono ?_
    rintro e w3 ⟨rfl, hb3⟩
    have HT3 := Lib.hid ((HT2.out.more hb3).more ((Below.refl w3.heap.size w3).alloc (Nat.le_refl _) (.cells #[.int .i64 r.kn, .int .i64 r.s, .int .i64 r.d, .int .i64 r.h, .int .i64 r.da, .int .i64 r.wo] 26)))
    have HO3 := Lib.hid ((HO2.out.below hb3 HO2.out.lt).alloc (.cells #[.int .i64 r.kn, .int .i64 r.s, .int .i64 r.d, .int .i64 r.h, .int .i64 r.da, .int .i64 r.wo] 26))
    have HQ3 := Lib.hid (Blk.new w3 26 #[.int .i64 r.kn, .int .i64 r.s, .int .i64 r.d, .int .i64 r.h, .int .i64 r.da, .int .i64 r.wo])
    clear hb3 p0 p1 p2 p3 l0 l1 l2 l3 l4 l5
    go_upto_region 6 with fail
    generalize (w3.alloc (.cells #[.int .i64 r.kn, .int .i64 r.s, .int .i64 r.d, .int .i64 r.h, .int .i64 r.da, .int .i64 r.wo] 26)) = v3 at *
    obtain ⟨p0, p1, p2, p3⟩ := HT3.out.p.c4
    obtain ⟨l0, l1, l2, l3, l4, l5⟩ := HT3.out.l.c6
    obtain ⟨o0, o1, o2, o3, o4, o5⟩ := HO3.out.c6
    obtain ⟨q0, q1, q2, q3, q4, q5⟩ := HQ3.out.c6
    have hrr := HRR.out
    cases z2
    · obtain ⟨rfl, rfl⟩ := HB.out rfl
      clear HB HN HM
      go_wp2_with fail
      refine (HZ.out _).mono ?_
      rintro e w4 ⟨rfl, hb4⟩
      have HT4 := Lib.hid ((HT3.out.more hb4).more ((Below.refl w4.heap.size w4).alloc (Nat.le_refl _) (.cells #[.int .i64 rz.kn, .int .i64 rz.s, .int .i64 rz.d, .int .i64 rz.h, .int .i64 rz.da, .int .i64 rz.wo] 26)))
      have HO4 := Lib.hid ((HO3.out.below hb4 HO3.out.lt).alloc (.cells #[.int .i64 rz.kn, .int .i64 rz.s, .int .i64 rz.d, .int .i64 rz.h, .int .i64 rz.da, .int .i64 rz.wo] 26))
      clear hb4 p0 p1 p2 p3 l0 l1 l2 l3 l4 l5 o0 o1 o2 o3 o4 o5 q0 q1 q2 q3 q4 q5
      go_upto_region 9 with fail
      generalize (w4.alloc (.cells #[.int .i64 rz.kn, .int .i64 rz.s, .int .i64 rz.d, .int .i64 rz.h, .int .i64 rz.da, .int .i64 rz.wo] 26)) = v4 at *
      obtain ⟨l0, l1, l2, l3, l4, l5⟩ := HT4.out.l.c6
      obtain ⟨o0, o1, o2, o3, o4, o5⟩ := HO4.out.c6
      go_wp2
      go_ret
      exact ⟨rfl, hb1.trans (HT4.out.b.mono hb1.size)⟩
    · cases b1
      · obtain ⟨hrl, rfl⟩ := HN.out rfl rfl
        have hll : ∀ W, (binOp .eql 26 (.agg #[.int .i64 r.kn, .int .i64 r.s, .int .i64 r.d, .int .i64 r.h, .int .i64 r.da, .int .i64 r.wo]) (.agg #[.int .i64 kn, .int .i64 s, .int .i64 d, .int .i64 h, .int .i64 da, .int .i64 wo])).run Try.prog W = .ok (.bool true) W := by
          subst hrl; exact fun W => eql_same _ W
        have HLL := Lib.hid hll
        clear HB HN HM hll
        go_wp2_with fail
        refine (HZ.out _).mono ?_
        rintro e w4 ⟨rfl, hb4⟩
        have HT4 := Lib.hid ((HT3.out.more hb4).more ((Below.refl w4.heap.size w4).alloc (Nat.le_refl _) (.cells #[.int .i64 rz.kn, .int .i64 rz.s, .int .i64 rz.d, .int .i64 rz.h, .int .i64 rz.da, .int .i64 rz.wo] 26)))
        have HO4 := Lib.hid ((HO3.out.below hb4 HO3.out.lt).alloc (.cells #[.int .i64 rz.kn, .int .i64 rz.s, .int .i64 rz.d, .int .i64 rz.h, .int .i64 rz.da, .int .i64 rz.wo] 26))
        clear hb4 p0 p1 p2 p3 l0 l1 l2 l3 l4 l5 o0 o1 o2 o3 o4 o5 q0 q1 q2 q3 q4 q5
        go_upto_region 9 with fail
        generalize (w4.alloc (.cells #[.int .i64 rz.kn, .int .i64 rz.s, .int .i64 rz.d, .int .i64 rz.h, .int .i64 rz.da, .int .i64 rz.wo] 26)) = v4 at *
        obtain ⟨l0, l1, l2, l3, l4, l5⟩ := HT4.out.l.c6
        obtain ⟨o0, o1, o2, o3, o4, o5⟩ := HO4.out.c6
        have hll := HLL.out
        go_wp2
        go_ret
        exact ⟨rfl, hb1.trans (HT4.out.b.mono hb1.size)⟩
      · have hP := HM.out rfl rfl
        obtain ⟨hvp, i1, i2, i3, i4, i5, i6, i7, i8, i9, i10, i11, i12, i13, i14⟩ := HK.out rfl
        have hs5 : 0 ≤ s ∧ s ≤ 5 := by simp [vpB] at hvp; simp at i1 i2 i3 i4; omega
        clear HB HN HM hvp i1 i2 i3 i4 i5 i6 i7 i8 i9 i10 i11 i12 i13 i14
        have HS5 := Lib.hid hs5
        have HP := Lib.hid hP
        clear hs5 hP
        cases b2
        · by_cases ha115 : act = 115
          · have hP := HP.out
            rw [actP, if_pos ha115] at hP
            exact absurd hP.1 (by simp)
          · skip
            by_cases ha120 : act = 120
            · have hP := HP.out
              rw [actP, if_neg ha115] at hP
              rw [if_pos ha120] at hP
              exact absurd hP.1 (by simp)
            · skip
              by_cases ha121 : act = 121
              · have hP := HP.out
                rw [actP, if_neg ha115] at hP
                rw [if_neg ha120] at hP
                rw [if_pos ha121] at hP
                exact absurd hP.1 (by simp)
              · skip
                by_cases ha100 : act = 100
                · go_wp2_with fail
                  refine (HZ.out _).mono ?_
                  rintro e w4 ⟨rfl, hb4⟩
                  have HT4 := Lib.hid ((HT3.out.more hb4).more ((Below.refl w4.heap.size w4).alloc (Nat.le_refl _) (.cells #[.int .i64 rz.kn, .int .i64 rz.s, .int .i64 rz.d, .int .i64 rz.h, .int .i64 rz.da, .int .i64 rz.wo] 26)))
                  have HO4 := Lib.hid ((HO3.out.below hb4 HO3.out.lt).alloc (.cells #[.int .i64 rz.kn, .int .i64 rz.s, .int .i64 rz.d, .int .i64 rz.h, .int .i64 rz.da, .int .i64 rz.wo] 26))
                  clear hb4 p0 p1 p2 p3 l0 l1 l2 l3 l4 l5 o0 o1 o2 o3 o4 o5 q0 q1 q2 q3 q4 q5
                  go_upto_region 9 with fail
                  generalize (w4.alloc (.cells #[.int .i64 rz.kn, .int .i64 rz.s, .int .i64 rz.d, .int .i64 rz.h, .int .i64 rz.da, .int .i64 rz.wo] 26)) = v4 at *
                  obtain ⟨l0, l1, l2, l3, l4, l5⟩ := HT4.out.l.c6
                  obtain ⟨o0, o1, o2, o3, o4, o5⟩ := HO4.out.c6
                  have hP := HP.out
                  rw [actP, if_neg ha115] at hP
                  rw [if_neg ha120] at hP
                  rw [if_neg ha121] at hP
                  rw [if_pos ha100] at hP
                  have hi115 : ¬ (act : Int) = 115 := by omega
                  have hi120 : ¬ (act : Int) = 120 := by omega
                  have hi121 : ¬ (act : Int) = 121 := by omega
                  have hi100 : (act : Int) = 100 := by omega
                  obtain ⟨e1, e2, e3⟩ := hP
                  go_wp2
                  go_ret
                  exact ⟨rfl, hb1.trans (HT4.out.b.mono hb1.size)⟩
                · skip
                  by_cases ha97 : act = 97
                  · have hP := HP.out
                    rw [actP, if_neg ha115] at hP
                    rw [if_neg ha120] at hP
                    rw [if_neg ha121] at hP
                    rw [if_neg ha100] at hP
                    rw [if_pos ha97] at hP
                    exact absurd hP.1 (by simp)
                  · skip
                    · have hP := HP.out
                      rw [actP, if_neg ha115] at hP
                      rw [if_neg ha120] at hP
                      rw [if_neg ha121] at hP
                      rw [if_neg ha100] at hP
                      rw [if_neg ha97] at hP
                      exact absurd hP.1 (by simp)
        · by_cases ha115 : act = 115
          · go_wp2_with fail
            refine (HZ.out _).mono ?_
            rintro e w4 ⟨rfl, hb4⟩
            have HT4 := Lib.hid ((HT3.out.more hb4).more ((Below.refl w4.heap.size w4).alloc (Nat.le_refl _) (.cells #[.int .i64 rz.kn, .int .i64 rz.s, .int .i64 rz.d, .int .i64 rz.h, .int .i64 rz.da, .int .i64 rz.wo] 26)))
            have HO4 := Lib.hid ((HO3.out.below hb4 HO3.out.lt).alloc (.cells #[.int .i64 rz.kn, .int .i64 rz.s, .int .i64 rz.d, .int .i64 rz.h, .int .i64 rz.da, .int .i64 rz.wo] 26))
            clear hb4 p0 p1 p2 p3 l0 l1 l2 l3 l4 l5 o0 o1 o2 o3 o4 o5 q0 q1 q2 q3 q4 q5
            go_upto_region 9 with fail
            generalize (w4.alloc (.cells #[.int .i64 rz.kn, .int .i64 rz.s, .int .i64 rz.d, .int .i64 rz.h, .int .i64 rz.da, .int .i64 rz.wo] 26)) = v4 at *
            obtain ⟨l0, l1, l2, l3, l4, l5⟩ := HT4.out.l.c6
            obtain ⟨o0, o1, o2, o3, o4, o5⟩ := HO4.out.c6
            have hP := HP.out
            rw [actP, if_pos ha115] at hP
            have hi115 : (act : Int) = 115 := by omega
            obtain ⟨-, e1, e2⟩ := hP
            have ew : IntKind.i64.wrap (s + 1) = s + 1 := IntWalk.i64_in _ (by have := HS5.out; omega)
            go_wp2
            go_ret
            exact ⟨rfl, hb1.trans (HT4.out.b.mono hb1.size)⟩
          · skip
            by_cases ha120 : act = 120
            · go_wp2_with fail
              refine (HZ.out _).mono ?_
              rintro e w4 ⟨rfl, hb4⟩
              have HT4 := Lib.hid ((HT3.out.more hb4).more ((Below.refl w4.heap.size w4).alloc (Nat.le_refl _) (.cells #[.int .i64 rz.kn, .int .i64 rz.s, .int .i64 rz.d, .int .i64 rz.h, .int .i64 rz.da, .int .i64 rz.wo] 26)))
              have HO4 := Lib.hid ((HO3.out.below hb4 HO3.out.lt).alloc (.cells #[.int .i64 rz.kn, .int .i64 rz.s, .int .i64 rz.d, .int .i64 rz.h, .int .i64 rz.da, .int .i64 rz.wo] 26))
              clear hb4 p0 p1 p2 p3 l0 l1 l2 l3 l4 l5 o0 o1 o2 o3 o4 o5 q0 q1 q2 q3 q4 q5
              go_upto_region 9 with fail
              generalize (w4.alloc (.cells #[.int .i64 rz.kn, .int .i64 rz.s, .int .i64 rz.d, .int .i64 rz.h, .int .i64 rz.da, .int .i64 rz.wo] 26)) = v4 at *
              obtain ⟨l0, l1, l2, l3, l4, l5⟩ := HT4.out.l.c6
              obtain ⟨o0, o1, o2, o3, o4, o5⟩ := HO4.out.c6
              have hP := HP.out
              rw [actP, if_neg ha115] at hP
              rw [if_pos ha120] at hP
              have hi115 : ¬ (act : Int) = 115 := by omega
              have hi120 : (act : Int) = 120 := by omega
              obtain ⟨-, e1, e2⟩ := hP
              go_wp2
              go_ret
              exact ⟨rfl, hb1.trans (HT4.out.b.mono hb1.size)⟩
            · skip
              by_cases ha121 : act = 121
              · go_wp2_with fail
                refine (HZ.out _).mono ?_
                rintro e w4 ⟨rfl, hb4⟩
                have HT4 := Lib.hid ((HT3.out.more hb4).more ((Below.refl w4.heap.size w4).alloc (Nat.le_refl _) (.cells #[.int .i64 rz.kn, .int .i64 rz.s, .int .i64 rz.d, .int .i64 rz.h, .int .i64 rz.da, .int .i64 rz.wo] 26)))
                have HO4 := Lib.hid ((HO3.out.below hb4 HO3.out.lt).alloc (.cells #[.int .i64 rz.kn, .int .i64 rz.s, .int .i64 rz.d, .int .i64 rz.h, .int .i64 rz.da, .int .i64 rz.wo] 26))
                clear hb4 p0 p1 p2 p3 l0 l1 l2 l3 l4 l5 o0 o1 o2 o3 o4 o5 q0 q1 q2 q3 q4 q5
                go_upto_region 9 with fail
                generalize (w4.alloc (.cells #[.int .i64 rz.kn, .int .i64 rz.s, .int .i64 rz.d, .int .i64 rz.h, .int .i64 rz.da, .int .i64 rz.wo] 26)) = v4 at *
                obtain ⟨l0, l1, l2, l3, l4, l5⟩ := HT4.out.l.c6
                obtain ⟨o0, o1, o2, o3, o4, o5⟩ := HO4.out.c6
                have hP := HP.out
                rw [actP, if_neg ha115] at hP
                rw [if_neg ha120] at hP
                rw [if_pos ha121] at hP
                have hi115 : ¬ (act : Int) = 115 := by omega
                have hi120 : ¬ (act : Int) = 120 := by omega
                have hi121 : (act : Int) = 121 := by omega
                obtain ⟨-, e1, e2⟩ := hP
                go_wp2
                go_ret
                exact ⟨rfl, hb1.trans (HT4.out.b.mono hb1.size)⟩
              · skip
                by_cases ha100 : act = 100
                · go_wp2_with fail
                  refine (HZ.out _).mono ?_
                  rintro e w4 ⟨rfl, hb4⟩
                  have HT4 := Lib.hid ((HT3.out.more hb4).more ((Below.refl w4.heap.size w4).alloc (Nat.le_refl _) (.cells #[.int .i64 rz.kn, .int .i64 rz.s, .int .i64 rz.d, .int .i64 rz.h, .int .i64 rz.da, .int .i64 rz.wo] 26)))
                  have HO4 := Lib.hid ((HO3.out.below hb4 HO3.out.lt).alloc (.cells #[.int .i64 rz.kn, .int .i64 rz.s, .int .i64 rz.d, .int .i64 rz.h, .int .i64 rz.da, .int .i64 rz.wo] 26))
                  clear hb4 p0 p1 p2 p3 l0 l1 l2 l3 l4 l5 o0 o1 o2 o3 o4 o5 q0 q1 q2 q3 q4 q5
                  go_upto_region 9 with fail
                  generalize (w4.alloc (.cells #[.int .i64 rz.kn, .int .i64 rz.s, .int .i64 rz.d, .int .i64 rz.h, .int .i64 rz.da, .int .i64 rz.wo] 26)) = v4 at *
                  obtain ⟨l0, l1, l2, l3, l4, l5⟩ := HT4.out.l.c6
                  obtain ⟨o0, o1, o2, o3, o4, o5⟩ := HO4.out.c6
                  have hP := HP.out
                  rw [actP, if_neg ha115] at hP
                  rw [if_neg ha120] at hP
                  rw [if_neg ha121] at hP
                  rw [if_pos ha100] at hP
                  have hi115 : ¬ (act : Int) = 115 := by omega
                  have hi120 : ¬ (act : Int) = 120 := by omega
                  have hi121 : ¬ (act : Int) = 121 := by omega
                  have hi100 : (act : Int) = 100 := by omega
                  obtain ⟨e1, e2, e3⟩ := hP
                  replace e3 : r.wo = r.d := by simpa using e3
                  go_wp2
                  go_ret
                  exact ⟨rfl, hb1.trans (HT4.out.b.mono hb1.size)⟩
                · skip
                  by_cases ha97 : act = 97
                  · go_wp2_with fail
                    refine (HZ.out _).mono ?_
                    rintro e w4 ⟨rfl, hb4⟩
                    have HT4 := Lib.hid ((HT3.out.more hb4).more ((Below.refl w4.heap.size w4).alloc (Nat.le_refl _) (.cells #[.int .i64 rz.kn, .int .i64 rz.s, .int .i64 rz.d, .int .i64 rz.h, .int .i64 rz.da, .int .i64 rz.wo] 26)))
                    have HO4 := Lib.hid ((HO3.out.below hb4 HO3.out.lt).alloc (.cells #[.int .i64 rz.kn, .int .i64 rz.s, .int .i64 rz.d, .int .i64 rz.h, .int .i64 rz.da, .int .i64 rz.wo] 26))
                    clear hb4 p0 p1 p2 p3 l0 l1 l2 l3 l4 l5 o0 o1 o2 o3 o4 o5 q0 q1 q2 q3 q4 q5
                    go_upto_region 9 with fail
                    generalize (w4.alloc (.cells #[.int .i64 rz.kn, .int .i64 rz.s, .int .i64 rz.d, .int .i64 rz.h, .int .i64 rz.da, .int .i64 rz.wo] 26)) = v4 at *
                    obtain ⟨l0, l1, l2, l3, l4, l5⟩ := HT4.out.l.c6
                    obtain ⟨o0, o1, o2, o3, o4, o5⟩ := HO4.out.c6
                    have hP := HP.out
                    rw [actP, if_neg ha115] at hP
                    rw [if_neg ha120] at hP
                    rw [if_neg ha121] at hP
                    rw [if_neg ha100] at hP
                    rw [if_pos ha97] at hP
                    have hi115 : ¬ (act : Int) = 115 := by omega
                    have hi120 : ¬ (act : Int) = 120 := by omega
                    have hi121 : ¬ (act : Int) = 121 := by omega
                    have hi100 : ¬ (act : Int) = 100 := by omega
                    have hi97 : (act : Int) = 97 := by omega
                    obtain ⟨-, e1, e2⟩ := hP
                    go_wp2
                    go_ret
                    exact ⟨rfl, hb1.trans (HT4.out.b.mono hb1.size)⟩
                  · skip
                    · go_wp2_with fail
                      refine (HZ.out _).mono ?_
                      rintro e w4 ⟨rfl, hb4⟩
                      have HT4 := Lib.hid ((HT3.out.more hb4).more ((Below.refl w4.heap.size w4).alloc (Nat.le_refl _) (.cells #[.int .i64 rz.kn, .int .i64 rz.s, .int .i64 rz.d, .int .i64 rz.h, .int .i64 rz.da, .int .i64 rz.wo] 26)))
                      have HO4 := Lib.hid ((HO3.out.below hb4 HO3.out.lt).alloc (.cells #[.int .i64 rz.kn, .int .i64 rz.s, .int .i64 rz.d, .int .i64 rz.h, .int .i64 rz.da, .int .i64 rz.wo] 26))
                      clear hb4 p0 p1 p2 p3 l0 l1 l2 l3 l4 l5 o0 o1 o2 o3 o4 o5 q0 q1 q2 q3 q4 q5
                      go_upto_region 9 with fail
                      generalize (w4.alloc (.cells #[.int .i64 rz.kn, .int .i64 rz.s, .int .i64 rz.d, .int .i64 rz.h, .int .i64 rz.da, .int .i64 rz.wo] 26)) = v4 at *
                      obtain ⟨l0, l1, l2, l3, l4, l5⟩ := HT4.out.l.c6
                      obtain ⟨o0, o1, o2, o3, o4, o5⟩ := HO4.out.c6
                      have hP := HP.out
                      rw [actP, if_neg ha115] at hP
                      rw [if_neg ha120] at hP
                      rw [if_neg ha121] at hP
                      rw [if_neg ha100] at hP
                      rw [if_neg ha97] at hP
                      have hi115 : ¬ (act : Int) = 115 := by omega
                      have hi120 : ¬ (act : Int) = 120 := by omega
                      have hi121 : ¬ (act : Int) = 121 := by omega
                      have hi100 : ¬ (act : Int) = 100 := by omega
                      have hi97 : ¬ (act : Int) = 97 := by omega
                      obtain ⟨-, e1, e2⟩ := hP
                      go_wp2
                      go_ret
                      exact ⟨rfl, hb1.trans (HT4.out.b.mono hb1.size)⟩
end Go.Proofs.Ytpjefjomihnbhaa
