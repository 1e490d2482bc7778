/-
  The walk of the law FnExactAgree: it returns true at every two offers. No condition but that the lists of needs are ones that can be.
-/
import Derived.Test.YtgoafhmmaepcjaaLawA5
import Derived.Test.YtgoafhmmaepcjaaWsag
import Derived.Deep.Cut
namespace Go.Proofs.Ytgoafhmmaepcjaa
open Go.RowKit
set_option linter.unusedVariables false

/-- The two boxes of offers that came in. -/
structure Bx2 (w0 : World) (g : Nat) (cs ds : Array Value) (va vb : Value) (xs ys : List Int) (w : World) : Prop where
  a : Blk w g 31 cs
  b : Blk w (g + 1) 31 ds
  ra : Rds w va xs
  rb : Rds w vb ys
  z : g + 2 ≤ w.heap.size
  l : Below w0.heap.size w0 w
theorem Bx2.more {w0 w w' : World} {g : Nat} {cs ds : Array Value} {va vb : Value} {xs ys : List Int} (h : Bx2 w0 g cs ds va vb xs ys w) (h0 : w0.heap.size ≤ g) (hb : Below w.heap.size w w') : Bx2 w0 g cs ds va vb xs ys w' :=
  ⟨h.a.below hb (by have := h.z; omega), h.b.below hb (by have := h.z; omega), h.ra.more6 hb, h.rb.more6 hb, Nat.le_trans h.z hb.size, h.l.trans (hb.mono (by have := h.z; omega))⟩
theorem Bx2.drewN {w0 w : World} {g : Nat} {cs ds : Array Value} {va vb : Value} {xs ys : List Int} (h : Bx2 w0 g cs ds va vb xs ys w) (n : Nat) : Bx2 w0 g cs ds va vb xs ys (w.drewN n) :=
  ⟨h.a, h.b, h.ra, h.rb, h.z, below_drewN h.l n⟩
theorem Bx2.drew {w0 w : World} {g : Nat} {cs ds : Array Value} {va vb : Value} {xs ys : List Int} (h : Bx2 w0 g cs ds va vb xs ys w) : Bx2 w0 g cs ds va vb xs ys w.drew := h.drewN 1
theorem Bx2.alloc {w0 w : World} {g : Nat} {cs ds : Array Value} {va vb : Value} {xs ys : List Int} (h : Bx2 w0 g cs ds va vb xs ys w) (h0 : w0.heap.size ≤ g) (ob : Obj) : Bx2 w0 g cs ds va vb xs ys (w.alloc ob) :=
  h.more h0 ((Below.refl _ _).alloc (Nat.le_refl _) ob)
/-- A box of the call's own. -/
structure Bx1 (g : Nat) (cs : Array Value) (v : Value) (xs : List Int) (w : World) : Prop where
  a : Blk w g 34 cs
  r : Rds w v xs
  z : g < w.heap.size
theorem Bx1.more {w w' : World} {g : Nat} {cs : Array Value} {v : Value} {xs : List Int} (h : Bx1 g cs v xs w) (hb : Below w.heap.size w w') : Bx1 g cs v xs w' :=
  ⟨h.a.below hb h.z, h.r.more6 hb, Nat.lt_of_lt_of_le h.z hb.size⟩
theorem Bx1.drewN {w : World} {g : Nat} {cs : Array Value} {v : Value} {xs : List Int} (h : Bx1 g cs v xs w) (n : Nat) : Bx1 g cs v xs (w.drewN n) := ⟨h.a, h.r, h.z⟩
theorem Bx1.drew {w : World} {g : Nat} {cs : Array Value} {v : Value} {xs : List Int} (h : Bx1 g cs v xs w) : Bx1 g cs v xs w.drew := ⟨h.a, h.r, h.z⟩
theorem Bx1.alloc {w : World} {g : Nat} {cs : Array Value} {v : Value} {xs : List Int} (h : Bx1 g cs v xs w) (ob : Obj) : Bx1 g cs v xs (w.alloc ob) := h.more ((Below.refl _ _).alloc (Nat.le_refl _) ob)

set_option maxHeartbeats 12800000 in
theorem fnExactAgree_walk (lo hi ca : Int) (a : Option Addr) (len cap : Nat) (zs : List Int) (lo2 hi2 ca2 : Int) (a2 : Option Addr) (len2 cap2 : Nat) (zs2 : List Int) (w : World) (h : IsRow .i64 w a len cap zs) (h2 : IsRow .i64 w a2 len2 cap2 zs2) :
    Calls Try.prog 9 #[.agg #[.int .i64 lo, .int .i64 hi, .int .i64 ca, .slice a len cap], .agg #[.int .i64 lo2, .int .i64 hi2, .int .i64 ca2, .slice a2 len2 cap2]] w fun e w' => e = .returned (.bool true) ∧ Below w.heap.size w w' := by
  have hmx := row_max h
  have hmx2 := row_max h2
  obtain ⟨xs, rfl, hr0, hl0⟩ := rds_of_row h
  obtain ⟨ys, rfl, hr2, hl2⟩ := rds_of_row h2
  have hb0 := ((Below.refl w.heap.size w).alloc (Nat.le_refl _) (.cells #[.int .i64 lo, .int .i64 hi, .int .i64 ca, .slice a xs.length cap] 31)).alloc (by simp) (.cells #[.int .i64 lo2, .int .i64 hi2, .int .i64 ca2, .slice a2 ys.length cap2] 31)
  have k0 := (Blk.new w 31 #[.int .i64 lo, .int .i64 hi, .int .i64 ca, .slice a xs.length cap]).alloc (.cells #[.int .i64 lo2, .int .i64 hi2, .int .i64 ca2, .slice a2 ys.length cap2] 31)
  have k1 := Blk.new (w.alloc (.cells #[.int .i64 lo, .int .i64 hi, .int .i64 ca, .slice a xs.length cap] 31)) 31 #[.int .i64 lo2, .int .i64 hi2, .int .i64 ca2, .slice a2 ys.length cap2]
  rw [World.size_alloc] at k1
  have hX : Bx2 w w.heap.size #[.int .i64 lo, .int .i64 hi, .int .i64 ca, .slice a xs.length cap] #[.int .i64 lo2, .int .i64 hi2, .int .i64 ca2, .slice a2 ys.length cap2] (.slice a xs.length cap) (.slice a2 ys.length cap2) xs ys ((w.alloc (.cells #[.int .i64 lo, .int .i64 hi, .int .i64 ca, .slice a xs.length cap] 31)).alloc (.cells #[.int .i64 lo2, .int .i64 hi2, .int .i64 ca2, .slice a2 ys.length cap2] 31)) := ⟨k0, k1, hr0.more6 hb0, hr2.more6 hb0, by simp, hb0⟩
  have HX := Lib.hid hX
  obtain ⟨p0, p1, p2, p3⟩ := k0.c4
  obtain ⟨q0, q1, q2, q3⟩ := k1.c4
  have HS1 := Lib.hid (fun W => szO_any lo hi ca a xs.length cap 1048576 W (by omega) hmx)
  have HS2 := Lib.hid (fun l W hl => szO_any lo2 hi2 ca2 a2 ys.length cap2 l W hl hmx2)
  clear h h2 hr0 hl0 hr2 hl2 hb0 k0 k1 hX
  go_enter Try.func9, Try.ntmps9
  go_upto_region 2 with fail
  generalize (w.alloc (.cells #[.int .i64 lo, .int .i64 hi, .int .i64 ca, .slice a xs.length cap] 31)).alloc (.cells #[.int .i64 lo2, .int .i64 hi2, .int .i64 ca2, .slice a2 ys.length cap2] 31) = w1 at *
  go_wp2_with fail
  refine (HS1.out w1).mono ?_
  rintro e w2 ⟨rfl, hb2⟩
  have hX2 := HX.out.more (Nat.le_refl _) hb2
  have HX2 := Lib.hid hX2
  clear HX hb2 HS1 p0 p1 p2 p3 q0 q1 q2 q3
  obtain ⟨p0, p1, p2, p3⟩ := hX2.a.c4
  obtain ⟨q0, q1, q2, q3⟩ := hX2.b.c4
  clear hX2
  by_cases hn : 1048576 < xs.length
  · have hs : szR 1048576 xs.length = -1 := by unfold szR; rw [if_pos (by omega)]
    rw [hs]
    clear hs HS2
    go_wp2
    go_ret
    exact ⟨rfl, HX2.out.l⟩
  have hs : 0 ≤ szR 1048576 xs.length ∧ szR 1048576 xs.length ≤ 1048576 := by unfold szR; split <;> omega
  have hs3 : szR 1048576 xs.length = 1048576 - (xs.length : Int) := by unfold szR; rw [if_neg (by omega)]
  have HS3 := Lib.hid hs3
  have hd : decide (szR 1048576 xs.length < 0) = false := decide_eq_false (by omega)
  have hn2 : xs.length ≤ 1048576 := by omega
  generalize szR 1048576 xs.length = s at *
  clear hn hs3
  go_wp2_with fail
  refine (HS2.out s w2 hs).mono ?_
  rintro e w3 ⟨rfl, hb3⟩
  have hX3 := HX2.out.more (Nat.le_refl _) hb3
  have HX3 := Lib.hid hX3
  clear HX2 hb3 HS2 p0 p1 p2 p3 q0 q1 q2 q3
  obtain ⟨p0, p1, p2, p3⟩ := hX3.drew.a.c4
  obtain ⟨q0, q1, q2, q3⟩ := hX3.drew.b.c4
  clear hX3
  by_cases hm : s < ys.length
  · have hs2 : szR s ys.length = -1 := by unfold szR; rw [if_pos (by omega)]
    rw [hs2]
    clear hs2
    go_wp2
    go_ret
    exact ⟨rfl, HX3.out.l⟩
  have hs2 : 0 ≤ szR s ys.length := by unfold szR; split <;> omega
  have hd2 : decide (szR s ys.length < 0) = false := decide_eq_false (by omega)
  have hm2 : ys.length ≤ 1048576 := by omega
  have HT1 := Lib.hid (fun W h => toO_any ⟨lo, hi, ca, xs⟩ (.slice a xs.length cap) W h hn2)
  have HT2 := Lib.hid (fun W h => toO_any ⟨lo2, hi2, ca2, ys⟩ (.slice a2 ys.length cap2) W h hm2)
  have HSP := Lib.hid (fun W v u h h2 => sAG_any ⟨lo, hi, ca, xs⟩ ⟨lo2, hi2, ca2, ys⟩ v u W h h2 hn2 hm2)
  have HIP := Lib.hid (fun W v u h h2 => iAG_any ⟨lo, hi, ca, xs⟩ ⟨lo2, hi2, ca2, ys⟩ v u W h h2 hn2 hm2)
  have HE1 := Lib.hid (fun W v u h h2 => eqO_same ⟨lo, hi, ca, xs⟩ v u W h h2 hn2)
  have HE2 := Lib.hid (fun W v u h h2 => eqO_same ⟨lo2, hi2, ca2, ys⟩ v u W h h2 hm2)
  unfold ofv at HT1 HT2 HSP HIP HE1 HE2
  simp only at HT1 HT2 HSP HIP HE1 HE2
  generalize agX ⟨lo, hi, ca, xs⟩ ⟨lo2, hi2, ca2, ys⟩ = X at *
  generalize agS ⟨lo, hi, ca, xs⟩ ⟨lo2, hi2, ca2, ys⟩ = S at *
  generalize agB ⟨lo, hi, ca, xs⟩ ⟨lo2, hi2, ca2, ys⟩ = B at *
  generalize szR s ys.length = s2 at *
  clear hm hmx hmx2 HS3
  go_upto_region 8 with fail
  go_cut [6, 7, 8] from 14 (fun s6 s7 s8 wx => s6 = .int .i64 X ∧ s7 = .int .i64 S ∧ s8 = .bool B ∧ Bx2 w w.heap.size #[.int .i64 lo, .int .i64 hi, .int .i64 ca, .slice a xs.length cap] #[.int .i64 lo2, .int .i64 hi2, .int .i64 ca2, .slice a2 ys.length cap2] (.slice a xs.length cap) (.slice a2 ys.length cap2) xs ys wx)
  case first =>
    clear HIP HE1 HE2
    go_region_with (first
      | (go_at_call 19; (with_reducible refine (HT1.out w3.drew HX3.out.drew.ra).mono ?_); rintro e w4 ⟨u4, rfl, hu4, hb4⟩; have hX4 := HX3.out.drew.more (Nat.le_refl _) hb4; have HX4 := Lib.hid hX4; have HU4 := Lib.hid (OwnL.rds hu4); clear p0 p1 p2 p3 q0 q1 q2 q3 hu4 hb4; obtain ⟨p0, p1, p2, p3⟩ := hX4.a.c4; obtain ⟨q0, q1, q2, q3⟩ := hX4.b.c4; clear hX4)
      | (go_at_call 19; (with_reducible refine (HT2.out w4 HX4.out.rb).mono ?_); rintro e w5 ⟨u5, rfl, hu5, hb5⟩; have hX5 := HX4.out.more (Nat.le_refl _) hb5; have HX5 := Lib.hid hX5; have HV4 := Lib.hid (HU4.out.more6 hb5); have HU5 := Lib.hid (OwnL.rds hu5); clear p0 p1 p2 p3 q0 q1 q2 q3 hu5 hb5; obtain ⟨p0, p1, p2, p3⟩ := hX5.a.c4; obtain ⟨q0, q1, q2, q3⟩ := hX5.b.c4; clear hX5)
      | (go_at_call 24; (with_reducible refine (HSP.out w5 u4 u5 HV4.out HU5.out).mono ?_); rintro e w6 ⟨rfl, hb6⟩; have hX6 := HX5.out.more (Nat.le_refl _) hb6; have HX6 := Lib.hid hX6; clear p0 p1 p2 p3 q0 q1 q2 q3 hb6 hX6))
    all_goals go_wp2_with fail
    all_goals
      go_meet
      case rel => exact ⟨rfl, rfl, rfl, HX6.out⟩
  case rest =>
    obtain ⟨rfl, rfl, rfl, hX6⟩ := hcut
    have HX6 := Lib.hid hX6
    clear p0 p1 p2 p3 q0 q1 q2 q3 HX3 HSP
    obtain ⟨p0, p1, p2, p3⟩ := hX6.a.c4
    obtain ⟨q0, q1, q2, q3⟩ := hX6.b.c4
    clear hX6
    go_wp2_with fail
    refine (HT1.out wc HX6.out.ra).mono ?_
    rintro e w7 ⟨u7, rfl, hu7, hb7⟩
    obtain ⟨A7, c7, hf7⟩ := hu7.form
    subst hf7
    have hX7 := (HX6.out.more (Nat.le_refl _) hb7).alloc (Nat.le_refl _) (.cells #[.int .i64 lo, .int .i64 hi, .int .i64 ca, .slice A7 xs.length c7] 34)
    have hY7 : Bx1 w7.heap.size #[.int .i64 lo, .int .i64 hi, .int .i64 ca, .slice A7 xs.length c7] (.slice A7 xs.length c7) xs (w7.alloc (.cells #[.int .i64 lo, .int .i64 hi, .int .i64 ca, .slice A7 xs.length c7] 34)) := ⟨Blk.new _ _ _, (OwnL.rds hu7).more6 ((Below.refl _ _).alloc (Nat.le_refl _) _), by simp⟩
    have HX7 := Lib.hid hX7
    have HY7 := Lib.hid hY7
    clear p0 p1 p2 p3 q0 q1 q2 q3 HX6 hu7 hb7
    obtain ⟨p0, p1, p2, p3⟩ := hX7.a.c4
    obtain ⟨q0, q1, q2, q3⟩ := hX7.b.c4
    clear hX7 hY7
    go_upto_region 10 with fail
    obtain ⟨g7, hg7⟩ : ∃ g7, g7 = w7.heap.size := ⟨_, rfl⟩
    rw [← hg7] at HY7
    generalize w7.alloc (.cells #[.int .i64 lo, .int .i64 hi, .int .i64 ca, .slice A7 xs.length c7] 34) = w8 at *
    rw [← hg7]
    go_wp2_with fail
    refine (HT2.out w8 HX7.out.rb).mono ?_
    rintro e w9 ⟨u9, rfl, hu9, hb9⟩
    obtain ⟨A9, c9, hf9⟩ := hu9.form
    subst hf9
    have hX9 := (HX7.out.more (Nat.le_refl _) hb9).alloc (Nat.le_refl _) (.cells #[.int .i64 lo2, .int .i64 hi2, .int .i64 ca2, .slice A9 ys.length c9] 34)
    have hY9 := (HY7.out.more hb9).alloc (.cells #[.int .i64 lo2, .int .i64 hi2, .int .i64 ca2, .slice A9 ys.length c9] 34)
    have hZ9 : Bx1 w9.heap.size #[.int .i64 lo2, .int .i64 hi2, .int .i64 ca2, .slice A9 ys.length c9] (.slice A9 ys.length c9) ys (w9.alloc (.cells #[.int .i64 lo2, .int .i64 hi2, .int .i64 ca2, .slice A9 ys.length c9] 34)) := ⟨Blk.new _ _ _, (OwnL.rds hu9).more6 ((Below.refl _ _).alloc (Nat.le_refl _) _), by simp⟩
    have HX9 := Lib.hid hX9
    have HY9 := Lib.hid hY9
    have HZ9 := Lib.hid hZ9
    clear p0 p1 p2 p3 q0 q1 q2 q3 HX7 HY7 hu9 hb9
    obtain ⟨p0, p1, p2, p3⟩ := hX9.a.c4
    obtain ⟨q0, q1, q2, q3⟩ := hX9.b.c4
    obtain ⟨r0, r1, r2, r3⟩ := hY9.a.c4
    obtain ⟨t0, t1, t2, t3⟩ := hZ9.a.c4
    clear hX9 hY9 hZ9 hg7
    go_upto_region 11 with fail
    obtain ⟨g9, hg9⟩ : ∃ g9, g9 = w9.heap.size := ⟨_, rfl⟩
    rw [← hg9] at HZ9 t0 t1 t2 t3
    generalize w9.alloc (.cells #[.int .i64 lo2, .int .i64 hi2, .int .i64 ca2, .slice A9 ys.length c9] 34) = w10 at *
    rw [← hg9]
    clear hg9
    go_wp2_with fail
    refine (HIP.out w10 (.slice A7 xs.length c7) (.slice A9 ys.length c9) HY9.out.r HZ9.out.r).mono ?_
    rintro e w11 ⟨rfl, hb11⟩
    have HX11 := Lib.hid (HX9.out.more (Nat.le_refl _) hb11)
    have HY11 := Lib.hid (HY9.out.more hb11)
    have HZ11 := Lib.hid (HZ9.out.more hb11)
    clear p0 p1 p2 p3 q0 q1 q2 q3 r0 r1 r2 r3 t0 t1 t2 t3 HX9 HY9 HZ9 hb11 HIP
    obtain ⟨p0, p1, p2, p3⟩ := HX11.out.drew.a.c4
    obtain ⟨r0, r1, r2, r3⟩ := HY11.out.drew.a.c4
    go_upto_region 14 with fail
    go_cut [61] from 14 (fun s61 wx => s61 = .bool false ∧ Bx2 w w.heap.size #[.int .i64 lo, .int .i64 hi, .int .i64 ca, .slice a xs.length cap] #[.int .i64 lo2, .int .i64 hi2, .int .i64 ca2, .slice a2 ys.length cap2] (.slice a xs.length cap) (.slice a2 ys.length cap2) xs ys wx ∧ Bx1 g9 #[.int .i64 lo2, .int .i64 hi2, .int .i64 ca2, .slice A9 ys.length c9] (.slice A9 ys.length c9) ys wx)
    case first =>
      clear HE2
      go_region_with (first
        | (go_at_call 19; (with_reducible refine (HT1.out w11.drew HX11.out.drew.ra).mono ?_); rintro e w12 ⟨u12, rfl, hu12, hb12⟩; have HX12 := Lib.hid (HX11.out.drew.more (Nat.le_refl _) hb12); have HY12 := Lib.hid (HY11.out.drew.more hb12); have HZ12 := Lib.hid (HZ11.out.drew.more hb12); have HU12 := Lib.hid (OwnL.rds hu12); clear p0 p1 p2 p3 r0 r1 r2 r3 hu12 hb12; obtain ⟨r0, r1, r2, r3⟩ := HY12.out.a.c4)
        | (go_at_call 21; (with_reducible refine (HE1.out w12 (.slice A7 xs.length c7) u12 HY12.out.r HU12.out).mono ?_); rintro e w13 ⟨rfl, hb13⟩; have HX13 := Lib.hid (HX12.out.more (Nat.le_refl _) hb13); have HZ13 := Lib.hid (HZ12.out.more hb13); clear hb13))
      all_goals go_wp2_with fail
      all_goals
        go_meet
        case rel => exact ⟨rfl, HX13.out, HZ13.out⟩
    case rest =>
      obtain ⟨rfl, hX14, hZ14⟩ := hcut
      obtain ⟨wd, hwd⟩ : ∃ wd, wd = wc := ⟨_, rfl⟩
      subst hwd
      have HX14 := Lib.hid hX14
      have HZ14 := Lib.hid hZ14
      clear p0 p1 p2 p3 r0 r1 r2 r3 HX11 HY11 HZ11 hX14 hZ14 HE1 HT1
      obtain ⟨q0, q1, q2, q3⟩ := HX14.out.drew.b.c4
      obtain ⟨t0, t1, t2, t3⟩ := HZ14.out.drew.a.c4
      go_upto_region 16 with fail
      go_cut [66] from 14 (fun s66 wx => s66 = .bool false ∧ Below w.heap.size w wx)
      case first =>
        go_region_with (first
          | (go_at_call 19; (with_reducible refine (HT2.out _ HX14.out.drew.rb).mono ?_); rintro e w15 ⟨u15, rfl, hu15, hb15⟩; have HX15 := Lib.hid (HX14.out.drew.more (Nat.le_refl _) hb15); have HZ15 := Lib.hid (HZ14.out.drew.more hb15); have HU15 := Lib.hid (OwnL.rds hu15); clear q0 q1 q2 q3 t0 t1 t2 t3 hu15 hb15; obtain ⟨t0, t1, t2, t3⟩ := HZ15.out.a.c4)
          | (go_at_call 21; (with_reducible refine (HE2.out w15 (.slice A9 ys.length c9) u15 HZ15.out.r HU15.out).mono ?_); rintro e w16 ⟨rfl, hb16⟩; have HB16 := Lib.hid (HX15.out.more (Nat.le_refl _) hb16).l; clear hb16))
        all_goals go_wp2_with fail
        all_goals
          go_meet
          case rel => exact ⟨rfl, HB16.out⟩
      case rest =>
        obtain ⟨rfl, hB17⟩ := hcut
        go_wp2
        go_ret
        exact ⟨rfl, hB17⟩
end Go.Proofs.Ytgoafhmmaepcjaa
