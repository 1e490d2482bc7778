/-
  The walk of the law FnExactValidOffer: it returns true at every offer. No condition but that the list of needs is one that can be.
-/
import Derived.Test.YtgoafhmmaepcjaaWoeq
import Derived.Test.YtgoafhmmaepcjaaWofs
namespace Go.Proofs.Ytgoafhmmaepcjaa
open Go.RowKit
set_option linter.unusedVariables false

theorem row_max {k : IntKind} {w : World} {a : Option Addr} {len cap : Nat} {zs : List Int} (h : IsRow k w a len cap zs) : len ≤ maxLen := by
  rcases h with ⟨_, rfl, _⟩ | ⟨_, _, h1, h2, _⟩
  · exact Nat.zero_le _
  · omega

set_option maxHeartbeats 3200000 in
theorem fnExactValidOffer_walk (lo hi ca : Int) (a : Option Addr) (len cap : Nat) (zs : List Int) (w : World) (h : IsRow .i64 w a len cap zs) :
    Calls Try.prog 7 #[.agg #[.int .i64 lo, .int .i64 hi, .int .i64 ca, .slice a len cap]] w fun e w' => e = .returned (.bool true) ∧ Below w.heap.size w w' := by
  have hb0 := (Below.refl w.heap.size w).alloc (Nat.le_refl _) (.cells #[.int .i64 lo, .int .i64 hi, .int .i64 ca, .slice a len cap] 31)
  have HBL := Lib.hid hb0
  have k0 := Blk.new w 31 #[.int .i64 lo, .int .i64 hi, .int .i64 ca, .slice a len cap]
  have HK0 := Lib.hid k0
  obtain ⟨a0, a1, a2, a3⟩ := k0.c4
  have hmx := row_max h
  obtain ⟨xs, rfl, hr0, hl0⟩ := rds_of_row h
  have HR1 := Lib.hid (hr0.more6 hb0)
  have HSZ := Lib.hid (fun W => szO_any lo hi ca a xs.length cap 1048576 W (by omega) hmx)
  have hz1 : (w.alloc (.cells #[.int .i64 lo, .int .i64 hi, .int .i64 ca, .slice a xs.length cap] 31)).heap.size = w.heap.size + 1 := by simp
  have HZ1 := Lib.hid hz1
  clear h hr0 hl0 hb0 k0 hz1
  go_enter Try.func7, Try.ntmps7
  go_upto_region 2 with fail
  generalize w.alloc (.cells #[.int .i64 lo, .int .i64 hi, .int .i64 ca, .slice a xs.length cap] 31) = w1 at *
  go_wp2_with fail
  refine (HSZ.out w1).mono ?_
  rintro e w2 ⟨rfl, hb2⟩
  have HB2 := Lib.hid (HBL.out.trans (hb2.mono (by have := HZ1.out; omega)))
  have HR2 := Lib.hid (HR1.out.more6 hb2)
  have hK2 := HK0.out.below hb2 (by have := HZ1.out; omega)
  have HK2 := Lib.hid hK2
  have HZ2 : Hid (w.heap.size < w2.heap.size) := Lib.hid (by have := HZ1.out; have := hb2.size; omega)
  obtain ⟨c0, c1, c2, c3⟩ := hK2.c4
  clear hb2 HSZ HR1 HBL HK0 hK2 a0 a1 a2 a3 HZ1
  by_cases hn : 1048576 < xs.length
  · have hs : szR 1048576 xs.length = -1 := by unfold szR; rw [if_pos (by omega)]
    rw [hs]
    clear hs
    go_wp2
    go_ret
    exact ⟨rfl, HB2.out⟩
  · have hs : 0 ≤ szR 1048576 xs.length := by unfold szR; split <;> omega
    have hd : decide (szR 1048576 xs.length < 0) = false := decide_eq_false (by omega)
    have hn2 : xs.length ≤ 1048576 := by omega
    have HT := Lib.hid (fun W h => toO_any ⟨lo, hi, ca, xs⟩ (.slice a xs.length cap) W h hn2)
    have HS := Lib.hid (fun W v h => sVO_any ⟨lo, hi, ca, xs⟩ v W h hn2)
    have HI := Lib.hid (fun W v h => iVO_any ⟨lo, hi, ca, xs⟩ v W h hn2)
    have HE := Lib.hid (fun W v u h h2 => eqO_same ⟨lo, hi, ca, xs⟩ v u W h h2 hn2)
    unfold ofv at HT HS HI HE
    simp only at HT HS HI HE
    generalize voB ⟨lo, hi, ca, xs⟩ = r at *
    generalize szR 1048576 xs.length = s at *
    clear hmx hn
    go_wp2_with fail
    refine (HT.out w2 HR2.out).mono ?_
    rintro e w3 ⟨u3, rfl, hu3, hb3⟩
    have HB3 := Lib.hid (HB2.out.trans (hb3.mono (by have := HZ2.out; omega)))
    have HR3 := Lib.hid (HR2.out.more6 hb3)
    have hK3 := HK2.out.below hb3 HZ2.out
    have HK3 := Lib.hid hK3
    have HZ3 : Hid (w.heap.size < w3.heap.size) := Lib.hid (by have := HZ2.out; have := hb3.size; omega)
    have HU3 := Lib.hid hu3
    obtain ⟨d0, d1, d2, d3⟩ := hK3.c4
    clear hb3 HR2 HB2 HK2 hK3 hu3 HZ2 c0 c1 c2 c3
    go_wp2_with fail
    refine (HS.out w3 u3 (OwnL.rds HU3.out)).mono ?_
    rintro e w4 ⟨rfl, hb4⟩
    have HB4 := Lib.hid (HB3.out.trans (hb4.mono (by have := HZ3.out; omega)))
    have HR4 := Lib.hid (HR3.out.more6 hb4)
    have hK4 := HK3.out.below hb4 HZ3.out
    have HK4 := Lib.hid hK4
    have HZ4 : Hid (w.heap.size < w4.heap.size) := Lib.hid (by have := HZ3.out; have := hb4.size; omega)
    obtain ⟨e0, e1, e2, e3⟩ := hK4.c4
    clear hb4 HR3 HB3 HK3 hK4 HU3 HZ3 HS d0 d1 d2 d3
    go_wp2_with fail
    refine (HT.out w4 HR4.out).mono ?_
    rintro e w5 ⟨u5, rfl, hu5, hb5⟩
    obtain ⟨A5, c5, hf5⟩ := hu5.form
    subst hf5
    have HB5 := Lib.hid ((HB4.out.trans (hb5.mono (by have := HZ4.out; omega))).alloc (by have := HZ4.out; have := hb5.size; omega) (.cells #[.int .i64 lo, .int .i64 hi, .int .i64 ca, (.slice A5 xs.length c5)] 34))
    have HR5 := Lib.hid ((HR4.out.more6 hb5).more6 ((Below.refl _ _).alloc (Nat.le_refl _) (.cells #[.int .i64 lo, .int .i64 hi, .int .i64 ca, (.slice A5 xs.length c5)] 34)))
    have hK5 := (HK4.out.below hb5 HZ4.out).alloc (.cells #[.int .i64 lo, .int .i64 hi, .int .i64 ca, (.slice A5 xs.length c5)] 34)
    have HK5 := Lib.hid hK5
    have hX5 := Blk.new w5 34 #[.int .i64 lo, .int .i64 hi, .int .i64 ca, (.slice A5 xs.length c5)]
    have HX5 := Lib.hid hX5
    have HU5 : Hid (OwnL (w5.alloc (.cells #[.int .i64 lo, .int .i64 hi, .int .i64 ca, (.slice A5 xs.length c5)] 34)) w4.heap.size (.slice A5 xs.length c5) xs) := Lib.hid (OwnL.alloc hu5 _)
    have HZ5 : Hid (w.heap.size < w5.heap.size) := Lib.hid (by have := HZ4.out; have := hb5.size; omega)
    have HZ6 : Hid ((w5.alloc (.cells #[.int .i64 lo, .int .i64 hi, .int .i64 ca, (.slice A5 xs.length c5)] 34)).heap.size = w5.heap.size + 1) := Lib.hid (by simp)
    obtain ⟨f0, f1, f2, f3⟩ := hK5.c4
    obtain ⟨g0, g1, g2, g3⟩ := hX5.c4
    clear hb5 HR4 HB4 HK4 hK5 hX5 hu5 HZ4 e0 e1 e2 e3
    go_upto_region 7 with fail
    generalize w5.alloc (.cells #[.int .i64 lo, .int .i64 hi, .int .i64 ca, (.slice A5 xs.length c5)] 34) = w6 at *
    go_wp2_with fail
    refine (HI.out w6 (.slice A5 xs.length c5) (OwnL.rds HU5.out)).mono ?_
    rintro e w7 ⟨rfl, hb7⟩
    have HB7 := Lib.hid (HB5.out.trans (hb7.mono (by have := HZ5.out; have := HZ6.out; omega)))
    have HR7 : Hid (Rds w7.drew (.slice a xs.length cap) xs) := Lib.hid (by have h9 := HR5.out.more6 hb7; exact h9)
    have hK7 : Blk w7.drew w.heap.size 31 #[.int .i64 lo, .int .i64 hi, .int .i64 ca, .slice a xs.length cap] := by have h9 := HK5.out.below hb7 (by have := HZ5.out; have := HZ6.out; omega); exact h9
    have hX7 : Blk w7.drew w5.heap.size 34 #[.int .i64 lo, .int .i64 hi, .int .i64 ca, .slice A5 xs.length c5] := by have h9 := HX5.out.below hb7 (by have := HZ6.out; omega); exact h9
    have HX7 := Lib.hid hX7
    have HU7 : Hid (OwnL w7.drew w4.heap.size (.slice A5 xs.length c5) xs) := Lib.hid (by have h9 := OwnL.below HU5.out hb7 (Nat.le_refl _); exact h9)
    have HZ7 : Hid (w5.heap.size < w7.heap.size) := Lib.hid (by have := HZ6.out; have := hb7.size; omega)
    obtain ⟨i0, i1, i2, i3⟩ := hK7.c4
    obtain ⟨j0, j1, j2, j3⟩ := hX7.c4
    clear hb7 HR5 HB5 HK5 HX5 HU5 hK7 hX7 HI f0 f1 f2 f3 g0 g1 g2 g3 HZ6
    go_wp2
    go_region_with (first | (go_at_call 19; refine (HT.out w7.drew HR7.out).mono ?_; rintro e w8 ⟨u8, rfl, hu8, hb8⟩; have hX8 := HX7.out.below hb8 HZ7.out; obtain ⟨l0, l1, l2, l3⟩ := hX8.c4; have HU8 := Lib.hid (OwnL.below HU7.out hb8 (Nat.le_refl _)); have HV8 := Lib.hid hu8; have HB8 := Lib.hid ((show Below w.heap.size w w7.drew from below_drewN HB7.out 1).trans (hb8.mono (by have := HZ5.out; have := HZ7.out; show w.heap.size ≤ w7.heap.size; omega))); have HZ8 : Hid (w.heap.size ≤ w8.heap.size) := Lib.hid (by have := HZ5.out; have := HZ7.out; have h9 : w7.heap.size ≤ w8.heap.size := hb8.size; omega); clear hb8 hu8 hX8) | (go_at_call 21; refine (HE.out w8 (.slice A5 xs.length c5) u8 (OwnL.rds HU8.out) (OwnL.rds HV8.out)).mono ?_; rintro e w9 ⟨rfl, hb9⟩))
    all_goals (go_wp2; go_ret; exact ⟨rfl, HB8.out.trans (hb9.mono HZ8.out)⟩)
end Go.Proofs.Ytgoafhmmaepcjaa
