/-
  The walk of the law FnExactRunLink: it returns true at every plan and text. Condition: the text is one that can be.
-/
import Derived.Test.YtfhgkcgjonifcaaWrl
namespace Go.Proofs.Ytfhgkcgjonifcaa
open Go.RowKit
set_option linter.unusedVariables false

/-- What RunLink gives, as parts. -/
def rlL (p : Pl) (s : ByteArray) : Lk := if vpB p = true ∧ s.size ≤ 60 then (runF p s.data.toList newL 0).1 else ⟨0, 0, 0, 0, 0, 0⟩
def rlN (p : Pl) (s : ByteArray) : Int := if vpB p = true ∧ s.size ≤ 60 then ((runF p s.data.toList newL 0).2.1 : Int) else -1
def rlR (p : Pl) (s : ByteArray) : Bool := if vpB p = true ∧ s.size ≤ 60 then (runF p s.data.toList newL 0).2.2 else false
theorem iRL_any (n a k m : Int) (s : ByteArray) (w : World) (hs : s.size ≤ maxLen) : Calls Try.prog 20 #[(.agg #[.int .i64 n, .int .i64 a, .int .i64 k, .int .i64 m]), .string s] w fun e w' => e = .returned (.tuple #[lv (rlL ⟨n, a, k, m⟩ s), .int .i64 (rlN ⟨n, a, k, m⟩ s), .bool (rlR ⟨n, a, k, m⟩ s)]) ∧ Below w.heap.size w w' := by
  by_cases h : vpB ⟨n, a, k, m⟩ = true ∧ s.size ≤ 60
  · refine calls_congr ?_ (iRL_yes n a k m s w hs h.1 h.2)
    simp only [rlL, rlN, rlR, if_pos h]
  · refine calls_congr ?_ (iRL_no n a k m s w hs ?_)
    · simp [rlL, rlN, rlR, if_neg h, lv]
    · cases hv : vpB ⟨n, a, k, m⟩
      · exact .inl rfl
      · exact .inr ⟨rfl, by rw [hv] at h; simp at h; omega⟩
theorem sRL_any (n a k m : Int) (s : ByteArray) (w : World) (hs : s.size ≤ maxLen) : Calls Try.prog 19 #[(.agg #[.int .i64 n, .int .i64 a, .int .i64 k, .int .i64 m]), .string s] w fun e w' => e = .returned (.tuple #[lv (rlL ⟨n, a, k, m⟩ s), .int .i64 (rlN ⟨n, a, k, m⟩ s), .bool (rlR ⟨n, a, k, m⟩ s)]) ∧ Below w.heap.size w w' := by
  by_cases h : vpB ⟨n, a, k, m⟩ = true ∧ s.size ≤ 60
  · refine calls_congr ?_ (sRL_yes n a k m s w hs h.1 h.2)
    simp only [rlL, rlN, rlR, if_pos h]
  · refine calls_congr ?_ (sRL_no n a k m s w hs ?_)
    · simp [rlL, rlN, rlR, if_neg h, lv]
    · cases hv : vpB ⟨n, a, k, m⟩
      · exact .inl rfl
      · exact .inr ⟨rfl, by rw [hv] at h; simp at h; omega⟩

set_option maxHeartbeats 3200000 in
theorem fnExactRunLink_walk (n a k m : Int) (s : ByteArray) (w : World) (hs : s.size ≤ maxLen) :
    Calls Try.prog 6 #[(.agg #[.int .i64 n, .int .i64 a, .int .i64 k, .int .i64 m]), .string s] w fun e w' => e = .returned (.bool true) ∧ Below w.heap.size w w' := by
  have HP := Lib.hid (fun W => toP_any n a k m W)
  have HS := Lib.hid (fun W => sRL_any n a k m s W hs)
  have HI := Lib.hid (fun W => iRL_any n a k m s W hs)
  have hs2 := hs
  unfold maxLen at hs2
  clear hs
  generalize rlL ⟨n, a, k, m⟩ s = r at *
  generalize rlN ⟨n, a, k, m⟩ s = q at *
  generalize rlR ⟨n, a, k, m⟩ s = b at *
  unfold lv at *
  have HE := Lib.hid (fun W => eqL_same r.kn r.s r.d r.h r.da r.wo W)
  by_cases hg : (1048576 : Int) < (s.size : Int)
  · go_enter Try.func6, Try.ntmps6
    go_wp2_with fail
    go_ret
    exact ⟨rfl, (by repeat (first | (with_reducible exact Below.refl _ _) | (with_reducible assumption) | ((with_reducible refine Below.setCell ?_ ?_ _); rotate_left; focus (first | (simp; done) | (simp; omega))) | ((with_reducible refine Below.alloc ?_ ?_ _); rotate_left; focus (first | (with_reducible exact Nat.le_refl _) | (simp; done) | (simp; omega))) | (with_reducible refine belowD ?_ _) | (with_reducible refine belowDr ?_)))⟩
  · go_enter Try.func6, Try.ntmps6
    go_wp2_with fail
    refine (HP.out _).mono ?_
    rintro e w1 ⟨rfl, hb1⟩
    go_wp2_with fail
    refine (HS.out _).mono ?_
    rintro e w2 ⟨rfl, hb2⟩
    have B2 := Lib.hid (((Blk.new w 23 #[.int .i64 n, .int .i64 a, .int .i64 k, .int .i64 m]).below hb1 (by simp)).below hb2 (by have := hb1.size; simp at this; omega))
    have HB2 := Lib.hid ((((Below.refl w.heap.size w).alloc (Nat.le_refl _) (.cells #[.int .i64 n, .int .i64 a, .int .i64 k, .int .i64 m] 23)).trans (hb1.mono (by simp))).trans (hb2.mono (by have := hb1.size; simp at this; omega)))
    obtain ⟨c0, c1, c2, c3⟩ := B2.out.c4
    have hz2 : w.heap.size < w2.heap.size := B2.out.lt
    clear hb1 hb2
    go_wp2_with fail
    refine (HP.out _).mono ?_
    rintro e w3 ⟨rfl, hb3⟩
    have G3 := Lib.hid ((Blk.new w2 29 #[.int .i64 r.kn, .int .i64 r.s, .int .i64 r.d, .int .i64 r.h, .int .i64 r.da, .int .i64 r.wo]).below hb3 (by simp))
    have HB3 := Lib.hid ((HB2.out.alloc (Nat.le_of_lt hz2) (.cells #[.int .i64 r.kn, .int .i64 r.s, .int .i64 r.d, .int .i64 r.h, .int .i64 r.da, .int .i64 r.wo] 29)).trans (hb3.mono (by simp; omega)))
    have hz3 : w.heap.size ≤ w3.heap.size := HB3.out.size
    clear hb3 c0 c1 c2 c3
    go_wp2_with fail
    refine (HI.out _).mono ?_
    rintro e w4 ⟨rfl, hb4⟩
    have G4 := Lib.hid (G3.out.below hb4 G3.out.lt)
    have HB4 := Lib.hid (HB3.out.trans (hb4.mono hz3))
    obtain ⟨x0, x1, x2, x3, x4, x5⟩ := G4.out.c6
    have hz4 : w.heap.size ≤ w4.heap.size := HB4.out.size
    have hgl := G4.out.lt
    clear hb4
    go_wp2_with fail
    refine (HE.out _).mono ?_
    rintro e w5 ⟨rfl, hb5⟩
    have HB := Lib.hid ((HB4.out.alloc hz4 (.cells #[.int .i64 r.kn, .int .i64 r.s, .int .i64 r.d, .int .i64 r.h, .int .i64 r.da, .int .i64 r.wo] 29)).trans (hb5.mono (by simp; omega)))
    go_wp2
    go_ret
    exact ⟨rfl, HB.out⟩
end Go.Proofs.Ytfhgkcgjonifcaa
