/-
  The walk of the law FnCutLength: it returns true at every code. No condition but that the code is a list that can be.
-/
import Derived.Test.YtpkajiflbejajaaWdh
import Derived.Test.YtpkajiflbejajaaCutm
import Derived.Test.YtpkajiflbejajaaWcv
import Derived.Test.YtpkajiflbejajaaWep
namespace Go.Proofs.Ytpkajiflbejajaa
open Go.RowKit
set_option linter.unusedVariables false

theorem pat_one (w : World) (x y : Int) (z : Bool) (t : TypeId) : PRds (w.alloc (.cells #[.int .i64 x, .int .i64 y, .bool z] t)) (.slice (some ⟨w.heap.size, 0, none⟩) 1 1) [⟨x, y, z⟩] := by
  have hB := Blk.new w t #[.int .i64 x, .int .i64 y, .bool z]
  refine ⟨_, 1, rfl, fun _ => ⟨_, 0, rfl, by simp, fun j hj => ?_⟩⟩
  obtain rfl : j = 0 := by simpa using hj
  exact ⟨hB.cell 0, hB.cell 1, hB.cell 2⟩

set_option maxHeartbeats 3200000 in
set_option maxRecDepth 20000 in
theorem fnCutLength_walk (a : Option Addr) (len cap : Nat) (zs : List Int) (w : World) (h : IsRow .u8 w a len cap zs) :
    Calls Try.prog 5 #[.slice a len cap] w fun e w' => e = .returned (.bool true) ∧ Below w.heap.size w w' := by
  by_cases hg : (1048576 : Int) < (len : Int)
  · go_enter Try.func5, Try.ntmps5
    go_wp2_with fail
    go_ret
    exact ⟨rfl, Below.refl _ _⟩
  · have H := Lib.hid (dCL_any w a len cap zs h)
    clear h
    go_enter Try.func5, Try.ntmps5
    go_wp2_with fail
    refine H.out.mono ?_
    rintro e w1 ⟨L, M, U, rfl, hb1, hLb, hMb, hUb⟩
    have HB1 := Lib.hid hb1
    clear H hb1
    have HI := Lib.hid (fun W => iCL_any W L M U)
    have HS := Lib.hid (fun W => sCL_any W L M U)
    have HQ := Lib.hid (fun W v u ps h h2 hn => eqL_same W v u ps h h2 hn)
    have HALL := Lib.hid (fun h => cut_all (L := L) (M := M) (U := U) h)
    have hR20 : (cutR L M U).length ≤ 20 := cutR_len' L M U
    generalize cutR L M U = R at *
    generalize cutB L M U = b at *
    have hbb : (b != b) = false := by simp
    have hbe : (b == b) = true := by simp
    go_wp2_with fail
    refine (HI.out _).mono ?_
    rintro e w2 ⟨g, rfl, hg2, hb2⟩
    have HG2 := Lib.hid (PRds.of_own hg2)
    have HB2 := Lib.hid (HB1.out.trans (hb2.mono HB1.out.size))
    obtain ⟨A2, c2, rfl⟩ := own_form3 hg2
    clear hg2 hb2
    go_wp2_with fail
    refine (HS.out _).mono ?_
    rintro e w3 ⟨s, rfl, hs3, hb3⟩
    have HS3 := Lib.hid (PRds.of_own hs3)
    have HG3 := Lib.hid (HG2.out.more hb3)
    have HB3 := Lib.hid (HB2.out.trans (hb3.mono HB2.out.size))
    clear hs3 hb3 HG2 HB2
    go_wp2_with fail
    refine (HQ.out _ _ _ R HG3.out HS3.out (by omega)).mono ?_
    rintro e w4 ⟨rfl, m4, hw4⟩
    have HG4 : Hid (PRds w4 (.slice A2 R.length c2) R) := Lib.hid (by rw [hw4]; exact HG3.out.drewN m4)
    have HS4 : Hid (PRds w4 s R) := Lib.hid (by rw [hw4]; exact HS3.out.drewN m4)
    have HB4 : Hid (Below w.heap.size w w4) := Lib.hid (by rw [hw4]; exact below_drewN HB3.out m4)
    clear hw4 HG3 HS3 HB3
    cases b
    · go_wp2_with fail
      refine (HQ.out _ _ _ R HG4.out HS4.out (by omega)).mono ?_
      rintro e w5 ⟨rfl, m5, rfl⟩
      go_wp2
      go_ret
      exact ⟨rfl, below_drewN HB4.out m5⟩
    · obtain ⟨l, S, rfl, h20, u1, u2, l1, l2, m2, s1, hmod, hsg, ho, he, hw, hp, hj⟩ := HALL.out rfl
      have HSG := Lib.hid hsg
      have HE := Lib.hid (fun W v h => iEO_any W v R h (by omega))
      rw [ho, he] at HE
      have HW := Lib.hid (fun W v h => iIW_any W v R h (by omega))
      rw [hw] at HW
      have HH := Lib.hid (fun W v h => iHO_any W v R L h (by omega))
      have HJJ := Lib.hid (fun W v h => iJP_any W v R h (by omega))
      have HHP := Lib.hid hp
      have HJP := Lib.hid hj
      clear hsg ho he hw hp hj HALL
      go_wp2
      go_loopw [10] (fun iv wr => ∃ k m : Nat, (k ≤ R.length) ∧ iv = .int .i64 k ∧ wr = w4.drewN m) (fun iv _ => R.length - (intOf iv).toNat)
      case atStart => exact ⟨0, 0, Nat.zero_le _, rfl, rfl⟩
      case round =>
        obtain ⟨k, m, hk, rfl, rfl⟩ := hrel
        have k0 : (0 : Int) ≤ (k : Int) := by omega
        by_cases hlt : k < R.length
        · obtain ⟨A', c', hv', h1'⟩ := HG4.out
          obtain ⟨gb, off, hA, hat⟩ := h1' (by omega)
          simp only [Value.slice.injEq] at hv'
          obtain ⟨rfl, hx0, rfl⟩ := hv'
          subst hA
          obtain ⟨c0, c1, c2'⟩ := hat.2 k hlt
          have hlast := HSG.out.last k hlt
          have hm : R.getD k d0 ∈ R := by rw [List.getD_eq_getElem?_getD, List.getElem?_eq_getElem hlt]; exact List.getElem_mem _
          obtain ⟨b1, b2, b3, b4, b5, b6⟩ := HSG.out.each _ hm
          clear h1' hat hx0 hm
          generalize R.getD k d0 = q at *
          obtain ⟨x, y, z⟩ := q
          simp only [Pc.e] at c0 c1 c2' hlast b1 b2 b3 b4 b5 b6
          have k1 : (k : Int) < (R.length : Int) := by omega
          have q3 : decide (M < y) = false := by simp; omega
          clear b5
          by_cases hl2 : k + 1 < R.length
          · have hd : decide ((k : Int) + 1 < (R.length : Int)) = true := by simp; omega
            obtain rfl : z = true := by rw [hlast]; simpa using hl2
            have hys := b6 rfl
            subst hys
            have qm : (y % U != 0) = false := by rw [hmod]; rfl
            clear hlast b6
            go_wp2
            go_roundw
            case rel => exact ⟨k + 1, m, by omega, by go_num, rfl⟩
            case measure => simp [intOf]; omega
          · have hd : decide ((k : Int) + 1 < (R.length : Int)) = false := by simp; omega
            obtain rfl : z = false := by rw [hlast]; simpa using hl2
            clear hlast b6
            go_wp2
            go_roundw
            case rel => exact ⟨k + 1, m, by omega, by go_num, rfl⟩
            case measure => simp [intOf]; omega
        · have hd : decide ((k : Int) < (R.length : Int)) = false := by simp; omega
          have hk1 : (k : Int) ≤ 100 := by omega
          have HG5 := Lib.hid (HG4.out.drewN m)
          have HB5 := Lib.hid (below_drewN HB4.out m)
          generalize w4.drewN m = w5 at *
          clear HG4 HS4 HB4 hk
          go_wp2_with fail
          refine (HE.out _ _ HG5.out).mono ?_
          rintro e w6 ⟨rfl, hb6⟩
          have HG6 := Lib.hid (HG5.out.more hb6)
          have HB6 := Lib.hid (HB5.out.trans (hb6.mono HB5.out.size))
          clear hb6
          have qL : (L == L) = true := by simp
          go_wp2_with fail
          refine (HW.out _ _ HG6.out).mono ?_
          rintro e w7 ⟨rfl, hb7⟩
          have HG7 := Lib.hid (HG6.out.more hb7)
          have HB7 := Lib.hid (HB6.out.trans (hb7.mono HB6.out.size))
          clear hb7
          go_wp2_with fail
          refine (HH.out _ _ HG7.out).mono ?_
          rintro e w8 ⟨u8, R8, rfl, hp8, ho8, hb8⟩
          obtain rfl := HHP.out.uniq hp8
          have HG8 := Lib.hid (HG7.out.more hb8)
          have HB8 := Lib.hid (HB7.out.trans (hb8.mono HB7.out.size))
          obtain ⟨A8, c8, rfl⟩ := own_form3 ho8
          clear hp8 ho8 hb8
          go_wp2_with fail
          refine (HJJ.out _ _ HG8.out).mono ?_
          rintro e w9 ⟨u9, R9, rfl, hj9, ho9, hb9⟩
          obtain rfl := HJP.out.uniq hj9
          have HX9 := Lib.hid (PRds.of_own ho9)
          have HB9 := Lib.hid (HB8.out.trans (hb9.mono HB8.out.size))
          clear hj9 ho9 hb9
          go_wp2_with fail
          have hnew : PRds (w9.alloc (.cells #[.int .i64 0, .int .i64 L, .bool false] 33)) (.slice (some ⟨w9.heap.size, 0, none⟩) 1 1) [⟨0, L, false⟩] := pat_one w9 0 L false 33
          refine (HQ.out _ _ _ [⟨0, L, false⟩] (HX9.out.more ((Below.refl _ _).alloc (Nat.le_refl _) _)) hnew (by simp)).mono ?_
          rintro e w10 ⟨rfl, m10, rfl⟩
          go_wp2
          go_ret
          exact ⟨rfl, below_drewN (HB9.out.alloc HB9.out.size _) m10⟩
end Go.Proofs.Ytpkajiflbejajaa
