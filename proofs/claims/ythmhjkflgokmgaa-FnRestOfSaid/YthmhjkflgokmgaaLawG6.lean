/-
  The walk of the law FnRestOf: it returns true at every code. No condition but that the code is a list that can be.
-/
import Derived.Test.YthmhjkflgokmgaaWse
import Derived.Test.YthmhjkflgokmgaaWdraw
import Derived.Test.YthmhjkflgokmgaaWtb
namespace Go.Proofs.Ythmhjkflgokmgaa
open Go.RowKit
set_option linter.unusedVariables false

/-- Where RestOf gives something. -/
theorem restR_of {p s : List UInt8} (h : restR p s ≠ []) : ∃ (Q S : List Bool), p = txt (true :: Q) ∧ s = txt S ∧ 1 ≤ Q.length ∧ Q.length ≤ 8 ∧ Q.getLast? = some true ∧ Q.length ≤ S.length ∧ S.length ≤ 40 ∧ restR p s = txt (remF Q S) := by
  have h0 := h
  unfold restR at h
  by_cases hc : polyB p = true ∧ bitsB 40 s = true ∧ p.length - 1 ≤ s.length
  · obtain ⟨hp, hb, hl⟩ := hc
    obtain ⟨Q, rfl, h1, h2, h3⟩ := polyB_of hp
    have hb2 : s.length ≤ 40 ∧ s.all isBit = true := by simpa [bitsB] using hb
    obtain ⟨S, rfl⟩ := txt_of hb2.2
    rw [txt_len, txt_len, List.length_cons] at hl
    have hS : S.length ≤ 40 := by have := hb2.1; rwa [txt_len] at this
    exact ⟨Q, S, rfl, rfl, h1, h2, h3, by omega, hS, restR_ok h1 h2 h3 hS (by omega)⟩
  · rw [if_neg hc] at h; exact absurd rfl h
/-- The sum of the last bits and the rest, so far. -/
def sumU (s r : List UInt8) (n k : Nat) : List UInt8 := s.take n ++ xrl ((s.drop n).take k) (r.take k)
theorem sumU_snoc (s r : ByteArray) (n k : Nat) (h : n + k < s.size) (h2 : k < r.size) : sumU s.data.toList r.data.toList n (k + 1) = sumU s.data.toList r.data.toList n k ++ [if s[n + k] = r[k] then 48 else 49] := by
  unfold sumU
  have e1 : (s.data.toList.drop n).take (k + 1) = (s.data.toList.drop n).take k ++ [s[n + k]] := by
    have hd : k < (s.data.toList.drop n).length := by simp; have : s.data.size = s.size := rfl; omega
    rw [List.take_add_one, List.getElem?_eq_getElem hd]
    simp; rfl
  rw [e1, take_snoc r k h2]
  have e2 : xrl ((s.data.toList.drop n).take k ++ [s[n + k]]) (r.data.toList.take k ++ [r[k]]) = xrl ((s.data.toList.drop n).take k) (r.data.toList.take k) ++ [if s[n + k] = r[k] then 48 else 49] := by
    unfold xrl
    rw [List.zipWith_append (by simp; have : s.data.size = s.size := rfl; have : r.data.size = r.size := rfl; omega)]
    rfl
  rw [e2, List.append_assoc]

set_option maxHeartbeats 3200000 in
theorem fnRestOf_walk (a : Option Addr) (len cap : Nat) (zs : List Int) (w : World) (h : IsRow .u8 w a len cap zs) :
    Calls Try.prog 8 #[.slice a len cap] w fun e w' => e = .returned (.bool true) ∧ Below w.heap.size w w' := by
  by_cases hg : (1048576 : Int) < (len : Int)
  · go_enter Try.func8, Try.ntmps8
    go_wp2_with fail
    go_ret
    exact ⟨rfl, Below.refl _ _⟩
  · have H := Lib.hid (dro_any w a len cap zs h)
    clear h
    go_enter Try.func8, Try.ntmps8
    go_wp2_with fail
    refine H.out.mono ?_
    rintro e w1 ⟨p, s, rfl, hp, hs, hb1⟩
    clear H
    have hi := fun W => iRO_any p s W (by omega) (by omega)
    have hs2 := fun W => sRO_any p s W (by omega) (by omega)
    by_cases he : restR p.data.toList s.data.toList = []
    · rw [he] at hi hs2
      have HI := Lib.hid hi
      have HS := Lib.hid hs2
      clear hi hs2 he
      go_wp2_with fail
      refine (HI.out _).mono ?_
      rintro e w2 ⟨rfl, hb2⟩
      have hb12 := hb1.trans (hb2.mono hb1.size)
      clear hb1 hb2
      go_wp2_with fail
      refine (HS.out _).mono ?_
      rintro e w3 ⟨rfl, m3, rfl⟩
      go_wp2_with fail
      refine (HS.out _).mono ?_
      rintro e w4 ⟨rfl, m4, rfl⟩
      go_wp2
      go_ret
      exact ⟨rfl, below_drewN hb12 _⟩
    · obtain ⟨Q, S, hQ, hS, h1, h2, h3, hSQ, h40, hsr⟩ := restR_of he
      have hpl : p.size = Q.length + 1 := by
        have : p.data.toList.length = p.size := by simp
        rw [← this, hQ, txt_len]; rfl
      have hsl : s.size = S.length := by
        have : s.data.toList.length = s.size := by simp
        rw [← this, hS, txt_len]
      have hrl := remF_len Q S h1
      have hOL : (ByteArray.mk (restR p.data.toList s.data.toList).toArray).size = Q.length := by rw [mk_size, hsr, txt_len, hrl]
      have hne : (ByteArray.mk (restR p.data.toList s.data.toList).toArray).toList.isEmpty = false := by
        rw [Lib.toList_data]; exact List.isEmpty_eq_false_iff.2 he
      have hne2 : ¬ (ByteArray.mk (restR p.data.toList s.data.toList).toArray).toList = [] := by
        rw [Lib.toList_data]; exact he
      have hOD : (ByteArray.mk (restR p.data.toList s.data.toList).toArray).data.toList = txt (remF Q S) := hsr
      have hOmk := Lib.mk_data (ByteArray.mk (restR p.data.toList s.data.toList).toArray)
      generalize ByteArray.mk (restR p.data.toList s.data.toList).toArray = O at *
      have HRR : Hid (∀ W, Calls Try.prog 14 #[.string p, .string O] W fun e w' => e = .returned (.string O) ∧ Below W.heap.size W w') := (by
        intro W
        have := iRO_any p O W (by omega) (by omega)
        rw [hOD, hQ, restR_ok h1 h2 h3 (by omega) (by omega), rest_rest h1, ← hOD, hOmk] at this
        exact this)
      obtain ⟨n, hn⟩ : ∃ n, s.size = n + Q.length := ⟨s.size - Q.length, by omega⟩
      have HSU : Hid (sumU s.data.toList O.data.toList n Q.length = txt (S.take (S.length - Q.length) ++ xorl (S.drop (S.length - Q.length)) (remF Q S))) := (by
        show _ = _
        have e0 : S.length - Q.length = n := by omega
        unfold sumU
        rw [hS, hOD, ← txt_take, ← txt_drop, ← txt_take, ← txt_take, xrl_txt, ← txt_app, e0]
        congr 2
        rw [List.take_of_length_le (l := S.drop n) (by simp; omega), List.take_of_length_le (l := remF Q S) (by omega)])
      have HSS : Hid (∀ W, Calls Try.prog 18 #[.string p, .string ⟨(sumU s.data.toList O.data.toList n Q.length).toArray⟩] W fun e w' => e = .returned (.bool true) ∧ Below W.heap.size W w') := (by
        intro W
        have hsum := rest_sum (S := S) h1 hSQ
        have hl : (S.take (S.length - Q.length) ++ xorl (S.drop (S.length - Q.length)) (remF Q S)).length = S.length := by simp [xorl, hrl]; omega
        rw [HSU.out]
        have := iIS_any p ⟨(txt (S.take (S.length - Q.length) ++ xorl (S.drop (S.length - Q.length)) (remF Q S))).toArray⟩ W (by omega) (by rw [mk_size, txt_len, hl]; omega)
        rw [show (ByteArray.mk (txt (S.take (S.length - Q.length) ++ xorl (S.drop (S.length - Q.length)) (remF Q S))).toArray).data.toList = txt (S.take (S.length - Q.length) ++ xorl (S.drop (S.length - Q.length)) (remF Q S)) from rfl, hQ, sealedB_ok h1 h2 h3 (by omega) (by omega), decide_eq_true hsum] at this
        exact this)
      have HI := Lib.hid hi
      have HS := Lib.hid hs2
      have hX0 : s.extract 0 n = ⟨(sumU s.data.toList O.data.toList n 0).toArray⟩ := by
        rw [Lib.extract_eq, List.drop_zero, Nat.sub_zero]; simp [sumU, xrl]
      have HX0 := Lib.hid hX0
      have hn40 : n + Q.length ≤ 40 := by omega
      have HOL := Lib.hid hOL
      have HN := Lib.hid hn
      have hSL : ∀ k, (sumU s.data.toList O.data.toList n k).length ≤ 80 := by
        intro k
        simp [sumU, xrl]
        have : s.data.size = s.size := rfl
        omega
      have HSL := Lib.hid hSL
      have hps : (p.size : Int) - 1 = (Q.length : Int) := by omega
      generalize hq : Q.length = q at *
      clear hi hs2 he hQ hS hsr hOD hpl hsl hrl hOL hOmk hn hX0 h3 hSL hq
      go_wp2_with fail
      refine (HI.out _).mono ?_
      rintro e w2 ⟨rfl, hb2⟩
      have hb12 := hb1.trans (hb2.mono hb1.size)
      clear hb1 hb2
      have e1 : ((s.size : Int) - (q : Int)) = (n : Int) := by have := HN.out; omega
      have e2 : n ≤ s.size := by have := HN.out; omega
      have e3 : (q : Int) ≤ (s.size : Int) := by have := HN.out; omega
      go_wp2_with fail
      refine (HS.out _).mono ?_
      rintro e w3 ⟨rfl, m3, rfl⟩
      have hb3 := below_drewN hb12 m3
      generalize w2.drewN m3 = w3 at *
      clear hb12
      go_wp2
      go_loopw [7, 8] (fun t i wr => ∃ k m : Nat, k ≤ q ∧ i = .int .i64 k ∧ t = .string ⟨(sumU s.data.toList O.data.toList n k).toArray⟩ ∧ wr = w3.drewN m) (fun _ i _ => q - (intOf i).toNat)
      case atStart => exact ⟨0, 0, Nat.zero_le _, rfl, by rw [HX0.out], rfl⟩
      case round =>
        obtain ⟨k, m, hk, rfl, rfl, rfl⟩ := hrel
        by_cases hlt : k < q
        · have hks : n + k < s.size := by have := HN.out; omega
          have hko : k < O.size := by have := HOL.out; omega
          have HST := Lib.hid (sumU_snoc s O n k hks hko)
          have hsz : (ByteArray.mk (sumU s.data.toList O.data.toList n k).toArray).size ≤ 80 := by rw [mk_size]; exact HSL.out k
          have hLl := HSL.out k
          generalize sumU s.data.toList O.data.toList n k = L at *
          have q1 : IntKind.i64.wrap ((s.size : Int) - (q : Int)) = (n : Int) := by rw [e1]; exact IntWalk.i64_in _ (by omega)
          have q2 : IntKind.i64.wrap ((n : Int) + (k : Int)) = (n : Int) + (k : Int) := IntWalk.i64_in _ (by omega)
          have q3 : ((n : Int) + (k : Int)).toNat = n + k := by omega
          have q4 : (0 : Int) ≤ (n : Int) + (k : Int) := by omega
          have q5 : (n : Int) + (k : Int) < (s.size : Int) := by omega
          have q6 : (k : Int) < (O.size : Int) := by omega
          have q7 : IntKind.i64.wrap (n : Int) = (n : Int) := IntWalk.i64_in _ (by omega)
          by_cases hbb : s[n + k] = O[k]
          · have hqq : (((s[n + k].toNat : Int)) == (O[k].toNat : Int)) = true := by simp [hbb]
            have HE := Lib.hid hbb
            clear hbb
            go_wp2
            go_quiet (fail)
            go_wp2
            go_roundw
            case rel => exact ⟨k + 1, m + nq, by omega, by go_num, by rw [HST.out, if_pos HE.out, app_c], rfl⟩
            case measure => simp [intOf]; omega
          · have hqq : (((s[n + k].toNat : Int)) == (O[k].toNat : Int)) = false := by
              rw [beq_eq_false_iff_ne]; intro e; exact hbb (by rw [← UInt8.toNat_inj]; omega)
            have HE := Lib.hid hbb
            clear hbb
            go_wp2
            go_quiet (fail)
            go_wp2
            go_roundw
            case rel => exact ⟨k + 1, m + nq, by omega, by go_num, by rw [HST.out, if_neg HE.out, app_c], rfl⟩
            case measure => simp [intOf]; omega
        · obtain rfl : k = q := by omega
          have hbm := below_drewN hb3 m
          have hOq : ((O.size : Int) == (k : Int)) = true := by have := HOL.out; simp; omega
          generalize w3.drewN m = w4 at *
          have hSS := HSS.out
          generalize ByteArray.mk (sumU s.data.toList O.data.toList n k).toArray = U at *
          have HS2 := Lib.hid hSS
          clear hSS
          go_wp2_with fail
          refine (HRR.out _).mono ?_
          rintro e w5 ⟨rfl, hb5⟩
          have hb6 := hbm.trans (hb5.mono hbm.size)
          clear hbm hb5
          go_wp2_with fail
          refine (HS2.out _).mono ?_
          rintro e w7 ⟨rfl, hb7⟩
          go_wp2
          go_ret
          exact ⟨rfl, hb6.trans (hb7.mono hb6.size)⟩
end Go.Proofs.Ythmhjkflgokmgaa
