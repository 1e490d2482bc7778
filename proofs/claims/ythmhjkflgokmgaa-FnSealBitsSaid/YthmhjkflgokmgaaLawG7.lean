/-
  The walk of the law FnSealBits: it returns true at every code. No condition but that the code is a list that can be.
-/
import Derived.Test.YthmhjkflgokmgaaWse
import Derived.Test.YthmhjkflgokmgaaWdraw
import Derived.Test.YthmhjkflgokmgaaWtb
namespace Go.Proofs.Ythmhjkflgokmgaa
open Go.RowKit
set_option linter.unusedVariables false

/-- Where SealBits gives something: the bits, and what they are sealed with. -/
theorem sealR_of {p s : List UInt8} (h : sealR p s ≠ []) : ∃ (Q S R : List Bool), p = txt (true :: Q) ∧ s = txt S ∧ 1 ≤ Q.length ∧ Q.length ≤ 8 ∧ Q.getLast? = some true ∧ R.length = Q.length ∧ (S ++ R).length ≤ 40 ∧ sealR p s = txt (S ++ R) ∧ remF Q (S ++ R) = Go.Proofs.Ythmhjkflgokmgaa.zs Q.length := by
  cases hv : polyB p
  · exact absurd (sealR_1 hv) h
  · cases hb : bitsB 40 (s ++ List.replicate (p.length - 1) 48)
    · exact absurd (sealR_2 hb) h
    · obtain ⟨Q, rfl, h1, h2, h3⟩ := polyB_of hv
      have hb2 : (s ++ List.replicate ((txt (true :: Q)).length - 1) 48).length ≤ 40 ∧ (s ++ List.replicate ((txt (true :: Q)).length - 1) 48).all isBit = true := by simpa [bitsB] using hb
      have hlen : (txt (true :: Q)).length - 1 = Q.length := by rw [txt_len]; simp
      rw [hlen] at hb hb2
      have hsb : s.all isBit = true := by
        have := hb2.2
        rw [List.all_append, Bool.and_eq_true] at this
        exact this.1
      obtain ⟨S, rfl⟩ := txt_of hsb
      have hz : List.replicate Q.length (48 : UInt8) = txt (zs Q.length) := (txt_zs _).symm
      have hl40 : S.length + Q.length ≤ 40 := by have := hb2.1; rw [List.length_append, txt_len, List.length_replicate] at this; exact this
      refine ⟨Q, S, remF Q (S ++ zs Q.length), rfl, rfl, h1, h2, h3, remF_len Q _ h1, by rw [List.length_append, remF_len Q _ h1]; exact hl40, ?_, sealed_ok h1⟩
      rw [sealR_3 hv (by rw [hlen]; exact hb), hlen, hz, ← txt_app, remU_txt Q _ h1 (by simp [zs]), ← txt_app]

set_option maxHeartbeats 3200000 in
theorem fnSealBits_walk (a : Option Addr) (len cap : Nat) (zs : List Int) (w : World) (h : IsRow .u8 w a len cap zs) :
    Calls Try.prog 9 #[.slice a len cap] w fun e w' => e = .returned (.bool true) ∧ Below w.heap.size w w' := by
  by_cases hg : (1048576 : Int) < (len : Int)
  · go_enter Try.func9, Try.ntmps9
    go_wp2_with fail
    go_ret
    exact ⟨rfl, Below.refl _ _⟩
  · have H := Lib.hid (dse_any w a len cap zs h)
    clear h
    go_enter Try.func9, Try.ntmps9
    go_wp2_with fail
    refine H.out.mono ?_
    rintro e w1 ⟨p, s, rfl, hp, hs, hb1⟩
    clear H
    have hi := fun W => iSE_any p s W (by omega) (by omega)
    have hs2 := fun W => sSE_any p s W (by omega) (by omega)
    by_cases he : sealR p.data.toList s.data.toList = []
    · rw [he] at hi hs2
      have HI := Lib.hid hi
      have HS := Lib.hid hs2
      clear hi hs2 he
      go_wp2_with fail
      refine (HI.out _).mono ?_
      rintro e w2 ⟨rfl, hb2⟩
      have hb12 := hb1.trans (hb2.mono hb1.size)
      clear hb1 hb2
      go_wp2_with fail
      refine (HS.out _).mono ?_
      rintro e w3 ⟨rfl, m3, rfl⟩
      go_wp2_with fail
      refine (HS.out _).mono ?_
      rintro e w4 ⟨rfl, m4, rfl⟩
      go_wp2
      go_ret
      exact ⟨rfl, below_drewN hb12 _⟩
    · obtain ⟨Q, S, R, hQ, hS, h1, h2, h3, hR, h40, hsr, hrem⟩ := sealR_of he
      have hpl : p.size = Q.length + 1 := by
        have : p.data.toList.length = p.size := by simp
        rw [← this, hQ, txt_len]; rfl
      have hsl : s.size = S.length := by
        have : s.data.toList.length = s.size := by simp
        rw [← this, hS, txt_len]
      have hOL : (ByteArray.mk (sealR p.data.toList s.data.toList).toArray).size = (S ++ R).length := by rw [mk_size, hsr, txt_len]
      have hne : (ByteArray.mk (sealR p.data.toList s.data.toList).toArray).toList.isEmpty = false := by
        rw [Lib.toList_data]; exact List.isEmpty_eq_false_iff.2 he
      have hne2 : ¬ (ByteArray.mk (sealR p.data.toList s.data.toList).toArray).toList = [] := by
        rw [Lib.toList_data]; exact he
      have hOD : (ByteArray.mk (sealR p.data.toList s.data.toList).toArray).data.toList = txt (S ++ R) := hsr
      have hOX : (ByteArray.mk (sealR p.data.toList s.data.toList).toArray).extract 0 s.size = s := by
        rw [Lib.extract_eq, hOD, List.drop_zero, Nat.sub_zero, hsl, ← txt_take, List.take_left, ← hS, Lib.mk_data]
      generalize ByteArray.mk (sealR p.data.toList s.data.toList).toArray = O at *
      have hO40 : O.size ≤ 40 := by omega
      have HT : Hid (∀ k, k < O.size → ∀ W, Calls Try.prog 18 #[.string p, .string ⟨(turnU O.data.toList k).toArray⟩] W fun e w' => e = .returned (.bool false) ∧ Below W.heap.size W w') := (by
        intro k hk W
        have hk2 : k < (S ++ R).length := by omega
        have e1 := turnU_txt (S ++ R) k hk2
        have := iIS_any p ⟨(turnU O.data.toList k).toArray⟩ W (by omega) (by rw [mk_size, turnU_len _ _ (by simpa using hk)]; simp; have : O.data.size = O.size := rfl; omega)
        rw [show (ByteArray.mk (turnU O.data.toList k).toArray).data.toList = turnU O.data.toList k from rfl, hOD, e1, hQ] at this
        have hl2 : (xorl (S ++ R) (one k (S ++ R).length)).length = (S ++ R).length := by rw [xorl_len, one_len hk2]; simp
        rw [sealedB_ok h1 h2 h3 (by omega) (by rw [hl2, List.length_append]; omega), decide_eq_false (turned_one h1 h3 hrem k hk2)] at this
        rw [hOD, e1]
        exact this)
      have HF : Hid (∀ W, Calls Try.prog 18 #[.string p, .string O] W fun e w' => e = .returned (.bool true) ∧ Below W.heap.size W w') := (by
        intro W
        have := iIS_any p O W (by omega) (by omega)
        rw [hOD, hQ, sealedB_ok h1 h2 h3 h40 (by rw [List.length_append]; omega), decide_eq_true hrem] at this
        exact this)
      have HI := Lib.hid hi
      have HS := Lib.hid hs2
      have hsz : (O.size : Int) = (s.size : Int) + (p.size : Int) - 1 := by rw [hOL, hsl, hpl, List.length_append, hR]; omega
      have hOs : s.size ≤ O.size := by rw [hOL, hsl, List.length_append]; omega
      have HSZ := Lib.hid hsz
      have HOX := Lib.hid hOX
      clear hi hs2 he hQ hS hR hsr hrem hOD hOX hsz hOL hsl hpl
      go_wp2_with fail
      refine (HI.out _).mono ?_
      rintro e w2 ⟨rfl, hb2⟩
      have hb12 := hb1.trans (hb2.mono hb1.size)
      clear hb1 hb2
      go_wp2_with fail
      refine (HS.out _).mono ?_
      rintro e w3 ⟨rfl, m3, rfl⟩
      have hb3 := below_drewN hb12 m3
      generalize w2.drewN m3 = w3 at *
      clear hb12
      go_wp2
      go_loopw [6] (fun kv wr => ∃ k : Nat, k ≤ O.size ∧ kv = .int .i64 k ∧ Below w.heap.size w wr) (fun kv _ => O.size - (intOf kv).toNat)
      case atStart => exact ⟨0, Nat.zero_le _, rfl, hb3⟩
      case round =>
        obtain ⟨k, hk, rfl, hbel⟩ := hrel
        clear hb3
        by_cases hlt : k < O.size
        · have ht := tb_any O k wr hlt (by omega)
          have hw0 := HT.out k hlt
          generalize ByteArray.mk (turnU O.data.toList k).toArray = T at *
          have HT0 := Lib.hid ht
          have HW0 := Lib.hid hw0
          clear ht hw0
          go_wp2_with fail
          refine HT0.out.mono ?_
          rintro e w4 ⟨rfl, m4, rfl⟩
          have hb4 := below_drewN hbel m4
          generalize wr.drewN m4 = w4 at *
          clear hbel HT0
          go_wp2_with fail
          refine (HW0.out _).mono ?_
          rintro e w5 ⟨rfl, hb5⟩
          have hb6 := hb4.trans (hb5.mono hb4.size)
          clear hb5 hb4
          go_wp2
          go_roundw
          case rel => exact ⟨k + 1, by omega, by go_num, hb6⟩
          case measure => simp [intOf]; omega
        · go_wp2_with fail
          refine (HF.out _).mono ?_
          rintro e w5 ⟨rfl, hb5⟩
          have hb6 := hbel.trans (hb5.mono hbel.size)
          clear hb5 hbel
          have hOX := HOX.out
          have hq : ((O.size : Int) == (s.size : Int) + (p.size : Int) - 1) = true := by rw [HSZ.out]; simp
          go_wp2
          go_ret
          exact ⟨rfl, hb6⟩
end Go.Proofs.Ythmhjkflgokmgaa
