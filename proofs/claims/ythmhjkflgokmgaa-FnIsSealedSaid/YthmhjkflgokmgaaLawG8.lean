/-
  The walk of the law FnIsSealed: it returns true at every code. No condition but that the code is a list that can be.
-/
import Derived.Test.YthmhjkflgokmgaaWse
import Derived.Test.YthmhjkflgokmgaaWdraw
import Derived.Test.YthmhjkflgokmgaaWtb
import Derived.Test.YthmhjkflgokmgaaWlz
namespace Go.Proofs.Ythmhjkflgokmgaa
open Go.RowKit
set_option linter.unusedVariables false

/-- Where IsSealed holds: the divisor, and bits that leave nothing. -/
theorem sealedB_of {p s : List UInt8} (h : sealedB p s = true) : ∃ (Q S : List Bool), p = txt (true :: Q) ∧ s = txt S ∧ 1 ≤ Q.length ∧ Q.length ≤ 8 ∧ Q.getLast? = some true ∧ Q.length ≤ S.length ∧ S.length ≤ 40 ∧ remF Q S = Go.Proofs.Ythmhjkflgokmgaa.zs Q.length := by
  have h0 := h
  unfold sealedB at h
  rw [Bool.and_eq_true, Bool.and_eq_true, Bool.and_eq_true, decide_eq_true_iff] at h
  obtain ⟨⟨⟨hp, hb⟩, hl⟩, hw⟩ := h
  obtain ⟨Q, rfl, h1, h2, h3⟩ := polyB_of hp
  have hb2 : s.length ≤ 40 ∧ s.all isBit = true := by simpa [bitsB] using hb
  obtain ⟨S, rfl⟩ := txt_of hb2.2
  rw [txt_len, txt_len, List.length_cons] at hl
  have hS : S.length ≤ 40 := by have := hb2.1; rwa [txt_len] at this
  refine ⟨Q, S, rfl, rfl, h1, h2, h3, by omega, hS, ?_⟩
  rw [sealedB_ok h1 h2 h3 hS (by omega), decide_eq_true_iff] at h0
  exact h0

set_option maxHeartbeats 3200000 in
theorem fnIsSealed_walk (a : Option Addr) (len cap : Nat) (zs : List Int) (w : World) (h : IsRow .u8 w a len cap zs) :
    Calls Try.prog 10 #[.slice a len cap] w fun e w' => e = .returned (.bool true) ∧ Below w.heap.size w w' := by
  by_cases hg : (1048576 : Int) < (len : Int)
  · go_enter Try.func10, Try.ntmps10
    go_wp2_with fail
    go_ret
    exact ⟨rfl, Below.refl _ _⟩
  · have H := Lib.hid (dis_any w a len cap zs h)
    clear h
    go_enter Try.func10, Try.ntmps10
    go_wp2_with fail
    refine H.out.mono ?_
    rintro e w1 ⟨p, s, rfl, hp, hs, hb1⟩
    clear H
    have hi := fun W => iIS_any p s W (by omega) (by omega)
    have hs2 := fun W => sIS_any p s W (by omega) (by omega)
    cases hv : sealedB p.data.toList s.data.toList
    · rw [hv] at hi hs2
      have HI := Lib.hid hi
      have HS := Lib.hid hs2
      clear hi hs2 hv
      go_wp2_with fail
      refine (HI.out _).mono ?_
      rintro e w2 ⟨rfl, hb2⟩
      have hb12 := hb1.trans (hb2.mono hb1.size)
      clear hb1 hb2
      go_wp2_with fail
      refine (HS.out _).mono ?_
      rintro e w3 ⟨rfl, m3, rfl⟩
      go_wp2_with fail
      refine (HS.out _).mono ?_
      rintro e w4 ⟨rfl, m4, rfl⟩
      go_wp2
      go_ret
      exact ⟨rfl, below_drewN hb12 _⟩
    · obtain ⟨Q, S, hQ, hS, h1, h2, h3, hSQ, h40, hrem⟩ := sealedB_of hv
      rw [hv] at hi hs2
      have hpl : p.size = Q.length + 1 := by
        have : p.data.toList.length = p.size := by simp
        rw [← this, hQ, txt_len]; rfl
      have hsl : s.size = S.length := by
        have : s.data.toList.length = s.size := by simp
        rw [← this, hS, txt_len]
      have hs40 : s.size ≤ 40 := by omega
      have HT : Hid (2 < p.size → ∀ k, k + 1 < s.size → ∀ W, Calls Try.prog 18 #[.string p, .string ⟨(turnU (turnU s.data.toList k) (k + 1)).toArray⟩] W fun e w' => e = .returned (.bool false) ∧ Below W.heap.size W w') := (by
        intro h3p k hk W
        have hk2 : k + 1 < S.length := by omega
        have e1 := turnU_txt S k (by omega)
        have hl2 : (xorl S (one k S.length)).length = S.length := by rw [xorl_len, one_len (by omega)]; simp
        have e2 := turnU_txt (xorl S (one k S.length)) (k + 1) (by omega)
        rw [hl2] at e2
        have hl3 : (xorl (xorl S (one k S.length)) (one (k + 1) S.length)).length = S.length := by rw [xorl_len, hl2, one_len (by omega)]; simp
        have := iIS_any p ⟨(turnU (turnU s.data.toList k) (k + 1)).toArray⟩ W (by omega) (by rw [mk_size, hS, e1, e2, txt_len, hl3]; omega)
        rw [show (ByteArray.mk (turnU (turnU s.data.toList k) (k + 1)).toArray).data.toList = turnU (turnU s.data.toList k) (k + 1) from rfl, hS, e1, e2, hQ] at this
        rw [sealedB_ok h1 h2 h3 (by omega) (by omega), decide_eq_false (turned_two (by omega) h3 hrem k hk2)] at this
        rw [hS, e1, e2]
        exact this)
      have hrr : restR p.data.toList s.data.toList = List.replicate Q.length 48 := by
        rw [hQ, hS, restR_ok h1 h2 h3 h40 hSQ, hrem, txt_zs]
      have hro := fun W => iRO_any p s W (by omega) (by omega)
      rw [hrr] at hro
      have hlz := fun W => lze_any ((p.size : Int) - 1) W (by omega) (by omega)
      rw [show ((p.size : Int) - 1).toNat = Q.length from by omega] at hlz
      have HI := Lib.hid hi
      have HS := Lib.hid hs2
      generalize ByteArray.mk (List.replicate Q.length (48 : UInt8)).toArray = Z at *
      have HRO := Lib.hid hro
      have HLZ := Lib.hid hlz
      have hp22 : 2 ≤ p.size := by omega
      clear hi hs2 hv hQ hS hrem hrr hro hlz hsl hpl
      go_wp2_with fail
      refine (HI.out _).mono ?_
      rintro e w2 ⟨rfl, hb2⟩
      have hb12 := hb1.trans (hb2.mono hb1.size)
      clear hb1 hb2
      go_wp2_with fail
      refine (HS.out _).mono ?_
      rintro e w3 ⟨rfl, m3, rfl⟩
      have hb3 := below_drewN hb12 m3
      generalize w2.drewN m3 = w3 at *
      clear hb12
      go_wp2
      go_loopw [6] (fun kv wr => ∃ k : Nat, k ≤ s.size ∧ kv = .int .i64 k ∧ Below w.heap.size w wr) (fun kv _ => s.size - (intOf kv).toNat)
      case atStart => exact ⟨0, Nat.zero_le _, rfl, hb3⟩
      case round =>
        obtain ⟨k, hk, rfl, hbel⟩ := hrel
        clear hb3
        by_cases hlt : k + 1 < s.size ∧ 2 < p.size
        · obtain ⟨hlt, hp2⟩ := hlt
          have hd1 : decide ((k : Int) + 1 < (s.size : Int)) = true := by simp; omega
          have hd2 : decide ((2 : Int) < (p.size : Int)) = true := by simp; omega
          have hd3 : (2 : Int) < (p.size : Int) := by omega
          have hd4 : (k : Int) + 1 < (s.size : Int) := by omega
          have ht := tb_any s k wr (by omega) (by omega)
          have hts : (ByteArray.mk (turnU s.data.toList k).toArray).size = s.size := by rw [mk_size, turnU_len _ _ (by simp; have : s.data.size = s.size := rfl; omega)]; simp
          have ht2 := fun W => tb_any ⟨(turnU s.data.toList k).toArray⟩ (k + 1) W (by omega) (by omega)
          rw [show (ByteArray.mk (turnU s.data.toList k).toArray).data.toList = turnU s.data.toList k from rfl] at ht2
          have hw0 := HT.out hp2 k hlt
          generalize ByteArray.mk (turnU (turnU s.data.toList k) (k + 1)).toArray = T2 at *
          generalize ByteArray.mk (turnU s.data.toList k).toArray = T at *
          have HT0 := Lib.hid ht
          have HT2 := Lib.hid ht2
          have HW0 := Lib.hid hw0
          clear ht ht2 hw0 hts
          go_wp2_with fail
          refine HT0.out.mono ?_
          rintro e w4 ⟨rfl, m4, rfl⟩
          have hb4 := below_drewN hbel m4
          generalize wr.drewN m4 = w4 at *
          clear hbel HT0
          go_wp2_with fail
          refine (HT2.out _).mono ?_
          rintro e w5 ⟨rfl, m5, rfl⟩
          have hb5 := below_drewN hb4 m5
          generalize w4.drewN m5 = w5 at *
          clear hb4
          go_wp2_with fail
          refine (HW0.out _).mono ?_
          rintro e w6 ⟨rfl, hb6⟩
          have hb7 := hb5.trans (hb6.mono hb5.size)
          clear hb5 hb6
          go_wp2
          go_roundw
          case rel => exact ⟨k + 1, by omega, by go_num, hb7⟩
          case measure => simp [intOf]; omega
        · have hcase : ¬ ((k : Int) + 1 < (s.size : Int)) ∨ ((k : Int) + 1 < (s.size : Int) ∧ ¬ (2 : Int) < (p.size : Int)) := by omega
          rcases hcase with hc1 | ⟨hc1, hc2⟩
          · have hd1 : decide ((k : Int) + 1 < (s.size : Int)) = false := by simp; omega
            go_wp2_with fail
            refine (HRO.out _).mono ?_
            rintro e w5 ⟨rfl, hb5⟩
            have hb6 := hbel.trans (hb5.mono hbel.size)
            clear hb5 hbel
            go_wp2_with fail
            refine (HLZ.out _).mono ?_
            rintro e w6 ⟨rfl, rfl⟩
            go_wp2
            go_ret
            exact ⟨rfl, hb6⟩
          · have hd1 : decide ((k : Int) + 1 < (s.size : Int)) = true := by simp; omega
            have hd2 : decide ((2 : Int) < (p.size : Int)) = false := by simp; omega
            have hd3 : (p.size : Int) ≤ 2 := by omega
            have hps : p.size = 2 := by omega
            clear hps
            go_wp2_with fail
            refine (HRO.out _).mono ?_
            rintro e w5 ⟨rfl, hb5⟩
            have hb6 := hbel.trans (hb5.mono hbel.size)
            clear hb5 hbel
            go_wp2_with fail
            refine (HLZ.out _).mono ?_
            rintro e w6 ⟨rfl, rfl⟩
            go_wp2
            go_ret
            exact ⟨rfl, hb6⟩
end Go.Proofs.Ythmhjkflgokmgaa
