/-
  The walk of the law FnCycleOf: it returns true at every code. No condition but that the code is a list that can be.
-/
import Derived.Test.YtpneopldbeefhaaWcyc
import Derived.Test.YtpneopldbeefhaaWse
import Derived.Test.YtpneopldbeefhaaWlz
import Derived.Test.YtpneopldbeefhaaWdraw
namespace Go.Proofs.Ytpneopldbeefhaa
open Go.RowKit
set_option linter.unusedVariables false

/-- The texts of which one is drawn. -/
def cycs : List ByteArray := [⟨#[49, 48, 49, 49]⟩, ⟨#[49, 49]⟩, ⟨#[49, 49, 49]⟩, ⟨#[49, 48, 48, 49, 49]⟩, ⟨#[49, 49, 48, 49]⟩, ⟨#[49, 48, 49]⟩, ⟨#[49, 49, 48, 48, 48, 49]⟩, ⟨#[49, 49, 48, 49, 49]⟩, ⟨#[49, 49, 49, 49]⟩, ⟨#[49, 48, 48, 49]⟩, ⟨#[49]⟩, ⟨#[]⟩]
set_option maxHeartbeats 800000 in
theorem dcy_any (w : World) (a : Option Addr) (len cap : Nat) (zs : List Int) (h : IsRow .u8 w a len cap zs) :
    Calls Try.prog 18 #[.slice a len cap] w fun e w' => ∃ t : ByteArray, e = .returned (.string t) ∧ t.size ≤ 10 ∧ Below w.heap.size w w' := by
  have H := Lib.hid (nr_any w a len cap zs h)
  clear h
  go_enter Try.func18, Try.ntmps18
  go_wp2_with fail
  refine H.out.mono ?_
  rintro e w1 ⟨rfl, hr, hb, hz⟩
  have hbs := hb.size
  have hgl := hr.lt
  have HR := Lib.hid hr
  clear H hz hr
  go_wp2_with fail
  refine (of_any (HR.out.alloc _) (by omega) w1.heap.size 12 12 cycs rfl (by omega) (by omega) (by omega) (new_strs w1 cycs _)).mono ?_
  rintro e w2 ⟨x, m2, rfl, hx, hw2⟩
  have hb2 : Below w.heap.size w w2 := by rw [hw2]; exact (hb.alloc hbs _).trans (picked_below (HR.out.alloc _) m2)
  have hxl := mem_size (n := 10) (by decide +kernel) hx
  clear hw2 hx
  go_wp2
  go_ret
  exact ⟨x, rfl, hxl, hb2⟩

theorem seal_cyc {Q : List Bool} {K k : Nat} (h1 : 1 ≤ Q.length) (h2 : Q.length ≤ 8) (hl : Q.getLast? = some true) (h : IsCyc Q K) (hk : Q.length ≤ k) (hkK : k < K) (h40 : k < 40) : sealedB (txt (true :: Q)) (txt (two 0 (k - 1) 0)) = false := by
  have hlen : (two 0 (k - 1) 0).length = k + 1 := by rw [two_len]; omega
  rw [sealedB_ok h1 h2 hl (by omega) (by omega), decide_eq_false_iff_not, two_iff Q h1 hl, show k - 1 + 1 = k from by omega]
  exact h.2.2 k (by omega) hkK
theorem seal_cyc_yes {Q : List Bool} {K : Nat} (h1 : 1 ≤ Q.length) (h2 : Q.length ≤ 8) (hl : Q.getLast? = some true) (h : IsCyc Q K) (h40 : K + 1 ≤ 40) : sealedB (txt (true :: Q)) (txt (two 0 (K - 1) 0)) = true := by
  have hK := h.1
  have hge := cyc_ge h1 h
  have hlen : (two 0 (K - 1) 0).length = K + 1 := by rw [two_len]; omega
  rw [sealedB_ok h1 h2 hl (by omega) (by omega), decide_eq_true_iff, two_iff Q h1 hl, show K - 1 + 1 = K from by omega]
  exact h.2.1

set_option maxHeartbeats 3200000 in
theorem fnCycleOf_walk (a : Option Addr) (len cap : Nat) (zs : List Int) (w : World) (h : IsRow .u8 w a len cap zs) :
    Calls Try.prog 6 #[.slice a len cap] w fun e w' => e = .returned (.bool true) ∧ Below w.heap.size w w' := by
  by_cases hg : (1048576 : Int) < (len : Int)
  · go_enter Try.func6, Try.ntmps6
    go_wp2_with fail
    go_ret
    exact ⟨rfl, Below.refl _ _⟩
  · have H := Lib.hid (dcy_any w a len cap zs h)
    clear h
    go_enter Try.func6, Try.ntmps6
    go_wp2_with fail
    refine H.out.mono ?_
    rintro e w1 ⟨p, rfl, hp, hb1⟩
    clear H
    obtain ⟨x, hx⟩ := cycR_some p.data.toList
    have HS := Lib.hid (fun W => sCY_any p x W (by omega) hx)
    have HI := Lib.hid (fun W => iCY_any p x W (by omega) hx)
    rcases hx with ⟨hv, rfl⟩ | ⟨Q, K, hQ, hq1, hq2, hq3, hc, hK, rfl⟩
    · clear hv
      go_wp2_with fail
      refine (HI.out _).mono ?_
      rintro e w2 ⟨rfl, hb2⟩
      have hb12 := hb1.trans (hb2.mono hb1.size)
      clear hb1 hb2
      go_wp2_with fail
      refine (HS.out _).mono ?_
      rintro e w3 ⟨rfl, m3, rfl⟩
      go_wp2_with fail
      refine (HS.out _).mono ?_
      rintro e w4 ⟨rfl, m4, rfl⟩
      go_wp2
      go_ret
      exact ⟨rfl, below_drewN hb12 _⟩
    · have hpl : p.size = Q.length + 1 := by
        have : p.data.toList.length = p.size := by simp
        rw [← this, hQ, txt_len]; rfl
      have hge := cyc_ge hq1 hc
      have hK1 := hc.1
      have HNO : Hid (∀ k, Q.length ≤ k → k < K → k < 40 → ∀ (Z : ByteArray), Z = ByteArray.mk (List.replicate (k - 1) (48 : UInt8)).toArray → ∀ (W : World), Calls Try.prog 19 #[.string p, .string (({ data := #[49] } : ByteArray) ++ Z ++ { data := #[49] })] W fun e w' => e = .returned (.bool false) ∧ Below W.heap.size W w') := (by
        intro k hk hk2 hk3 Z hZ W
        have hs := str_two k (by omega)
        rw [← hZ] at hs
        have := iIS_any p (({ data := #[49] } : ByteArray) ++ Z ++ { data := #[49] }) W (by omega) (by rw [hs, mk_size, txt_len, two_len]; omega)
        rw [hs, hQ] at this
        rw [hs]
        rw [show (ByteArray.mk (txt (two 0 (k - 1) 0)).toArray).data.toList = txt (two 0 (k - 1) 0) from rfl, seal_cyc hq1 hq2 hq3 hc hk hk2 hk3] at this
        exact this)
      have HYES : Hid (K + 1 ≤ 40 → ∀ (Z : ByteArray), Z = ByteArray.mk (List.replicate (K - 1) (48 : UInt8)).toArray → ∀ (W : World), Calls Try.prog 19 #[.string p, .string (({ data := #[49] } : ByteArray) ++ Z ++ { data := #[49] })] W fun e w' => e = .returned (.bool true) ∧ Below W.heap.size W w') := (by
        intro hk3 Z hZ W
        have hs := str_two K (by omega)
        rw [← hZ] at hs
        have := iIS_any p (({ data := #[49] } : ByteArray) ++ Z ++ { data := #[49] }) W (by omega) (by rw [hs, mk_size, txt_len, two_len]; omega)
        rw [hs, hQ] at this
        rw [hs]
        rw [show (ByteArray.mk (txt (two 0 (K - 1) 0)).toArray).data.toList = txt (two 0 (K - 1) 0) from rfl, seal_cyc_yes hq1 hq2 hq3 hc hk3] at this
        exact this)
      clear hQ hc
      go_wp2_with fail
      refine (HI.out _).mono ?_
      rintro e w2 ⟨rfl, hb2⟩
      have hb12 := hb1.trans (hb2.mono hb1.size)
      clear hb1 hb2
      have hK0 : ¬ (K : Int) < 0 := by omega
      have hK0d : decide ((K : Int) < 0) = false := by simp
      go_wp2_with fail
      refine (HS.out _).mono ?_
      rintro e w3 ⟨rfl, m3, rfl⟩
      have hb3 := below_drewN hb12 m3
      generalize w2.drewN m3 = w3 at *
      clear hb12
      go_wp2
      go_loopw [5] (fun kv wr => ∃ k : Nat, Q.length ≤ k ∧ k ≤ K ∧ kv = .int .i64 k ∧ Below w.heap.size w wr) (fun kv _ => K - (intOf kv).toNat)
      case atStart => exact ⟨Q.length, by omega, by omega, by go_num, hb3⟩
      case round =>
        obtain ⟨k, hk1, hkK, rfl, hbel⟩ := hrel
        clear hb3
        by_cases hlt : k < K ∧ k < 40
        · obtain ⟨hl1, hl2⟩ := hlt
          have hd1 : decide ((k : Int) < (K : Int)) = true := by simp; omega
          have hd2 : decide ((k : Int) < 40) = true := by simp; omega
          have hz := lze_any ((k : Int) - 1) wr (by omega) (by omega)
          rw [show ((k : Int) - 1).toNat = k - 1 from by omega] at hz
          have hw0 := HNO.out k hk1 hl1 hl2 _ rfl
          have hZs : (ByteArray.mk (List.replicate (k - 1) (48 : UInt8)).toArray).size ≤ 256 := by rw [mk_size]; simp; omega
          generalize ByteArray.mk (List.replicate (k - 1) (48 : UInt8)).toArray = Z at *
          have HZ := Lib.hid hz
          have HW0 := Lib.hid hw0
          clear hz hw0
          go_wp2_with (go_at_call 20; refine HZ.out.mono ?_; rintro e w' ⟨rfl, rfl⟩)
          refine (HW0.out _).mono ?_
          rintro e w5 ⟨rfl, hb5⟩
          have hb6 := hbel.trans (hb5.mono hbel.size)
          clear hb5 hbel
          go_wp2
          go_roundw
          case rel => exact ⟨k + 1, by omega, by omega, by go_num, hb6⟩
          case measure => simp [intOf]; omega
        · have hz := lze_any ((K : Int) - 1) wr (by omega) (by omega)
          rw [show ((K : Int) - 1).toNat = K - 1 from by omega] at hz
          have hZs : (ByteArray.mk (List.replicate (K - 1) (48 : UInt8)).toArray).size ≤ 256 := by rw [mk_size]; simp; omega
          have hw0 := fun h => HYES.out h _ rfl
          generalize ByteArray.mk (List.replicate (K - 1) (48 : UInt8)).toArray = Z at *
          have HZ := Lib.hid hz
          clear hz
          have hK2 : (1 : Int) ≤ (K : Int) := by omega
          have hK2d : decide ((1 : Int) ≤ (K : Int)) = true := by simp; omega
          by_cases h40 : K + 1 ≤ 40
          · have hk : ¬ (k : Int) < (K : Int) := by omega
            have HW0 := Lib.hid (hw0 h40)
            have hq : ¬ (40 : Int) < (K : Int) + 1 := by omega
            have hqd : decide ((40 : Int) < (K : Int) + 1) = false := by simp; omega
            clear hw0
            go_wp2_with (go_at_call 20; refine HZ.out.mono ?_; rintro e w' ⟨rfl, rfl⟩)
            refine (HW0.out _).mono ?_
            rintro e w5 ⟨rfl, hb5⟩
            have hb6 := hbel.trans (hb5.mono hbel.size)
            clear hb5 hbel
            go_wp2
            go_ret
            exact ⟨rfl, hb6⟩
          · have hq : (40 : Int) < (K : Int) + 1 := by omega
            have hqd : decide ((40 : Int) < (K : Int) + 1) = true := by simp; omega
            clear hw0
            rcases (show ¬ (k : Int) < (K : Int) ∨ ((k : Int) < (K : Int) ∧ ¬ (k : Int) < 40) from by omega) with hk | ⟨hk, hkk⟩
            all_goals
              go_wp2
              go_ret
              exact ⟨rfl, hbel⟩
end Go.Proofs.Ytpneopldbeefhaa
