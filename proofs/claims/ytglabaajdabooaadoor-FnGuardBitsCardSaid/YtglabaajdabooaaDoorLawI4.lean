/-
  The walk of the law FnGuardBits: it returns true at every code. Condition: what the two tables hold.
-/
import Derived.Test.YtglabaajdabooaaDoorWgm
namespace Go.Proofs.YtglabaajdabooaaDoor
open Go.RowKit
set_option linter.unusedVariables false

set_option maxHeartbeats 3200000 in
theorem fnGuardBits_walk (a : Option Addr) (len cap : Nat) (zs : List Int) (w : World) (h : IsRow .u8 w a len cap zs) (ht : Tabs w) :
    Calls Tryd.prog 5 #[.slice a len cap] w fun e w' => e = .returned (.bool true) ∧ Below w.heap.size w w' := by
  by_cases hg : (1048576 : Int) < (len : Int)
  · go_enter Tryd.func5, Tryd.ntmps5
    go_wp2_with fail
    go_ret
    exact ⟨rfl, Below.refl _ _⟩
  · have H := Lib.hid (dgb_any w a len cap zs h)
    have HT := Lib.hid ht
    clear h ht
    go_enter Tryd.func5, Tryd.ntmps5
    go_wp2_with fail
    refine H.out.mono ?_
    rintro e w1 ⟨s, rfl, hs, hb1⟩
    clear H
    have HT1 := Lib.hid (HT.out.below hb1 HT.out.sz)
    have hsm : s.size ≤ maxLen := by unfold maxLen; omega
    have h1 := fun W hT => iGB_any s W hsm hT
    have h2 := fun W => sGB_any s W hsm
    have hpl : s.data.toList.length = s.size := by simp
    by_cases hv : bitsB 40 s.data.toList = true ∧ s.data.toList.length = 4
    · obtain ⟨g, hgd, hg7, hm0, hmi⟩ := guard_mend hv.1 hv.2
      rw [hgd] at h1 h2
      have hgz : (ByteArray.mk g.toArray).size = 7 := by rw [mk_size, hg7]
      have hss : (⟨s.data.toList.toArray⟩ : ByteArray) = s := by apply ByteArray.ext; simp
      have h3 := fun W hT => iMB_any ⟨g.toArray⟩ W (by rw [hgz]; unfold maxLen; omega) hT
      have e3 : (⟨g.toArray⟩ : ByteArray).data.toList = g := rfl
      rw [e3, hm0, hss] at h3
      have h4 : ∀ i : Nat, i < 7 → ∀ W, Tabs W → Calls Tryd.prog 10 #[.string ⟨(turnU g i).toArray⟩] W fun e w' => e = .returned (.tuple #[.string s, .int .i64 ((i : Int) + 1)]) ∧ Below W.heap.size W w' := fun i hi W hT => by
        have h5 := iMB_any ⟨(turnU g i).toArray⟩ W (by rw [mk_size]; unfold turnU maxLen; simp; omega) hT
        have e5 : (⟨(turnU g i).toArray⟩ : ByteArray).data.toList = turnU g i := rfl
        rw [e5, hmi i hi, hss] at h5
        exact h5
      have h6 : ∀ i : Nat, i < 7 → ∀ W, Calls Tryd.prog 12 #[.string ⟨g.toArray⟩, .int .i64 i] W fun e w' => e = .returned (.string ⟨(turnU g i).toArray⟩) ∧ ∃ m, w' = W.drewN m := fun i hi W => tb_any ⟨g.toArray⟩ i W (by omega) (by omega)
      have HI := Lib.hid h1
      have HS := Lib.hid h2
      have HM := Lib.hid h3
      have HMI := Lib.hid h4
      have HTB := Lib.hid h6
      have hne : (ByteArray.mk g.toArray).toList.isEmpty = false := by
        rw [Lib.toList_data]; exact List.isEmpty_eq_false_iff.2 (by intro h0; have h0 : g = [] := h0; rw [h0] at hg7; cases hg7)
      have hne2 : ¬ (ByteArray.mk g.toArray).toList = [] := by
        rw [Lib.toList_data]; intro h0; have h0 : g = [] := h0; rw [h0] at hg7; cases hg7
      have HZ := Lib.hid hgz
      clear h1 h2 h3 h4 h6 hgd hm0 hmi hv hsm e3 hss hg7 hgz
      generalize ByteArray.mk g.toArray = G at *
      have hg7i : (G.size : Int) = 7 := by rw [HZ.out]; rfl
      go_wp2_with fail
      refine (HI.out _ HT1.out).mono ?_
      rintro e w2 ⟨rfl, hb2⟩
      have HT2 := Lib.hid (HT1.out.below hb2 HT1.out.sz)
      have hb12 := hb1.trans (hb2.mono hb1.size)
      clear hb1 hb2
      go_wp2_with fail
      refine (HS.out _).mono ?_
      rintro e w3 ⟨rfl, hb3⟩
      have HT3 := Lib.hid (HT2.out.below hb3 HT2.out.sz)
      have hb13 := hb12.trans (hb3.mono hb12.size)
      clear hb12 hb3
      go_wp2_with fail
      refine (HM.out _ HT3.out).mono ?_
      rintro e w4 ⟨rfl, hb4⟩
      have HT4 := Lib.hid (HT3.out.below hb4 HT3.out.sz)
      have hb14 := hb13.trans (hb4.mono hb13.size)
      clear hb13 hb4
      go_wp2
      go_loopw [7] (fun kv wr => ∃ k : Nat, k ≤ 7 ∧ kv = .int .i64 k ∧ Below w.heap.size w wr ∧ Tabs wr) (fun kv _ => 7 - (intOf kv).toNat)
      case atStart => exact ⟨0, Nat.zero_le _, rfl, hb14, HT4.out⟩
      case round =>
        obtain ⟨k, hk, rfl, hbel, hTr⟩ := hrel
        clear hb14
        have HTR := Lib.hid hTr
        clear hTr
        by_cases hlt : k < 7
        · have hli : (k : Int) < 7 := by omega
          have ht := HTB.out k hlt
          have hm := HMI.out k hlt
          generalize ByteArray.mk (turnU g k).toArray = T at *
          have HT0 := Lib.hid ht
          have HM0 := Lib.hid hm
          clear ht hm
          go_wp2_with fail
          refine (HT0.out _).mono ?_
          rintro e w5 ⟨rfl, m5, rfl⟩
          have hb5 := belowD hbel m5
          have HT5 := Lib.hid (HTR.out.below (belowD (Below.refl wr.heap.size wr) m5) HTR.out.sz)
          generalize wr.drewN m5 = w5 at *
          clear hbel HT0
          go_wp2_with fail
          refine (HM0.out _ HT5.out).mono ?_
          rintro e w6 ⟨rfl, hb6⟩
          have HT6 := HT5.out.below hb6 HT5.out.sz
          have hb7 := hb5.trans (hb6.mono hb5.size)
          clear hb6 hb5
          go_wp2
          go_roundw
          case rel => exact ⟨k + 1, by omega, by go_num, hb7, HT6⟩
          case measure => simp [intOf]; omega
        · have hli : ¬ (k : Int) < 7 := by omega
          go_wp2
          go_ret
          exact ⟨rfl, hbel⟩
    · rw [guard_none hv] at h1 h2
      have HI := Lib.hid h1
      have HS := Lib.hid h2
      clear h1 h2 hv hsm
      go_wp2_with fail
      refine (HI.out _ HT1.out).mono ?_
      rintro e w2 ⟨rfl, hb2⟩
      have hb12 := hb1.trans (hb2.mono hb1.size)
      clear hb1 hb2
      go_wp2_with fail
      refine (HS.out _).mono ?_
      rintro e w3 ⟨rfl, hb3⟩
      have hb13 := hb12.trans (hb3.mono hb12.size)
      clear hb12 hb3
      go_wp2_with fail
      refine (HS.out _).mono ?_
      rintro e w4 ⟨rfl, hb4⟩
      have hb14 := hb13.trans (hb4.mono hb13.size)
      clear hb13 hb4
      go_wp2
      go_ret
      exact ⟨rfl, hb14⟩
end Go.Proofs.YtglabaajdabooaaDoor
