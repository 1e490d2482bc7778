/-
  The walk of the law FnUnstuffBits: it returns true at every code. No condition but that the code is a list that can be.
-/
import Derived.Test.YtcojopanfiainaaWmut
import Derived.Test.YtcojopanfiainaaWunsI
namespace Go.Proofs.Ytcojopanfiainaa
open Go.RowKit
set_option linter.unusedVariables false

theorem unsR_inv {l o : List UInt8} (h : unsR l = some o) : bitsB 48 l = true ∧ uns l = some o ∧ bitsB 40 o = true := by
  unfold unsR at h
  by_cases h1 : bitsB 48 l = true
  · rw [if_pos h1] at h
    cases hu : uns l with
    | none => rw [hu] at h; cases h
    | some o' =>
      rw [hu] at h
      simp only [] at h
      by_cases h2 : bitsB 40 o' = true
      · rw [if_pos h2] at h
        cases h
        exact ⟨h1, rfl, h2⟩
      · rw [if_neg h2] at h; cases h
  · rw [if_neg h1] at h; cases h

set_option maxHeartbeats 800000 in
theorem dub_any (w : World) (a : Option Addr) (len cap : Nat) (zs : List Int) (h : IsRow .u8 w a len cap zs) :
    Calls Try.prog 17 #[.slice a len cap] w fun e w' => ∃ t : ByteArray, e = .returned (.string t) ∧ t.size ≤ 900 ∧ Below w.heap.size w w' := by
  have H := Lib.hid (nr_any w a len cap zs h)
  clear h
  go_enter Try.func17, Try.ntmps17
  go_wp2_with fail
  refine H.out.mono ?_
  rintro e w1 ⟨rfl, hr, hb, hz⟩
  clear H hz
  go_wp2_with fail
  refine (sb_any hr (by omega) 40 (by omega)).mono ?_
  rintro e w2 ⟨l, p', rfl, hs, hr2, hp2, hb2⟩
  have hl : l.length ≤ 81 := by rcases hs with ⟨_, h⟩ | ⟨_, h⟩ <;> omega
  have hbb := hb.trans hb2
  clear hr hs hb hb2
  go_wp2_with fail
  refine (pick_any hr2 (by omega) 4 (by omega) (by omega)).mono ?_
  rintro e w3 ⟨r, m, rfl, hr4, hw3⟩
  have hr3 : Rd w.heap.size w3 w.heap.size (p' + 1) := by rw [hw3]; exact hr2.picked m
  have hb3 : Below w.heap.size w w3 := by rw [hw3]; exact hbb.trans (picked_below hr2 m)
  have HR3 := Lib.hid hr3
  clear hw3 hr2 hbb hr3
  have hS : (ByteArray.mk l.toArray).size ≤ 300 := by rw [mk_size]; omega
  have hT : (ByteArray.mk (stf l).1.toArray).size ≤ 300 := by
    have := stf_len l
    rw [mk_size]; omega
  have h20 := fun W => sst_any ⟨l.toArray⟩ W (by omega)
  have hll : (ByteArray.mk l.toArray).data.toList = l := rfl
  rw [hll] at h20
  generalize ByteArray.mk (stf l).1.toArray = T at *
  generalize ByteArray.mk l.toArray = S at *
  have H20 := Lib.hid h20
  clear h20 hll hl
  by_cases hr0 : (0 : Int) < (r : Int)
  · go_wp2_with (go_at_call 20; refine (H20.out _).mono ?_; rintro e w' ⟨rfl, rfl⟩)
    refine (pick_any HR3.out (by omega) 4 (by omega) (by omega)).mono ?_
    rintro e w4 ⟨r2, m2, rfl, hr42, hw4⟩
    have hr4 : Rd w.heap.size w4 w.heap.size (p' + 1 + 1) := by rw [hw4]; exact HR3.out.picked m2
    have hb4 : Below w.heap.size w w4 := by rw [hw4]; exact hb3.trans (picked_below HR3.out m2)
    have HR4 := Lib.hid hr4
    clear hw4 hb3 hr4
    cases hr20 : ((r2 : Int) == 0)
    · go_wp2
      go_ret
      exact ⟨_, rfl, by omega, hb4⟩
    · go_wp2_with fail
      refine (mut_any HR4.out (by omega) _ (by omega)).mono ?_
      rintro e w5 ⟨t, rfl, ht, hb5⟩
      have hb6 := hb4.trans hb5
      clear hb4 hb5
      go_wp2
      go_ret
      exact ⟨t, rfl, by omega, hb6⟩
  · go_wp2_with fail
    refine (pick_any HR3.out (by omega) 4 (by omega) (by omega)).mono ?_
    rintro e w4 ⟨r2, m2, rfl, hr42, hw4⟩
    have hr4 : Rd w.heap.size w4 w.heap.size (p' + 1 + 1) := by rw [hw4]; exact HR3.out.picked m2
    have hb4 : Below w.heap.size w w4 := by rw [hw4]; exact hb3.trans (picked_below HR3.out m2)
    have HR4 := Lib.hid hr4
    clear hw4 hb3 hr4
    cases hr20 : ((r2 : Int) == 0)
    · go_wp2
      go_ret
      exact ⟨_, rfl, by omega, hb4⟩
    · go_wp2_with fail
      refine (mut_any HR4.out (by omega) _ (by omega)).mono ?_
      rintro e w5 ⟨t, rfl, ht, hb5⟩
      have hb6 := hb4.trans hb5
      clear hb4 hb5
      go_wp2
      go_ret
      exact ⟨t, rfl, by omega, hb6⟩

set_option maxHeartbeats 1600000 in
theorem fnUnstuffBits_walk (a : Option Addr) (len cap : Nat) (zs : List Int) (w : World) (h : IsRow .u8 w a len cap zs) :
    Calls Try.prog 8 #[.slice a len cap] w fun e w' => e = .returned (.bool true) ∧ Below w.heap.size w w' := by
  by_cases hg : (1048576 : Int) < (len : Int)
  · go_enter Try.func8, Try.ntmps8
    go_wp2_with fail
    go_ret
    exact ⟨rfl, Below.refl _ _⟩
  · have H := Lib.hid (dub_any w a len cap zs h)
    clear h
    go_enter Try.func8, Try.ntmps8
    go_wp2_with fail
    refine H.out.mono ?_
    rintro e w1 ⟨S, rfl, hs, hb⟩
    clear H
    have h1 := fun W => sUB_any S W (by unfold maxLen; omega)
    have h2 := fun W => iUB_any S W (by unfold maxLen; omega)
    cases hu : unsR S.data.toList with
    | none =>
      have e : pairU none = .tuple #[.string ⟨#[]⟩, .bool false] := rfl
      rw [hu, e] at h1 h2
      have H1 := Lib.hid h1
      have H2 := Lib.hid h2
      clear h1 h2 hu e
      go_wp2_with (first | (go_at_call 13; refine (H1.out _).mono ?_; rintro e w' ⟨rfl, rfl⟩) | (go_at_call 14; refine (H2.out _).mono ?_; rintro e w2 ⟨rfl, hb2⟩))
      go_ret
      exact ⟨rfl, hb.trans (hb2.mono hb.size)⟩
    | some o =>
      have e : pairU (some o) = .tuple #[.string ⟨o.toArray⟩, .bool true] := rfl
      rw [hu, e] at h1 h2
      obtain ⟨hl48, hun, ho40⟩ : bitsB 48 S.data.toList = true ∧ uns S.data.toList = some o ∧ bitsB 40 o = true := unsR_inv hu
      have hall : S.data.toList.all isBit = true := by simp [bitsB] at hl48; simpa using hl48.2
      have hst : stuffS o = S.data.toList := by rw [stuffS, if_pos ho40]; exact stf_uns _ _ hall hun
      have hol : o.length ≤ 40 := by simp [bitsB] at ho40; exact ho40.1
      have hsz : (ByteArray.mk o.toArray).size ≤ 1048576 := by rw [mk_size]; omega
      have h3 := fun W => iSB_any ⟨o.toArray⟩ W hsz
      have h4 := fun W => iVB_any ⟨o.toArray⟩ W (by unfold maxLen; omega)
      have hoo : (ByteArray.mk o.toArray).data.toList = o := rfl
      rw [hoo, hst, show (ByteArray.mk S.data.toList.toArray) = S from rfl] at h3
      rw [hoo, ho40] at h4
      have H1 := Lib.hid h1
      have H2 := Lib.hid h2
      have H3 := Lib.hid h3
      have H4 := Lib.hid h4
      clear h1 h2 h3 h4 hu e hl48 hun ho40 hall hst hoo
      go_wp2_with (first | (go_at_call 13; refine (H1.out _).mono ?_; rintro e w' ⟨rfl, rfl⟩) | (go_at_call 14; refine (H2.out _).mono ?_; rintro e w2 ⟨rfl, hb2⟩) | (go_at_call 12; refine (H3.out _).mono ?_; rintro e w3 ⟨rfl, hb3⟩) | (go_at_call 10; refine (H4.out _).mono ?_; rintro e w4 ⟨rfl, hb4⟩))
      go_ret
      have hbt := hb.trans (hb2.mono hb.size)
      have hbt2 := hbt.trans (hb3.mono hbt.size)
      exact ⟨rfl, hbt2.trans (hb4.mono hbt2.size)⟩
end Go.Proofs.Ytcojopanfiainaa
