/-
  The walk of the law FnValidBits: it returns true at every code. No condition but that the code is a list that can be.
-/
import Derived.Test.YtcojopanfiainaaWsome
import Derived.Lib.Strings
namespace Go.Proofs.Ytcojopanfiainaa
open Go.RowKit
set_option linter.unusedVariables false

theorem tail_bits (c : UInt8) (l : List UInt8) (h : bitsB 40 (c :: l) = true) : bitsB 40 ((ByteArray.mk (c :: l).toArray).extract 1 (l.length + 1)).data.toList = true := by
  have e : ((ByteArray.mk (c :: l).toArray).extract 1 (l.length + 1)).data.toList = l := by
    rw [Lib.extract_data]
    simp
  rw [e]
  simp [bitsB] at h ⊢
  exact ⟨by omega, h.2.2⟩

set_option maxHeartbeats 800000 in
theorem fnValidBits_walk (a : Option Addr) (len cap : Nat) (zs : List Int) (w : World) (h : IsRow .u8 w a len cap zs) :
    Calls Try.prog 6 #[.slice a len cap] w fun e w' => e = .returned (.bool true) ∧ Below w.heap.size w w' := by
  by_cases hg : (1048576 : Int) < (len : Int)
  · go_enter Try.func6, Try.ntmps6
    go_wp2_with fail
    go_ret
    exact ⟨rfl, Below.refl _ _⟩
  · have H := Lib.hid (dvb_any w a len cap zs h)
    clear h
    go_enter Try.func6, Try.ntmps6
    go_wp2_with fail
    refine H.out.mono ?_
    rintro e w1 ⟨l, rfl, hs, hb⟩
    clear H
    have hl : l.length ≤ 81 := by rcases hs with ⟨_, h⟩ | ⟨_, h⟩ <;> omega
    have hsz : (ByteArray.mk l.toArray).size ≤ maxLen := by rw [mk_size]; unfold maxLen; omega
    have h1 := fun W => sVB_any ⟨l.toArray⟩ W hsz
    have h2 := fun W => iVB_any ⟨l.toArray⟩ W hsz
    have hll : (ByteArray.mk l.toArray).data.toList = l := rfl
    rw [hll] at h1 h2
    clear hll hs
    cases hv : bitsB 40 l
    · rw [hv] at h1 h2
      have H1 := Lib.hid h1
      have H2 := Lib.hid h2
      clear h1 h2 hv
      go_wp2_with (first | (go_at_call 9; refine (H1.out _).mono ?_; rintro e w' ⟨rfl, rfl⟩) | (go_at_call 10; refine (H2.out _).mono ?_; rintro e w2 ⟨rfl, hb2⟩))
      go_ret
      exact ⟨rfl, hb.trans (hb2.mono hb.size)⟩
    · rw [hv] at h1 h2
      have H1 := Lib.hid h1
      have H2 := Lib.hid h2
      clear h1 h2
      cases l with
      | nil =>
        clear hv
        go_wp2_with (first | (go_at_call 9; refine (H1.out _).mono ?_; rintro e w' ⟨rfl, rfl⟩) | (go_at_call 10; refine (H2.out _).mono ?_; rintro e w2 ⟨rfl, hb2⟩))
        go_ret
        exact ⟨rfl, hb.trans (hb2.mono hb.size)⟩
      | cons c l =>
        have ht := tail_bits c l hv
        have hsz2 : ((ByteArray.mk (c :: l).toArray).extract 1 (l.length + 1)).size ≤ maxLen := by
          have hl' : l.length + 1 ≤ 81 := by simpa using hl
          rw [ByteArray.size_extract]; unfold maxLen; omega
        have h3 := fun W => iVB_any _ W hsz2
        rw [ht] at h3
        have H3 := Lib.hid h3
        clear h3 ht hv hsz2
        go_wp2_with (first | (go_at_call 9; refine (H1.out _).mono ?_; rintro e w' ⟨rfl, rfl⟩) | (go_at_call 10; with_reducible refine (H2.out _).mono ?_; rintro e w2 ⟨rfl, hb2⟩))
        refine (H3.out _).mono ?_
        rintro e w3 ⟨rfl, hb3⟩
        go_wp2
        go_ret
        exact ⟨rfl, (hb.trans (hb2.mono hb.size)).trans (hb3.mono (hb.trans (hb2.mono hb.size)).size)⟩
end Go.Proofs.Ytcojopanfiainaa
