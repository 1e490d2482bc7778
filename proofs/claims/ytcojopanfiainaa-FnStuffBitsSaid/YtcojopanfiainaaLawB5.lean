/-
  The walk of the law FnStuffBits: it returns true at every code. No condition but that the code is a list that can be.
-/
import Derived.Test.YtcojopanfiainaaWsome
import Derived.Test.YtcojopanfiainaaWunsI
namespace Go.Proofs.Ytcojopanfiainaa
open Go.RowKit
set_option linter.unusedVariables false

theorem u8_48 {c : UInt8} (h : ((c.toNat : Int) == 48) = true) : c = 48 := u8_eq (by show _ = 48; simp at h; omega)
theorem u8_not48 {c : UInt8} (h : ((c.toNat : Int) == 48) = false) : c ≠ 48 := by rintro rfl; simp at h
theorem unsR_stf {l : List UInt8} (h : bitsB 40 l = true) : unsR (stf l).1 = some l := by
  have h2 : l.length ≤ 40 ∧ l.all isBit = true := by simpa [bitsB] using h
  have hl := stf_len l
  refine unsR_some ?_ (uns_stf l) h
  have := stf_bits l h2.2
  simp only [bitsB, this, Bool.and_true, decide_eq_true_eq]
  omega

set_option maxHeartbeats 1600000 in
theorem fnStuffBits_walk (a : Option Addr) (len cap : Nat) (zs : List Int) (w : World) (h : IsRow .u8 w a len cap zs) :
    Calls Try.prog 7 #[.slice a len cap] w fun e w' => e = .returned (.bool true) ∧ Below w.heap.size w w' := by
  by_cases hg : (1048576 : Int) < (len : Int)
  · go_enter Try.func7, Try.ntmps7
    go_wp2_with fail
    go_ret
    exact ⟨rfl, Below.refl _ _⟩
  · have H := Lib.hid (dsb_any w a len cap zs h)
    clear h
    go_enter Try.func7, Try.ntmps7
    go_wp2_with fail
    refine H.out.mono ?_
    rintro e w1 ⟨l, rfl, hs, hb⟩
    clear H
    have hl : l.length ≤ 81 := by rcases hs with ⟨_, h⟩ | ⟨_, h⟩ <;> omega
    clear hs
    have hsz : (ByteArray.mk l.toArray).size ≤ 1048576 := by rw [mk_size]; omega
    have h1 := fun W => sSB_any ⟨l.toArray⟩ W hsz
    have h2 := fun W => iSB_any ⟨l.toArray⟩ W hsz
    have h3 := fun W => iVB_any ⟨l.toArray⟩ W (by unfold maxLen; omega)
    have hll : (ByteArray.mk l.toArray).data.toList = l := rfl
    rw [hll] at h1 h2 h3
    clear hll
    cases hv : bitsB 40 l
    · have e : stuffS l = [] := by simp [stuffS, hv]
      rw [e] at h1 h2
      rw [hv] at h3
      have H1 := Lib.hid h1
      have H2 := Lib.hid h2
      have H3 := Lib.hid h3
      clear h1 h2 h3 hv e
      go_wp2_with (first | (go_at_call 11; refine (H1.out _).mono ?_; rintro e w' ⟨rfl, rfl⟩) | (go_at_call 12; refine (H2.out _).mono ?_; rintro e w2 ⟨rfl, hb2⟩) | (go_at_call 10; refine (H3.out _).mono ?_; rintro e w3 ⟨rfl, hb3⟩))
      go_ret
      exact ⟨rfl, (hb.trans (hb2.mono hb.size)).trans (hb3.mono (hb.trans (hb2.mono hb.size)).size)⟩
    · have e : stuffS l = (stf l).1 := by simp [stuffS, hv]
      rw [e] at h1 h2
      rw [hv] at h3
      have hl2 : l.length ≤ 40 ∧ l.all isBit = true := by simpa [bitsB] using hv
      have hrow := stf_row l hl2.2
      have hol := stf_len l
      have hu := unsR_stf hv
      have hl40 := hl2.1
      clear hv e hl hl2
      generalize (stf l).1 = o at *
      have hlen : o.length ≤ 48 := by omega
      have h4 := fun W => iUB_any ⟨o.toArray⟩ W (by rw [mk_size]; unfold maxLen; omega)
      have hol2 : (ByteArray.mk o.toArray).data.toList = o := rfl
      rw [hol2, hu] at h4
      have h5 : ∀ W, Calls Try.prog 14 #[.string ⟨o.toArray⟩] W fun e w' => e = .returned (.tuple #[.string ⟨l.toArray⟩, .bool true]) ∧ Below W.heap.size W w' := h4
      clear h4 hu
      have hso : (ByteArray.mk o.toArray).size = o.length := mk_size o
      generalize ByteArray.mk o.toArray = S at *
      have hS48 : S.size ≤ 48 := by omega
      have hS : S.size ≤ l.length + l.length / 5 := by omega
      have HO := Lib.hid hol2
      have HR := Lib.hid hrow
      have H1 := Lib.hid h1
      have H2 := Lib.hid h2
      have H3 := Lib.hid h3
      have H5 := Lib.hid h5
      have HSO := Lib.hid hso
      clear h1 h2 h3 h5 hol2 hrow hso hol
      go_wp2_with (first | (go_at_call 11; refine (H1.out _).mono ?_; rintro e w' ⟨rfl, rfl⟩) | (go_at_call 12; refine (H2.out _).mono ?_; rintro e w2 ⟨rfl, hb2⟩) | (go_at_call 10; refine (H3.out _).mono ?_; rintro e w3 ⟨rfl, hb3⟩))
      have hbt := (hb.trans (hb2.mono hb.size)).trans (hb3.mono (hb.trans (hb2.mono hb.size)).size)
      clear hb hb2 hb3
      go_loop [5, 6] (fun r i => ∃ k : Nat, k ≤ S.size ∧ i = .int .i64 k ∧ r = .int .i64 (rowOf (o.take k))) (fun _ i => S.size - (intOf i).toNat)
      case atStart => exact ⟨0, Nat.zero_le _, rfl, rfl⟩
      case round =>
        obtain ⟨k, hk, rfl, rfl⟩ := hrel
        by_cases hlt : k < S.size
        · have HT := Lib.hid (take_snoc S k hlt)
          have hr1 := HR.out k (by have := HSO.out; omega)
          have hr2 := HR.out (k + 1) (by have := HSO.out; omega)
          have HSN := Lib.hid (rowOf_snoc (o.take k) S[k])
          have ht2 : o.take (k + 1) = o.take k ++ [S[k]] := by rw [← HO.out]; exact HT.out
          rw [ht2, HSN.out] at hr2
          have HT2 := Lib.hid ht2
          clear ht2
          generalize rowOf (o.take k) = r at *
          cases hc : ((S[k].toNat : Int) == 48)
          · have h48 := u8_not48 (c := S[k]) hc
            rw [if_neg h48] at hr2
            have H48 := Lib.hid h48
            clear h48
            go_wp2
            go_round
            case rel => exact ⟨k + 1, by omega, by go_num, by rw [HT2.out, HSN.out, if_neg H48.out]; go_num⟩
            case measure => simp [intOf]; omega
          · have h48 := u8_48 (c := S[k]) hc
            have H48 := Lib.hid h48
            clear h48 hr2
            go_wp2
            go_round
            case rel => exact ⟨k + 1, by omega, by go_num, by rw [HT2.out, HSN.out, if_pos H48.out]; rfl⟩
            case measure => simp [intOf]; omega
        · clear hk
          go_wp2_with (go_at_call 14; refine (H5.out _).mono ?_; rintro e w5 ⟨rfl, hb5⟩)
          go_ret
          exact ⟨ret_bool (decide_eq_true (by omega)), hbt.trans (hb5.mono hbt.size)⟩
end Go.Proofs.Ytcojopanfiainaa
