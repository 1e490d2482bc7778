/-
  The walk of the law FnValidPoly: it returns true at every code. No condition but that the code is a list that can be.
-/
import Derived.Test.YthmhjkflgokmgaaWse
import Derived.Test.YthmhjkflgokmgaaWdraw
namespace Go.Proofs.Ythmhjkflgokmgaa
open Go.RowKit
set_option linter.unusedVariables false

theorem rev_snoc (s : ByteArray) (k : Nat) (h : k < s.size) : s.extract k (k + 1) ++ ByteArray.mk (s.data.toList.take k).reverse.toArray = ByteArray.mk (s.data.toList.take (k + 1)).reverse.toArray := by
  rw [extract_one s k h, ByteArray.mk_append_mk, take_snoc s k h, List.reverse_append]; rfl

set_option maxHeartbeats 1600000 in
theorem fnValidPoly_walk (a : Option Addr) (len cap : Nat) (zs : List Int) (w : World) (h : IsRow .u8 w a len cap zs) :
    Calls Try.prog 7 #[.slice a len cap] w fun e w' => e = .returned (.bool true) ∧ Below w.heap.size w w' := by
  by_cases hg : (1048576 : Int) < (len : Int)
  · go_enter Try.func7, Try.ntmps7
    go_wp2_with fail
    go_ret
    exact ⟨rfl, Below.refl _ _⟩
  · have H := Lib.hid (dvp_any w a len cap zs h)
    clear h
    go_enter Try.func7, Try.ntmps7
    go_wp2_with fail
    refine H.out.mono ?_
    rintro e w1 ⟨p, rfl, hp, hb1⟩
    clear H
    have hi := fun W => iVP_any p W (by unfold maxLen; omega)
    have hs := fun W => sVP_any p W (by unfold maxLen; omega)
    cases hv : polyB p.data.toList
    · rw [hv] at hi hs
      have HI := Lib.hid hi
      have HS := Lib.hid hs
      clear hi hs hv
      go_wp2_with (first | (go_at_call 12; refine (HI.out _).mono ?_; rintro e w2 ⟨rfl, hb2⟩) | (go_at_call 11; refine (HS.out _).mono ?_; rintro e w' ⟨rfl, rfl⟩))
      go_ret
      exact ⟨rfl, hb1.trans (hb2.mono hb1.size)⟩
    · have hrev := polyB_rev hv
      obtain ⟨Q, hQ, h1, h2, h3⟩ := polyB_of hv
      have hse : sealedB p.data.toList p.data.toList = true := by
        rw [hQ, sealedB_ok h1 h2 h3 (by simp; omega) (by simp), decide_eq_true_iff]
        exact remF_self Q h1
      have hi2 := fun W => iVP_any ⟨p.data.toList.reverse.toArray⟩ W (by rw [mk_size]; simp; have : p.data.size = p.size := rfl; unfold maxLen; omega)
      rw [show (ByteArray.mk p.data.toList.reverse.toArray).data.toList = p.data.toList.reverse from rfl, hrev] at hi2
      have hi3 := fun W => iIS_any p p W (by omega) (by omega)
      rw [hse] at hi3
      rw [hv] at hi hs
      have HI := Lib.hid hi
      have HS := Lib.hid hs
      have HI2 := Lib.hid hi2
      have HI3 := Lib.hid hi3
      clear hi hs hi2 hi3 hv hrev hQ hse h1 h2 h3
      go_wp2_with (first | (go_at_call 12; refine (HI.out _).mono ?_; rintro e w2 ⟨rfl, hb2⟩) | (go_at_call 11; refine (HS.out _).mono ?_; rintro e w' ⟨rfl, rfl⟩))
      have hb12 := hb1.trans (hb2.mono hb1.size)
      clear hb1 hb2
      go_loop [5, 6] (fun t i => ∃ k : Nat, k ≤ p.size ∧ i = .int .i64 k ∧ t = .string ⟨(p.data.toList.take k).reverse.toArray⟩) (fun _ i => p.size - (intOf i).toNat)
      case atStart => exact ⟨0, Nat.zero_le _, rfl, rfl⟩
      case round =>
        obtain ⟨k, hk, rfl, rfl⟩ := hrel
        have hT : (ByteArray.mk (p.data.toList.take k).reverse.toArray).size ≤ 60 := by rw [mk_size]; simp; have : p.data.size = p.size := rfl; omega
        by_cases hlt : k < p.size
        · have HR := Lib.hid (rev_snoc p k hlt)
          generalize ByteArray.mk (p.data.toList.take k).reverse.toArray = T at *
          have hk1 : k + 1 ≤ p.size := by omega
          have hk2 : (k : Int) + 1 ≤ (p.size : Int) := by omega
          have hk3 : (k : Int) ≤ (k : Int) + 1 := by omega
          have hk4 : ((k : Int) + 1).toNat = k + 1 := by omega
          have hk5 : k ≤ k + 1 := by omega
          go_wp2
          go_round
          case rel => exact ⟨k + 1, by omega, by go_num, by rw [HR.out]⟩
          case measure => simp [intOf]; omega
        · have e : p.data.toList.take k = p.data.toList := List.take_of_length_le (by simp; omega)
          rw [e]
          clear hT e
          go_wp2_with fail
          refine (HI2.out _).mono ?_
          rintro e w3 ⟨rfl, hb3⟩
          have hb13 := hb12.trans (hb3.mono hb12.size)
          clear hb12 hb3
          go_wp2_with fail
          refine (HI3.out _).mono ?_
          rintro e w4 ⟨rfl, hb4⟩
          go_wp2
          go_ret
          exact ⟨rfl, hb13.trans (hb4.mono hb13.size)⟩
end Go.Proofs.Ythmhjkflgokmgaa
