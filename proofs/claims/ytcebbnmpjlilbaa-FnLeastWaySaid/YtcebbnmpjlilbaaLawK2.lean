/-
  The walk of the law FnLeastWay: it returns true at every code. No condition but that the code is a list that can be.
-/
import Derived.Test.YtcebbnmpjlilbaaWdlw
import Derived.Test.YtcebbnmpjlilbaaWls
namespace Go.Proofs.Ytcebbnmpjlilbaa
open Go.RowKit
set_option linter.unusedVariables false

theorem lw_min (xs : List Int) : ∀ k j, j < k → (lw xs k).1 ≤ xs.getD j 0
  | 0, j, h => by omega
  | k + 1, j, h => by
    have ih := fun h => lw_min xs k j h
    unfold lw
    split
    · rename_i hlt
      show xs.getD k 0 ≤ _
      rcases (show j < k ∨ j = k from by omega) with h1 | rfl
      · have := ih h1; omega
      · omega
    · rename_i hlt
      rcases (show j < k ∨ j = k from by omega) with h1 | rfl
      · exact ih h1
      · omega
theorem lw_mem (xs : List Int) : ∀ k, ∃ j, j ≤ k - 1 ∧ (lw xs k).1 = xs.getD j 0 ∧ ((lw xs k).2 = 1 → (lw xs k).1 = xs.getD 0 0)
  | 0 => ⟨0, by omega, rfl, fun _ => rfl⟩
  | k + 1 => by
    obtain ⟨j, h1, h2, h3⟩ := lw_mem xs k
    unfold lw
    split
    · exact ⟨k, by omega, rfl, fun h => by
        have h' : (lw xs k).2 + 1 = 1 := h
        have := lw_pos xs k
        omega⟩
    · exact ⟨j, by omega, h2, h3⟩
where
  lw_pos (xs : List Int) : ∀ k, 1 ≤ (lw xs k).2
  | 0 => Nat.le_refl _
  | k + 1 => by
    have := lw_pos xs k
    unfold lw; split
    · show 1 ≤ (lw xs k).2 + 1; omega
    · exact this
theorem lw_pos' (xs : List Int) : ∀ k, 1 ≤ (lw xs k).2
  | 0 => Nat.le_refl _
  | k + 1 => by
    have := lw_pos' xs k
    unfold lw; split
    · show 1 ≤ (lw xs k).2 + 1; omega
    · exact this
theorem lw_tries' (xs : List Int) : ∀ k, 1 ≤ k → (lw xs k).2 ≤ k
  | 0, h => by omega
  | 1, _ => by
    have e : lw xs 1 = lw xs 0 := by
      show (if xs.getD 0 0 < xs.getD 0 0 then _ else _) = _
      rw [if_neg (by omega)]
    rw [e]; exact Nat.le_refl _
  | k + 2, _ => by
    have := lw_tries' xs (k + 1) (by omega)
    unfold lw; split
    · show (lw xs (k + 1)).2 + 1 ≤ k + 2; omega
    · omega

set_option maxHeartbeats 400000 in
theorem isin_yes (w : World) (b off c n : Nat) (xs : List Int) (y : Int) (hn : xs.length = n) (hn2 : n ≤ 1048576) (h : At w b off xs) (hy : ∃ j, j < n ∧ xs.getD j 0 = y) :
    Calls Try.prog 28 #[.slice (some ⟨b, off, none⟩) n c, .int .i64 y] w fun e w' => e = .returned (.bool true) ∧ w = w' := by
  have HN := Lib.hid hn
  have HC := Lib.hid h.2
  have HY := Lib.hid hy
  clear h hn hy
  go_enter Try.func28, Try.ntmps28
  go_wp2
  go_loop [5] (fun i => ∃ k : Nat, k ≤ n ∧ i = .int .i64 k ∧ ∃ j, k ≤ j ∧ j < n ∧ xs.getD j 0 = y) (fun i => n - (intOf i).toNat)
  case atStart =>
    obtain ⟨j, hj, e⟩ := HY.out
    exact ⟨0, Nat.zero_le _, rfl, j, Nat.zero_le _, hj, e⟩
  case round =>
    obtain ⟨k, hk, rfl, j, hkj, hjn, hjy⟩ := hrel
    have HJ := Lib.hid hjy
    have hlt : k < n := by omega
    have hc1 := HC.out k (by have := HN.out; omega)
    by_cases he : xs.getD k 0 = y
    · have hne : (xs.getD k 0 == y) = true := by simpa using he
      clear he hjy
      generalize xs.getD k 0 = x at *
      go_wp2
      go_ret
      exact ⟨rfl, rfl⟩
    · have hne : (xs.getD k 0 == y) = false := by simpa using he
      have hj : k ≠ j := by rintro rfl; exact he hjy
      clear he hjy
      generalize xs.getD k 0 = x at hc1 hne
      go_wp2
      go_round
      case rel => exact ⟨k + 1, by omega, by go_num, j, by omega, hjn, HJ.out⟩
      case measure => simp [intOf]; omega

set_option maxHeartbeats 3200000 in
theorem fnLeastWay_walk (a : Option Addr) (len cap : Nat) (zs : List Int) (w : World) (h : IsRow .u8 w a len cap zs) :
    Calls Try.prog 9 #[.slice a len cap] w fun e w' => e = .returned (.bool true) ∧ Below w.heap.size w w' := by
  by_cases hg : (1048576 : Int) < (len : Int)
  · go_enter Try.func9, Try.ntmps9
    go_wp2_with fail
    go_ret
    exact ⟨rfl, Below.refl _ _⟩
  · have H := Lib.hid (dlw_any w a len cap zs h)
    clear h
    go_enter Try.func9, Try.ntmps9
    go_wp2_with fail
    refine H.out.mono ?_
    rintro e w1 ⟨u, l, B1, rfl, hu, hl, hb1⟩
    have HU := Lib.hid (Rds.of_own hu)
    obtain ⟨Au, cu, rfl⟩ := own_form hu
    clear H hu
    have hI := iLW_any w1 _ l HU.out (by omega)
    have hS := sLW_any w1 _ l HU.out
    cases hv : wayB l
    · have e1 : leastR l = 0 := by simp [leastR, hv]
      have e2 : triesR l = 0 := by simp [triesR, hv]
      rw [e1, e2] at hI hS
      have HI := Lib.hid hI
      have HS := Lib.hid hS
      clear hI hS e1 e2 hv
      go_wp2_with fail
      refine HI.out.mono ?_
      rintro e w2 ⟨rfl, rfl⟩
      go_wp2_with fail
      refine HS.out.mono ?_
      rintro e w2 ⟨rfl, rfl⟩
      go_wp2
      go_ret
      exact ⟨rfl, hb1⟩
    · have e1 : leastR l = (lw l l.length).1 := by simp [leastR, hv]
      have e2 : triesR l = ((lw l l.length).2 : Int) := by simp [triesR, hv]
      rw [e1, e2] at hI hS
      obtain ⟨l1, l8⟩ := wayB_len hv
      have hmin := lw_min l l.length
      obtain ⟨j, hj1, hj2, hj3⟩ := lw_mem l l.length
      have hp := lw_pos' l l.length
      have ht := lw_tries' l l.length l1
      obtain ⟨m, hm⟩ : ∃ m, m = (lw l l.length).1 := ⟨_, rfl⟩
      obtain ⟨t, ht'⟩ : ∃ t, t = (lw l l.length).2 := ⟨_, rfl⟩
      rw [← hm] at hI hS hmin hj2 hj3
      rw [← ht'] at hI hS hj3 hp ht
      have HI := Lib.hid hI
      have HS := Lib.hid hS
      have HMIN := Lib.hid hmin
      have HJ := Lib.hid hj2
      clear hI hS e1 e2 hv hmin hj2 hm ht'
      obtain ⟨b, off, hA, hat⟩ : ∃ b off, Au = some ⟨b, off, none⟩ ∧ At w1 b off l := by
        obtain ⟨A', c', hv', h1'⟩ := HU.out
        cases hv'
        exact h1' (by omega)
      subst hA
      have HC := Lib.hid hat.2
      have hc0 := hat.2 0 (by omega)
      rw [Nat.add_zero] at hc0
      have ht0 : ((t : Int) == 0) = false := by simp; omega
      have HIN := Lib.hid (isin_yes w1 b off cu l.length l m rfl (by omega) hat ⟨j, by omega, HJ.out.symm⟩)
      clear hat
      go_wp2_with fail
      refine HI.out.mono ?_
      rintro e w2 ⟨rfl, rfl⟩
      go_wp2_with fail
      refine HS.out.mono ?_
      rintro e w2 ⟨rfl, rfl⟩
      go_wp2
      go_loop [8] (fun i => ∃ k : Nat, k ≤ l.length ∧ i = .int .i64 k) (fun i => l.length - (intOf i).toNat)
      case atStart => exact ⟨0, Nat.zero_le _, rfl⟩
      case round =>
        obtain ⟨k, hk, rfl⟩ := hrel
        by_cases hlt : k < l.length
        · have hc1 := HC.out k hlt
          have hd : decide (l.getD k 0 < m) = false := by
            have := HMIN.out k hlt
            simp; simpa using this
          clear hj3
          generalize l.getD k 0 = x at hc1 hd
          go_wp2
          go_round
          case rel => exact ⟨k + 1, by omega, by go_num⟩
          case measure => simp [intOf]; omega
        · have htl : decide ((t : Int) ≤ (l.length : Int)) = true := by simp; omega
          by_cases h1 : t = 1
          · have hm0 := hj3 h1
            have hmx : (m == l.getD 0 0) = true := by simpa using hm0
            clear hj3 hm0
            generalize l.getD 0 0 = x0 at hc0 hmx
            subst h1
            go_wp2_with (go_at_call 28; refine HIN.out.mono ?_; rintro e w' ⟨rfl, rfl⟩)
            go_ret
            exact ⟨rfl, hb1⟩
          · have ht1 : decide ((1 : Int) < (t : Int)) = true := by simp; omega
            clear hj3
            generalize l.getD 0 0 = x0 at hc0
            go_wp2_with (go_at_call 28; refine HIN.out.mono ?_; rintro e w' ⟨rfl, rfl⟩)
            go_ret
            exact ⟨rfl, hb1⟩
end Go.Proofs.Ytcebbnmpjlilbaa
