/-
  The walk of the program's EscapeBytes. Conditions: where the list lies, and the lengths that are typed.
-/
import Derived.Test.YtfnegelnkcpdiaaWesc
namespace Go.Proofs.Ytfnegelnkcpdiaa
open Go.RowKit
set_option linter.unusedVariables false

theorem hold_new (w : World) (v : Value) : Hold (w.alloc (.cells #[v] 34)) w.heap.size v := heap_alloc_new w _

set_option maxHeartbeats 1600000 in
theorem iEB_yes (w : World) (b off c n : Nat) (xs : List Int) (hn : xs.length = n) (h : At w b off xs) (hv : bytesB 16 xs = true) :
    Calls Try.prog 9 #[.slice (some ⟨b, off, none⟩) n c] w
      fun e w' => ∃ v, e = .returned v ∧ w'.ownsRow w.heap.size 3 1 v (escs xs ++ [192]).length (ints (escs xs ++ [192])) ∧ Below w.heap.size w w' := by
  have hlen : xs.length ≤ 16 := by simp [bytesB] at hv; exact hv.1
  have h1 := ivb_at w b off c n xs hn (by omega) h
  rw [hv] at h1
  have H1 := Lib.hid h1
  have hmf : ∀ (fn : Fn) (first cap : Array Value) (w : World), (Instr.makeFunc fn first cap).run Try.prog w = .ok (.func fn first cap) w := fun _ _ _ _ => rfl
  have HN := Lib.hid hn
  have HC := Lib.hid h.2
  have hb := h.1
  have hn16 : n ≤ 16 := by omega
  have HH := Lib.hid (hold_new w (.slice none 0 0))
  clear h hn hv h1 hlen
  go_enter Try.func9, Try.ntmps9
  go_wp2_with (go_at_call 19; refine H1.out.mono ?_; rintro e w' ⟨rfl, rfl⟩)
  go_loopw [14] (fun i wr => ∃ (k : Nat) (v : Value), k ≤ n ∧ i = .int .i64 k ∧ Hold wr w.heap.size v ∧ wr.ownsRow w.heap.size 3 1 v (escs (xs.take k)).length (ints (escs (xs.take k))) ∧ Below w.heap.size w wr) (fun i _ => n - (intOf i).toNat)
  case atStart =>
    exact ⟨0, .slice none 0 0, Nat.zero_le _, rfl, HH.out, World.ownsRow_nil _ _ _ _, (Below.refl _ _).alloc (Nat.le_refl _) _⟩
  case round =>
    obtain ⟨k, v, hk, rfl, hh, hown, hbel⟩ := hrel
    have hel := (escs_len (xs.take k)).2
    have hel2 : (xs.take k).length ≤ k := List.length_take_le _ _
    by_cases hlt : k < n
    · have hkx : k < xs.length := by have := HN.out; omega
      have hc1 := (hbel.cell (p := ⟨b, off + k, none⟩) hb).trans (HC.out k hkx)
      have HS : Hid (escs (xs.take (k + 1)) = escs (xs.take k) ++ escB (xs.getD k 0)) := by rw [takeI_snoc xs k hkx, escs_snoc]; rfl
      clear hkx
      generalize xs.getD k 0 = x at *
      generalize escs (xs.take k) = o at *
      have hol : o.length ≤ 32 := by omega
      have HHH := Lib.hid hh
      have HOW := Lib.hid hown
      clear hel hel2 hh hown
      cases h192 : (x == 192)
      · cases h219 : (x == 219)
        · have e : escB x = [x] := escB_else (by simpa using h192) (by simpa using h219)
          have HE := Lib.hid e
          clear e
          go_wp2_with fail
          refine (put_any _ w.heap.size w.heap.size v o x (by omega) HHH.out (Nat.le_refl _) HOW.out).mono ?_
          rintro e w1 ⟨rfl, v1, hh1, hown1, hb1⟩
          have hbb := hbel.trans hb1
          clear hbel hb1
          go_wp2
          go_roundw
          case rel => exact ⟨k + 1, v1, by omega, by go_num, hh1, by rw [HS.out, HE.out]; exact hown1, hbb⟩
          case measure => simp [intOf]; omega
        · have e : x = 219 := by simpa using h219
          subst e
          go_wp2_with fail
          refine (put_any _ w.heap.size w.heap.size v o 219 (by omega) HHH.out (Nat.le_refl _) HOW.out).mono ?_
          rintro e w1 ⟨rfl, v1, hh1, hown1, hb1⟩
          have hbb := hbel.trans hb1
          have HH1 := Lib.hid hh1
          have HO1 := Lib.hid hown1
          clear hbel hb1 hh1 hown1
          go_wp2_with fail
          refine (put_any _ w.heap.size w.heap.size v1 (o ++ [219]) 221 (by simp; omega) HH1.out (Nat.le_refl _) HO1.out).mono ?_
          rintro e w2 ⟨rfl, v2, hh2, hown2, hb2⟩
          have hbb2 := hbb.trans hb2
          clear hbb hb2
          go_wp2
          go_roundw
          case rel => exact ⟨k + 1, v2, by omega, by go_num, hh2, by rw [HS.out, escB_219]; simpa using hown2, hbb2⟩
          case measure => simp [intOf]; omega
      · have e : x = 192 := by simpa using h192
        subst e
        go_wp2_with fail
        refine (put_any _ w.heap.size w.heap.size v o 219 (by omega) HHH.out (Nat.le_refl _) HOW.out).mono ?_
        rintro e w1 ⟨rfl, v1, hh1, hown1, hb1⟩
        have hbb := hbel.trans hb1
        have HH1 := Lib.hid hh1
        have HO1 := Lib.hid hown1
        clear hbel hb1 hh1 hown1
        go_wp2_with fail
        refine (put_any _ w.heap.size w.heap.size v1 (o ++ [219]) 220 (by simp; omega) HH1.out (Nat.le_refl _) HO1.out).mono ?_
        rintro e w2 ⟨rfl, v2, hh2, hown2, hb2⟩
        have hbb2 := hbb.trans hb2
        clear hbb hb2
        go_wp2
        go_roundw
        case rel => exact ⟨k + 1, v2, by omega, by go_num, hh2, by rw [HS.out, escB_192]; simpa using hown2, hbb2⟩
        case measure => simp [intOf]; omega
    · have e : xs.take k = xs := List.take_of_length_le (by have := HN.out; omega)
      rw [e] at hown hel
      have hel3 : xs.length ≤ 16 := by have := HN.out; omega
      clear e hel2
      generalize ho : escs xs = o at *
      have HO := Lib.hid ho
      have hol : o.length ≤ 32 := by omega
      have HHH := Lib.hid hh
      have HOW := Lib.hid hown
      clear hel hel3 ho hh hown
      go_wp2_with fail
      refine (put_any _ w.heap.size w.heap.size v o 192 (by omega) HHH.out (Nat.le_refl _) HOW.out).mono ?_
      rintro e w1 ⟨rfl, v1, hh1, hown1, hb1⟩
      have hbb := hbel.trans hb1
      have k0 := hh1.c
      clear hbel hb1 hh1
      go_wp2
      go_ret
      exact ⟨v1, rfl, by rw [HO.out]; exact hown1, hbb⟩

set_option maxHeartbeats 400000 in
theorem iEB_no (w : World) (b off c n : Nat) (xs : List Int) (hn : xs.length = n) (hn2 : n ≤ 1048576) (h : At w b off xs) (hv : bytesB 16 xs = false) :
    Calls Try.prog 9 #[.slice (some ⟨b, off, none⟩) n c] w fun e w' => e = .returned (.slice none 0 0) ∧ w = w' := by
  have h1 := ivb_at w b off c n xs hn hn2 h
  rw [hv] at h1
  have H1 := Lib.hid h1
  clear h1 hv h
  go_enter Try.func9, Try.ntmps9
  go_wp2_with (go_at_call 19; refine H1.out.mono ?_; rintro e w' ⟨rfl, rfl⟩)
  go_ret
  exact ⟨rfl, rfl⟩
set_option maxHeartbeats 800000 in
theorem iEB_nil (w : World) (A : Option Addr) (c : Nat) :
    Calls Try.prog 9 #[.slice A 0 c] w
      fun e w' => ∃ v, e = .returned v ∧ w'.ownsRow w.heap.size 3 1 v 1 (ints [192]) ∧ Below w.heap.size w w' := by
  have H1 := Lib.hid (ivb_nil w A c)
  have hmf : ∀ (fn : Fn) (first cap : Array Value) (w : World), (Instr.makeFunc fn first cap).run Try.prog w = .ok (.func fn first cap) w := fun _ _ _ _ => rfl
  have HP := Lib.hid (put_any (w.alloc (.cells #[.slice none 0 0] 34)) w.heap.size w.heap.size (.slice none 0 0) [] 192 (by simp) (hold_new w (.slice none 0 0)) (Nat.le_refl _) (World.ownsRow_nil _ _ _ _))
  go_enter Try.func9, Try.ntmps9
  go_wp2_with (go_at_call 19; refine H1.out.mono ?_; rintro e w' ⟨rfl, rfl⟩)
  refine wp_loop_rounds 1 ?_
  rw [rounds_succ]
  go_wp2_with fail
  refine HP.out.mono ?_
  rintro e w1 ⟨rfl, v1, hh1, hown1, hb1⟩
  have hbb := ((Below.refl w.heap.size w).alloc (Nat.le_refl _) _).trans hb1
  have k0 := hh1.c
  clear hb1 hh1
  go_wp2
  go_ret
  exact ⟨v1, rfl, hown1, hbb⟩

/-- impl.EscapeBytes leaves escR in memory of its own. -/
theorem iEB_any (w : World) (v : Value) (xs : List Int) (h : Rds w v xs) (hn : xs.length ≤ 1048576) :
    Calls Try.prog 9 #[v] w
      fun e w' => ∃ u, e = .returned u ∧ w'.ownsRow w.heap.size 3 1 u (escR xs).length (ints (escR xs)) ∧ Below w.heap.size w w' := by
  obtain ⟨A, c, rfl, h1⟩ := h
  rcases Nat.eq_zero_or_pos xs.length with h0 | h0
  · obtain rfl : xs = [] := List.eq_nil_of_length_eq_zero h0
    exact iEB_nil w A c
  · obtain ⟨b, off, rfl, ha⟩ := h1 h0
    unfold escR
    by_cases hv : bytesB 16 xs = true
    · rw [if_pos hv]; exact iEB_yes w b off c xs.length xs rfl ha hv
    · rw [if_neg hv]
      exact (iEB_no w b off c xs.length xs rfl hn ha (by simpa using hv)).mono fun e w' ⟨he, hw⟩ => ⟨_, he, World.ownsRow_nil _ _ _ _, by rw [hw]; exact Below.refl _ _⟩
theorem escR_len (l : List Int) : (escR l).length ≤ 33 := by
  unfold escR
  split
  · rename_i h
    have h2 : l.length ≤ 16 := by simp [bytesB] at h; exact h.1
    have := (escs_len l).2
    simp; omega
  · simp
end Go.Proofs.Ytfnegelnkcpdiaa
