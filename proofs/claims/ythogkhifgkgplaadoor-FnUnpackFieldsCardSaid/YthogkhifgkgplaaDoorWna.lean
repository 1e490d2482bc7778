/-
  The walks of the functions that tell the number at the beginning of bytes. Conditions: where the list lies, the length that is typed, and what the error variable holds.
-/
import Derived.Test.YthogkhifgkgplaaDoorWnf
import Derived.Test.YthogkhifgkgplaaDoorVbyt
namespace Go.Proofs.YthogkhifgkgplaaDoor
open Go.RowKit
set_option linter.unusedVariables false

/-- The number at the beginning, 0 if there is none; and how many bytes it has. -/
def nfA (xs : List Int) : Int := match nf xs with | some (x, _) => (x : Int) | none => 0
def nfN (xs : List Int) : Int := match nf xs with | some (_, n) => (n : Int) | none => 0
def naA (xs : List Int) : Int := if bytesB 16 xs = true then nfA xs else 0
def naN (xs : List Int) : Int := if bytesB 16 xs = true then nfN xs else 0
theorem all_by8 {xs : List Int} : xs.all isByte = xs.all by8 := rfl
theorem bytes_all {m : Nat} {xs : List Int} (h : bytesB m xs = true) : xs.all by8 = true ∧ xs.length ≤ m := by
  simp only [bytesB, Bool.and_eq_true, decide_eq_true_eq] at h
  exact ⟨h.2, h.1⟩
theorem by8_get {xs : List Int} (h : xs.all by8 = true) (k : Nat) (hk : k < xs.length) : 0 ≤ xs.getD k 0 ∧ xs.getD k 0 ≤ 255 := by
  have := List.all_eq_true.1 h (xs.getD k 0) (by rw [List.getD_eq_getElem?_getD, List.getElem?_eq_getElem hk]; exact List.getElem_mem _)
  simpa [by8] using this

theorem rd_step {xs : List Int} {k : Nat} {x u : Int} (hk : k < xs.length) (h4 : k < 4) :
    rd (xs.drop k) k x u = if xs.getD k 0 < 128 then (if (0 < k ∧ xs.getD k 0 = 0) ∨ 1000000 < x + (xs.getD k 0).tmod 128 * u then none else some (x + (xs.getD k 0).tmod 128 * u, k + 1)) else rd (xs.drop (k + 1)) (k + 1) (x + (xs.getD k 0).tmod 128 * u) (128 * u) := by
  rw [List.drop_eq_getElem_cons hk]
  show (if 4 ≤ k then none else if xs[k] < 128 then _ else _) = _
  rw [if_neg (by omega)]
  have e : xs.getD k 0 = xs[k] := by rw [List.getD_eq_getElem?_getD, List.getElem?_eq_getElem hk]; rfl
  rw [e]
theorem rd_over {xs : List Int} {k : Nat} {x u : Int} (h : ¬ (k < xs.length ∧ k < 4)) : rd (xs.drop k) k x u = none := by
  by_cases hk : k < xs.length
  · rw [List.drop_eq_getElem_cons hk]
    show (if 4 ≤ k then none else _) = none
    rw [if_pos (by omega)]
  · rw [List.drop_of_length_le (by omega)]; rfl
theorem nf_of_rd {xs : List Int} {o : Option (Int × Nat)} (h : xs.all by8 = true) (ho : o = rd xs 0 0 1) :
    (o = none → nfA xs = 0 ∧ nfN xs = 0) ∧ ∀ x n, o = some (x, n) → nfA xs = x ∧ nfN xs = (n : Int) := by
  rw [rd_nf xs h] at ho
  subst ho
  unfold nfA nfN
  cases nf xs with
  | none => exact ⟨fun _ => ⟨rfl, rfl⟩, fun _ _ h => by cases h⟩
  | some p => exact ⟨fun h => (by cases h), fun x n h => by simp only [Option.map_some, Option.some.injEq, Prod.mk.injEq] at h; exact ⟨h.1, by rw [← h.2]⟩⟩

set_option maxHeartbeats 3200000 in
theorem rgr_any (w : World) (v : Value) (xs : List Int) (h : Rds w v xs) (hn : xs.length ≤ 1048576) (hb : xs.all by8 = true) :
    Calls Tryd.prog 36 #[v] w fun e w' => e = .returned (.tuple #[.int .i64 (nfA xs), .int .i64 (nfN xs)]) ∧ w = w' := by
  obtain ⟨o, ho⟩ : ∃ o, o = rd xs 0 0 1 := ⟨_, rfl⟩
  obtain ⟨n1, n2⟩ := nf_of_rd hb ho
  have HO := Lib.hid ho
  have H1 := Lib.hid n1
  have H2 := Lib.hid n2
  have HB := Lib.hid hb
  obtain ⟨A, c, rfl, hA⟩ := h
  have HA := Lib.hid hA
  clear hA ho n1 n2 hb
  go_enter Tryd.func36, Tryd.ntmps36
  go_wp2
  go_loop [4, 5, 6] (fun xv uv iv => ∃ (k : Nat) (x u : Int), k ≤ 4 ∧ iv = .int .i64 k ∧ xv = .int .i64 x ∧ uv = .int .i64 u ∧ k ≤ xs.length ∧ Hid (o = rd (xs.drop k) k x u) ∧ 0 ≤ x ∧ x < u ∧ Hid (u = (128 ^ k : Nat))) (fun _ _ iv => 4 - (intOf iv).toNat)
  case atStart => exact ⟨0, 0, 1, by omega, rfl, rfl, rfl, Nat.zero_le _, Lib.hid HO.out, by omega, by omega, Lib.hid rfl⟩
  case round =>
    obtain ⟨k, x, u, hk4, rfl, rfl, rfl, hkl, hrd, hx0, hxu, hu⟩ := hrel
    by_cases hlt : k < xs.length
    · by_cases h4 : k < 4
      · obtain ⟨b, off, rfl, hat⟩ := HA.out (by omega)
        have hc1 := hat.2 k hlt
        obtain ⟨b0, b1⟩ := by8_get HB.out k hlt
        have hst := rd_step (x := x) (u := u) hlt h4
        have HST := Lib.hid (hrd.out.trans hst)
        have hu3 : u ≤ 2097152 := by
          have h1 : 128 ^ k ≤ 128 ^ 3 := Nat.pow_le_pow_right (by omega) (by omega)
          have h2 : (128 : Nat) ^ 3 = 2097152 := rfl
          have := hu.out
          omega
        have HU : Hid (128 * u = (128 ^ (k + 1) : Nat)) := Lib.hid (by rw [hu.out, Nat.pow_succ]; simp; omega)
        clear hst hrd hu hat
        generalize xs.getD k 0 = y at *
        have htm : y.tmod 128 = y % 128 := Int.tmod_eq_emod_of_nonneg b0
        rw [htm] at HST
        obtain ⟨t, ht⟩ : ∃ t, y % 128 = t := ⟨_, rfl⟩
        rw [ht] at HST
        have t0 : 0 ≤ t := by omega
        have t1 : t ≤ 127 := by omega
        have p0 : 0 ≤ t * u := Int.mul_nonneg t0 (by omega)
        have p1 : t * u ≤ 127 * u := Int.mul_le_mul_of_nonneg_right t1 (by omega)
        clear htm
        have hdl : decide ((k : Int) < (xs.length : Int)) = true := decide_eq_true (by omega)
        have hd4 : decide ((k : Int) < 4) = true := decide_eq_true (by omega)
        by_cases hy : y < 128
        · have hdy : decide (y < 128) = true := decide_eq_true hy
          by_cases hbad : (0 < k ∧ y = 0) ∨ 1000000 < x + t * u
          · have hE := HST.out
            rw [if_pos hy, if_pos hbad] at hE
            obtain ⟨r1, r2⟩ := H1.out hE
            have R1 := Lib.hid r1
            have R2 := Lib.hid r2
            clear HST hE r1 r2
            by_cases hc : 0 < k ∧ y = 0
            · have d1 : decide ((0 : Int) < (k : Int)) = true := decide_eq_true (by omega)
              obtain ⟨_, rfl⟩ := hc
              clear hbad
              go_wp2
              go_ret2
              rw [R1.out, R2.out]
              exact ⟨rfl, rfl⟩
            · have hx : 1000000 < x + t * u := hbad.resolve_left hc
              have d3 : decide ((1000000 : Int) < x + t * u) = true := decide_eq_true hx
              clear hbad
              by_cases hk0 : 0 < k
              · have d1 : decide ((0 : Int) < (k : Int)) = true := decide_eq_true (by omega)
                have d2 : (y == 0) = false := by simp; omega
                go_wp2
                go_ret2
                rw [R1.out, R2.out]
                exact ⟨rfl, rfl⟩
              · have d1 : decide ((0 : Int) < (k : Int)) = false := decide_eq_false (by omega)
                go_wp2
                go_ret2
                rw [R1.out, R2.out]
                exact ⟨rfl, rfl⟩
          · have hE := HST.out
            rw [if_pos hy, if_neg hbad] at hE
            obtain ⟨r1, r2⟩ := H2.out _ _ hE
            have R1 := Lib.hid r1
            have R2 := Lib.hid r2
            have d3 : decide ((1000000 : Int) < x + t * u) = false := decide_eq_false (fun h => hbad (.inr h))
            have hc : ¬ (0 < k ∧ y = 0) := fun h => hbad (.inl h)
            clear HST hE r1 r2 hbad
            by_cases hk0 : 0 < k
            · have d1 : decide ((0 : Int) < (k : Int)) = true := decide_eq_true (by omega)
              have d2 : (y == 0) = false := by simp; omega
              go_wp2
              go_ret2
              rw [R1.out, R2.out]
              exact ⟨rfl, rfl⟩
            · have d1 : decide ((0 : Int) < (k : Int)) = false := decide_eq_false (by omega)
              go_wp2
              go_ret2
              rw [R1.out, R2.out]
              exact ⟨rfl, rfl⟩
        · have hdy : decide (y < 128) = false := decide_eq_false hy
          have hE := HST.out
          rw [if_neg hy] at hE
          have HE := Lib.hid hE
          clear HST hE
          go_wp2
          go_round
          case rel => exact ⟨k + 1, x + t * u, 128 * u, by omega, by go_num, rfl, rfl, by omega, HE, by omega, by omega, HU⟩
          case measure => simp [intOf] <;> omega
      · have hE := hrd.out.trans (rd_over (x := x) (u := u) (fun h => h4 h.2))
        obtain ⟨r1, r2⟩ := H1.out hE
        have R1 := Lib.hid r1
        have R2 := Lib.hid r2
        have hdl : decide ((k : Int) < (xs.length : Int)) = true := decide_eq_true (by omega)
        have hd4 : decide ((k : Int) < 4) = false := decide_eq_false (by omega)
        clear hrd hE r1 r2
        go_wp2
        go_ret2
        rw [R1.out, R2.out]
        exact ⟨rfl, rfl⟩
    · have hE := hrd.out.trans (rd_over (x := x) (u := u) (fun h => hlt h.1))
      obtain ⟨r1, r2⟩ := H1.out hE
      have R1 := Lib.hid r1
      have R2 := Lib.hid r2
      have hdl : decide ((k : Int) < (xs.length : Int)) = false := decide_eq_false (by omega)
      clear hrd hE r1 r2
      go_wp2
      go_ret2
      rw [R1.out, R2.out]
      exact ⟨rfl, rfl⟩

end Go.Proofs.YthogkhifgkgplaaDoor
