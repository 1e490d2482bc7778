/-
  The plain mathematics of numbers as texts in decimal: no program is named here. No condition.
  The walks of the model's functions on numbers in decimal. Conditions: the lengths that are typed.
-/
import Derived.Lib.ItoaNum
import Derived.Lib.ItoaMem
import Derived.Lib.AtoiAllCases
import Derived.Test.YtndpbhmokobbpaaGreatDoorDm05
namespace Go.Proofs.YtndpbhmokobbpaaGreatDoor
open Go Go.Lib
set_option linter.unusedVariables false

theorem dd_small {n : Nat} (h : n < 10) : decDigits n = [UInt8.ofNat (48 + n)] := by rw [decDigits, dif_pos h]
theorem dd_big {n : Nat} (h : ¬ n < 10) : decDigits n = decDigits (n / 10) ++ [UInt8.ofNat (48 + n % 10)] := by rw [decDigits, dif_neg h]
theorem dig_nat {d : Nat} (h : d < 10) : (UInt8.ofNat (48 + d)).toNat = 48 + d := by
  rw [UInt8.toNat_ofNat']
  omega
theorem dd_digits : ∀ (n : Nat) (c : UInt8), c ∈ decDigits n → 48 ≤ c.toNat ∧ c.toNat ≤ 57 := by
  intro n
  induction n using Nat.strongRecOn with
  | _ n ih =>
    intro c hc
    by_cases h : n < 10
    · rw [dd_small h] at hc
      have : c = UInt8.ofNat (48 + n) := by simpa using hc
      rw [this, dig_nat h]; omega
    · rw [dd_big h] at hc
      rcases List.mem_append.1 hc with hc | hc
      · exact ih (n / 10) (by omega) c hc
      · have : c = UInt8.ofNat (48 + n % 10) := by simpa using hc
        rw [this, dig_nat (by omega)]; omega
theorem dd_ne (n : Nat) : decDigits n ≠ [] := by
  by_cases h : n < 10
  · rw [dd_small h]; simp
  · rw [dd_big h]; simp
theorem pu_app : ∀ (a b : List UInt8) (acc u : Nat), parseUint10 acc a = .ok u → parseUint10 acc (a ++ b) = parseUint10 u b
  | [], b, acc, u, h => by
    rw [parseUint10] at h
    injection h with h
    rw [h]; rfl
  | c :: r, b, acc, u, h => by
    rw [parseUint10] at h
    rw [List.cons_append, parseUint10]
    split at h <;> rename_i h1
    · rw [if_pos h1]
      split at h <;> rename_i h2
      · cases h
      · rw [if_neg h2]
        split at h <;> rename_i h3
        · cases h
        · rw [if_neg h3]
          exact pu_app r b _ u h
    · cases h
theorem pu_dd : ∀ n : Nat, n < 9223372036854775808 → parseUint10 0 (decDigits n) = .ok n := by
  intro n
  induction n using Nat.strongRecOn with
  | _ n ih =>
    intro hn
    by_cases h : n < 10
    · rw [dd_small h, parseUint10, dig_nat h, if_pos (by omega), if_neg (by omega), if_neg (by omega), parseUint10]
      congr 1; omega
    · rw [dd_big h, pu_app _ _ _ _ (ih (n / 10) (by omega) (by omega)), parseUint10, dig_nat (by omega), if_pos (by omega), if_neg (by omega), if_neg (by omega), parseUint10]
      congr 1; omega
theorem atoi_dd {n : Nat} (hn : n < 9223372036854775808) : atoiAll (decDigits n) = .ok (n : Int) := by
  have hd := dd_digits n
  have hp := pu_dd n hn
  cases he : decDigits n with
  | nil => exact absurd he (dd_ne n)
  | cons c r =>
    rw [he] at hd hp
    have hc := hd c List.mem_cons_self
    rw [atoiAll_plain c r (by omega) (by omega)]
    unfold parseMag
    rw [if_neg (by simp), hp]
    unfold signless
    simp only
    rw [if_neg (by omega)]

/-- The number of a text in decimal, as the program reads it. -/
def fdI (l : List UInt8) : Int := match atoiAll l with
  | .ok v => if itoa v = l then v else -1
  | _ => -1
theorem fdI_iff {l : List UInt8} {n : Nat} (hn : n < 9223372036854775808) : fdI l = (n : Int) ↔ l = decDigits n := by
  constructor
  · intro h
    unfold fdI at h
    cases ha : atoiAll l with
    | ok v =>
      rw [ha] at h
      simp only at h
      by_cases hi : itoa v = l
      · rw [if_pos hi] at h
        subst h
        rw [itoa_nonneg] at hi
        exact hi.symm
      · rw [if_neg hi] at h; omega
    | _ => rw [ha] at h; simp only at h; omega
  · intro h
    subst h
    unfold fdI
    rw [atoi_dd hn]
    simp only
    rw [itoa_nonneg, if_pos rfl]

/-- The digits of a text, as the model reads them. -/
def rdD : Nat → List UInt8 → Option Nat
  | acc, [] => some acc
  | acc, c :: r => if 48 ≤ c.toNat ∧ c.toNat ≤ 57 ∧ acc ≤ 100000 then rdD (10 * acc + (c.toNat - 48)) r else none
/-- The number of a text in decimal, as the model reads it. -/
def rdN (l : List UInt8) : Int := match rdD 0 l with
  | some n => if l ≠ [] ∧ decDigits n = l then n else -1
  | none => -1
theorem rd_app : ∀ (a b : List UInt8) (acc : Nat), rdD acc (a ++ b) = (rdD acc a).bind (fun u => rdD u b)
  | [], b, acc => rfl
  | c :: r, b, acc => by
    rw [List.cons_append, rdD, rdD]
    split
    · exact rd_app r b _
    · rfl
theorem rd_dd : ∀ n : Nat, n / 10 ≤ 100000 → rdD 0 (decDigits n) = some n := by
  intro n
  induction n using Nat.strongRecOn with
  | _ n ih =>
    intro hn
    by_cases h : n < 10
    · rw [dd_small h, rdD, dig_nat h, if_pos ⟨by omega, by omega, by omega⟩, rdD]
      congr 1; omega
    · rw [dd_big h, rd_app, ih (n / 10) (by omega) (by omega)]
      simp only [Option.bind_some]
      rw [rdD, dig_nat (by omega), if_pos ⟨by omega, by omega, hn⟩, rdD]
      congr 1; omega
theorem rdN_iff {l : List UInt8} {n : Nat} (hn : n ≤ 1000000) : rdN l = (n : Int) ↔ l = decDigits n := by
  constructor
  · intro h
    unfold rdN at h
    cases hr : rdD 0 l with
    | none => rw [hr] at h; simp only at h; omega
    | some m =>
      rw [hr] at h
      simp only at h
      by_cases hc : l ≠ [] ∧ decDigits m = l
      · rw [if_pos hc] at h
        have : m = n := by omega
        subst this
        exact hc.2.symm
      · rw [if_neg hc] at h; omega
  · intro h
    subst h
    unfold rdN
    rw [rd_dd n (by omega)]
    simp only
    rw [if_pos (by first | exact ⟨dd_ne n, rfl⟩ | exact ⟨dd_ne n, trivial⟩)]
theorem rd_bound : ∀ (l : List UInt8) (acc n : Nat), acc ≤ 1000009 → rdD acc l = some n → n ≤ 1000009
  | [], acc, n, ha, h => by rw [rdD] at h; injection h with h; omega
  | c :: r, acc, n, ha, h => by
    rw [rdD] at h
    split at h
    · exact rd_bound r _ n (by omega) h
    · cases h
theorem rdN_bound (l : List UInt8) : -1 ≤ rdN l ∧ rdN l ≤ 1000009 := by
  unfold rdN
  cases hr : rdD 0 l with
  | none => simp
  | some n =>
    have := rd_bound l 0 n (by omega) hr
    simp only
    split <;> omega
/-- Where one reads a number in a limit, so does the other. -/
theorem fd_rd {l : List UInt8} {M : Nat} (hM : M ≤ 1000000) : ((0 ≤ fdI l ∧ fdI l ≤ M) ↔ (0 ≤ rdN l ∧ rdN l ≤ M)) ∧ ((0 ≤ rdN l ∧ rdN l ≤ M) → fdI l = rdN l) := by
  have key : ∀ n : Nat, n ≤ M → (fdI l = (n : Int) ↔ rdN l = (n : Int)) := fun n hn => by rw [fdI_iff (by omega), rdN_iff (by omega)]
  refine ⟨⟨fun h => ?_, fun h => ?_⟩, fun h => ?_⟩
  · obtain ⟨n, hn⟩ : ∃ n : Nat, fdI l = n := ⟨(fdI l).toNat, by omega⟩
    have := (key n (by omega)).1 hn
    omega
  · obtain ⟨n, hn⟩ : ∃ n : Nat, rdN l = n := ⟨(rdN l).toNat, by omega⟩
    have := (key n (by omega)).2 hn
    omega
  · obtain ⟨n, hn⟩ : ∃ n : Nat, rdN l = n := ⟨(rdN l).toNat, by omega⟩
    rw [hn, (key n (by omega)).2 hn]
end Go.Proofs.YtndpbhmokobbpaaGreatDoor

namespace Go.Proofs.YtndpbhmokobbpaaGreatDoor
open Go.RowKit
set_option linter.unusedVariables false

/-- A number in decimal, as a text. -/
def dT (n : Nat) : ByteArray := mkT (Lib.decDigits n)
theorem dT_small : ∀ n, n < 10 → dT n = ⟨#[UInt8.ofNat (48 + n)]⟩ := fun n h => by unfold dT; rw [dd_small h]; rfl
theorem dT_big {n : Nat} (h : ¬ n < 10) : dT (n / 10) ++ dT (n % 10) = dT n := by
  unfold dT
  rw [mkT_app, dd_small (n := n % 10) (by omega), ← dd_big h]
theorem dd_len : ∀ (n : Nat), (Lib.decDigits n).length ≤ n + 1 := by
  intro n
  induction n using Nat.strongRecOn with
  | _ n ih =>
    by_cases h : n < 10
    · rw [dd_small h]; simp
    · rw [dd_big h, List.length_append]
      have := ih (n / 10) (by omega)
      simp only [List.length_cons, List.length_nil]
      omega

set_option maxHeartbeats 800000 in
theorem num_any (n : Nat) : n ≤ 100000000 → ∀ (w : World), Calls Tryz.prog 23 #[.int .i64 n] w fun e w' => e = .returned (.string (dT n)) ∧ w = w' := by
  induction n using Nat.strongRecOn with
  | _ n ih =>
    intro hn w
    by_cases h : n < 10
    · have hc : n = 0 ∨ n = 1 ∨ n = 2 ∨ n = 3 ∨ n = 4 ∨ n = 5 ∨ n = 6 ∨ n = 7 ∨ n = 8 ∨ n = 9 := by omega
      rw [dT_small n h]
      rcases hc with rfl | rfl | rfl | rfl | rfl | rfl | rfl | rfl | rfl | rfl
      all_goals
        clear ih h hn
        go_enter Tryz.func23, Tryz.ntmps23
        go_wp2
        go_ret
        exact ⟨rfl, rfl⟩
    · have H1 := Lib.hid (ih (n / 10) (by omega) (by omega) w)
      have H2 := Lib.hid (ih (n % 10) (by omega) (by omega) w)
      have HE := Lib.hid (dT_big h)
      have e1 : (n : Int) / 10 = ((n / 10 : Nat) : Int) := by omega
      have e2 : (n : Int) % 10 = ((n % 10 : Nat) : Int) := by omega
      have hsz : (dT (n / 10)).size + (dT (n % 10)).size ≤ 200000002 := by
        have a := dd_len (n / 10)
        have b := dd_len (n % 10)
        show (Lib.decDigits (n / 10)).length + (Lib.decDigits (n % 10)).length ≤ _
        omega
      clear ih
      generalize n / 10 = a at *
      generalize n % 10 = b at *
      generalize dT n = T at *
      generalize dT a = A at *
      generalize dT b = B at *
      go_enter Tryz.func23, Tryz.ntmps23
      go_wp2_with fail
      refine H1.out.mono ?_
      rintro e w1 ⟨rfl, rfl⟩
      go_wp2_with fail
      refine H2.out.mono ?_
      rintro e w2 ⟨rfl, rfl⟩
      go_wp2
      go_ret
      exact ⟨by rw [← HE.out]; rfl, rfl⟩
end Go.Proofs.YtndpbhmokobbpaaGreatDoor
