/-
  The plain mathematics of cycles of divisors: no program is named here. No condition.
-/
import Derived.Test.YtpneopldbeefhaaPolyb
namespace Go.Proofs.Ytpneopldbeefhaa

/-- The rest of a 1 with n noughts behind it. -/
def pw (Q : List Bool) (n : Nat) : List Bool := remF Q (true :: zs n)
theorem pw_succ (Q : List Bool) (n : Nat) : pw Q (n + 1) = stq Q (pw Q n) false := by
  unfold pw; rw [← zs_snoc, ← List.cons_append, remF_snoc]
theorem pw_len (Q : List Bool) (h1 : 1 ≤ Q.length) (n : Nat) : (pw Q n).length = Q.length := remF_len Q _ h1
theorem pw_zero (Q : List Bool) (h1 : 1 ≤ Q.length) : pw Q 0 = zs (Q.length - 1) ++ [true] := by
  unfold pw; rw [remF_short Q _ h1 (by simp [zs]; omega)]; rfl
theorem stq_xor_true (Q r : List Bool) (h1 : 1 ≤ Q.length) (hr : r.length = Q.length) : stq Q r true = xorl (stq Q r false) (pw Q 0) := by
  have h := stq_xor Q r (zs Q.length) false true h1 hr (zs_len _)
  rw [xorl_zs r _ hr] at h
  exact h
theorem xorl_eq_zs : ∀ (a b : List Bool) (n : Nat), a.length = n → b.length = n → (xorl a b = zs n ↔ a = b)
  | [], [], n, h, _ => by subst h; simp [xorl, zs]
  | [], b :: m, n, h, h2 => by subst h; simp at h2
  | a :: l, [], n, h, h2 => by subst h; simp at h2
  | a :: l, b :: m, n, h, h2 => by
    obtain ⟨k, rfl⟩ : ∃ k, n = k + 1 := ⟨l.length, by simp at h; omega⟩
    have ih := xorl_eq_zs l m k (by simpa using h) (by simpa using h2)
    have e : xorl (a :: l) (b :: m) = (a ^^ b) :: xorl l m := rfl
    rw [e, zs_succ, List.cons.injEq, List.cons.injEq, ih]
    cases a <;> cases b <;> simp
/-- Two ones k apart leave nothing exactly if a 1 with k noughts behind it leaves what a 1 leaves. -/
theorem pair_iff (Q : List Bool) (h1 : 1 ≤ Q.length) (n : Nat) : remF Q (true :: zs n ++ [true]) = zs Q.length ↔ pw Q (n + 1) = pw Q 0 := by
  rw [remF_snoc, stq_xor_true Q _ h1 (remF_len Q _ h1), xorl_eq_zs _ _ Q.length (stq_len Q _ _ h1 (remF_len Q _ h1)) (pw_len Q h1 0), pw_succ]
  rfl
/-- Where a cycle is not yet there. -/
theorem pw_short (Q : List Bool) (h1 : 1 ≤ Q.length) (k : Nat) (hk : 1 ≤ k) (hd : k < Q.length) : pw Q k ≠ pw Q 0 := by
  intro h
  rw [pw_zero Q h1] at h
  unfold pw at h
  rw [remF_short Q _ h1 (by simp [zs]; omega)] at h
  obtain ⟨m, rfl⟩ : ∃ m, k = m + 1 := ⟨k - 1, by omega⟩
  rw [← zs_snoc, ← List.cons_append, ← List.append_assoc] at h
  have := (List.append_inj' h rfl).2
  simp at this

/-- A cycle: the least one. -/
def IsCyc (Q : List Bool) (K : Nat) : Prop := 1 ≤ K ∧ pw Q K = pw Q 0 ∧ ∀ j, 1 ≤ j → j < K → pw Q j ≠ pw Q 0
theorem least_of (P : Nat → Prop) [DecidablePred P] : ∀ n, P n → ∃ m, m ≤ n ∧ P m ∧ ∀ j, j < m → ¬ P j := by
  intro n
  induction n using Nat.strongRecOn with
  | ind n ih =>
    intro h
    by_cases hx : ∃ j, j < n ∧ P j
    · obtain ⟨j, hj, hp⟩ := hx
      obtain ⟨m, hm, h1, h2⟩ := ih j hj hp
      exact ⟨m, by omega, h1, h2⟩
    · exact ⟨n, Nat.le_refl _, h, fun j hj hp => hx ⟨j, hj, hp⟩⟩
theorem cyc_of (Q : List Bool) (k : Nat) (hk : 1 ≤ k) (h : pw Q k = pw Q 0) : ∃ K, K ≤ k ∧ IsCyc Q K := by
  obtain ⟨m, hm, hp, hl⟩ := least_of (fun n => 1 ≤ n ∧ pw Q n = pw Q 0) k ⟨hk, h⟩
  exact ⟨m, hm, hp.1, hp.2, fun j hj hjm he => hl j hjm ⟨hj, he⟩⟩
theorem cyc_ge {Q : List Bool} {K : Nat} (h1 : 1 ≤ Q.length) (h : IsCyc Q K) : Q.length ≤ K := by
  rcases Nat.lt_or_ge K Q.length with hlt | hge
  · exact absurd h.2.1 (pw_short Q h1 K h.1 hlt)
  · exact hge
theorem pw_add (Q : List Bool) {K : Nat} (h : pw Q K = pw Q 0) : ∀ m, pw Q (m + K) = pw Q m
  | 0 => by rw [Nat.zero_add]; exact h
  | m + 1 => by rw [show m + 1 + K = (m + K) + 1 from by omega, pw_succ, pw_add Q h m, ← pw_succ]
theorem pw_mul (Q : List Bool) {K : Nat} (h : pw Q K = pw Q 0) (m : Nat) : ∀ q, pw Q (m + K * q) = pw Q m
  | 0 => by simp
  | q + 1 => by rw [show m + K * (q + 1) = (m + K * q) + K from by rw [Nat.mul_add]; omega, pw_add Q h, pw_mul Q h m q]
theorem cyc_iff {Q : List Bool} {K : Nat} (h : IsCyc Q K) (m : Nat) : pw Q m = pw Q 0 ↔ m % K = 0 := by
  have e : pw Q m = pw Q (m % K) := by
    have := pw_mul Q h.2.1 (m % K) (m / K)
    rw [Nat.mod_add_div] at this; exact this
  constructor
  · intro hm
    rw [e] at hm
    rcases Nat.eq_zero_or_pos (m % K) with h0 | h0
    · exact h0
    · exact absurd hm (h.2.2 _ h0 (Nat.mod_lt _ h.1))
  · intro hm
    rw [e, hm]

/-! ### each divisor has a cycle -/
theorem stq_inj (Q r t : List Bool) (h1 : 1 ≤ Q.length) (hl : Q.getLast? = some true) (hr : r.length = Q.length) (ht : t.length = Q.length) (h : stq Q r false = stq Q t false) : r = t := by
  have e := stq_xor Q r t false false h1 hr ht
  rw [h, xorl_self, stq_len Q t _ h1 ht] at e
  have := stq_zero Q _ h1 (by rw [xorl_len, hr, ht]; simp) hl e
  exact (xorl_eq_zs r t _ hr ht).1 this
theorem pw_back (Q : List Bool) (h1 : 1 ≤ Q.length) (hl : Q.getLast? = some true) : ∀ i j, pw Q (i + j) = pw Q i → pw Q j = pw Q 0
  | 0, j, h => by rwa [Nat.zero_add] at h
  | i + 1, j, h => by
    rw [show i + 1 + j = (i + j) + 1 from by omega, pw_succ, pw_succ] at h
    exact pw_back Q h1 hl i j (stq_inj Q _ _ h1 hl (pw_len Q h1 _) (pw_len Q h1 _) h)
def allL : Nat → List (List Bool)
  | 0 => [[]]
  | n + 1 => (allL n).map (false :: ·) ++ (allL n).map (true :: ·)
theorem allL_len : ∀ n, (allL n).length = 2 ^ n
  | 0 => rfl
  | n + 1 => by rw [allL, List.length_append, List.length_map, List.length_map, allL_len n, Nat.pow_succ]; omega
theorem mem_allL : ∀ (l : List Bool), l ∈ allL l.length
  | [] => by simp [allL]
  | b :: l => by
    have := mem_allL l
    rw [List.length_cons, allL, List.mem_append, List.mem_map, List.mem_map]
    cases b
    · exact .inl ⟨l, this, rfl⟩
    · exact .inr ⟨l, this, rfl⟩
theorem nodup_le : ∀ (l m : List (List Bool)), l.Nodup → (∀ x ∈ l, x ∈ m) → l.length ≤ m.length
  | [], m, _, _ => by simp
  | a :: l, m, hn, hs => by
    have ha := hs a (by simp)
    rw [List.nodup_cons] at hn
    have := nodup_le l (m.erase a) hn.2 (fun x hx => by
      have hxa : x ≠ a := by rintro rfl; exact hn.1 hx
      exact (List.mem_erase_of_ne hxa).2 (hs x (by simp [hx])))
    rw [List.length_erase_of_mem ha] at this
    have hp : 1 ≤ m.length := List.length_pos_of_mem ha
    simp; omega
theorem pow_le (d : Nat) (h : d ≤ 8) : 2 ^ d ≤ 256 := by
  have := Nat.pow_le_pow_right (n := 2) (by omega) h
  simpa using this
theorem nodup_mono (Q : List Bool) (n : Nat) (h : ∀ i j, i + (j + 1) < n → pw Q (i + (j + 1)) ≠ pw Q i) : ∀ m, m ≤ n → ((List.range m).map (pw Q)).Nodup
  | 0, _ => by simp
  | m + 1, hm => by
    rw [List.range_succ, List.map_append, List.nodup_append]
    refine ⟨nodup_mono Q n h m (by omega), by simp, ?_⟩
    intro a ha b hb
    simp at hb
    subst hb
    obtain ⟨i, hi, rfl⟩ := List.mem_map.1 ha
    have hi' : i < m := by simpa using hi
    intro e
    have := h i (m - i - 1) (by omega)
    rw [show i + (m - i - 1 + 1) = m from by omega] at this
    exact this e.symm
theorem cyc_some (Q : List Bool) (h1 : 1 ≤ Q.length) (h2 : Q.length ≤ 8) (hl : Q.getLast? = some true) : ∃ K, K ≤ 256 ∧ IsCyc Q K := by
  by_cases hx : ∃ j, 1 ≤ j ∧ j ≤ 256 ∧ pw Q j = pw Q 0
  · obtain ⟨j, hj, hj2, he⟩ := hx
    obtain ⟨K, hK, h⟩ := cyc_of Q j hj he
    exact ⟨K, by omega, h⟩
  · exfalso
    have hn := nodup_mono Q 257 (fun i j hij he => hx ⟨j + 1, by omega, by omega, pw_back Q h1 hl i (j + 1) he⟩) 257 (Nat.le_refl _)
    have := nodup_le _ (allL Q.length) hn (fun x hx => by
      obtain ⟨i, _, rfl⟩ := List.mem_map.1 hx
      have := mem_allL (pw Q i)
      rwa [pw_len Q h1] at this)
    rw [List.length_map, List.length_range, allL_len] at this
    have := pow_le Q.length h2
    omega

/-- Two ones among noughts. -/
def two (a g c : Nat) : List Bool := zs a ++ ([true] ++ zs g ++ [true]) ++ zs c
theorem two_len (a g c : Nat) : (two a g c).length = a + g + c + 2 := by simp [two, zs]; omega
theorem two_iff (Q : List Bool) (h1 : 1 ≤ Q.length) (hl : Q.getLast? = some true) (a g c : Nat) : remF Q (two a g c) = zs Q.length ↔ pw Q (g + 1) = pw Q 0 := by
  rw [← pair_iff Q h1 g]
  have e : remF Q (true :: zs g ++ [true]) = remF Q (zs a ++ ([true] ++ zs g ++ [true])) := by rw [remF_ahead Q _ h1]; rfl
  rw [e]
  constructor
  · exact remF_zero Q _ h1 hl c
  · intro h
    unfold two
    rw [remF_app, h]
    exact remF_zs Q h1 c
theorem two_cyc {Q : List Bool} {K : Nat} (h1 : 1 ≤ Q.length) (hl : Q.getLast? = some true) (h : IsCyc Q K) (a g c : Nat) : (remF Q (two a g c) = zs Q.length) ↔ (g + 1) % K = 0 := by
  rw [two_iff Q h1 hl, cyc_iff h]
end Go.Proofs.Ytpneopldbeefhaa
