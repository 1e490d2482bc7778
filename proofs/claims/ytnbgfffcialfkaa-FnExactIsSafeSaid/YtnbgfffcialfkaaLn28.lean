/-
  The plain mathematics of safe plans: no wrong word is taken just where the words sent ahead (or all, if fewer) and those kept are at most the numbers. No condition.
  The plain mathematics of rounds: of safe plans they end, and how many words come. No condition.
-/
import Derived.Test.YtnbgfffcialfkaaLn21
set_option linter.unusedSimpArgs false
set_option linter.unusedVariables false
namespace Go.Proofs.Ytnbgfffcialfkaa
open Go
set_option linter.unusedVariables false

def minS (p : Pl) : Int := min p.a p.w
/-- What else holds of a link of a safe plan. -/
structure SafeI (p : Pl) (l : Lk) : Prop where
  inv : Inv p l
  kd : l.kn ≤ l.d
  da : l.da = -1 ∨ l.s - minS p ≤ l.da
  wo : l.wo = -1 ∨ l.kn ≤ l.wo
theorem mod_near {n x y : Int} (hn : 2 ≤ n ∧ n ≤ 4) (h : x % n = y % n) (h1 : x - y < n) (h2 : y - x < n) : x = y := by
  rcases (show n = 2 ∨ n = 3 ∨ n = 4 from by omega) with e | e | e <;> subst e <;> omega
theorem strip_ge : ∀ (f : Nat) (h d : Int), d ≤ (strip f h d).2
  | 0, h, d => Int.le_refl _
  | f + 1, h, d => by
    unfold strip
    split
    · have := strip_ge f (h / 2) (d + 1)
      omega
    · exact Int.le_refl _
theorem SafeI.ahead {p : Pl} {l : Lk} (h : SafeI p l) : l.s - l.kn ≤ minS p := by
  obtain ⟨⟨i1, i2, i3, i4, i5, i6, i7, i8, i9, i10, i11, i12, i13, i14⟩, _, _, _⟩ := h
  unfold minS
  omega
theorem SafeI.right {p : Pl} {l : Lk} (hp : vpB p = true) (hs : minS p + p.k ≤ p.n) (h : SafeI p l) : takR p l = true := by
  have hah := h.ahead
  obtain ⟨⟨i1, i2, i3, i4, i5, i6, i7, i8, i9, i10, i11, i12, i13, i14⟩, h1, h2, h3⟩ := h
  have hb : 2 ≤ p.n ∧ p.n ≤ 4 ∧ 1 ≤ p.k ∧ p.k ≤ 4 := by simp [vpB] at hp; omega
  unfold takR
  split
  · rfl
  · rename_i hda
    unfold takeF
    split
    · rfl
    · rename_i k hk
      obtain ⟨_, hk2, hk3⟩ := findK_some hk
      have e : l.d + k = l.da := mod_near ⟨hb.1, hb.2.1⟩ hk3 (by omega) (by omega)
      rw [if_pos e]
theorem SafeI.new {p : Pl} (hp : vpB p = true) : SafeI p newL := ⟨newL_inv p hp, by decide, .inl rfl, .inl rfl⟩
theorem SafeI.act {p : Pl} {l : Lk} (hp : vpB p = true) (hs : minS p + p.k ≤ p.n) (h : SafeI p l) {a : Int} (ha : a ∈ actsL) : SafeI p (behF p l a).1 := by
  have hin := beh_inv p l a hp h.inv ha
  have hah := h.ahead
  have hk := acts_ok ha
  suffices hx : (behF p l a).1.kn ≤ (behF p l a).1.d ∧ ((behF p l a).1.da = -1 ∨ (behF p l a).1.s - minS p ≤ (behF p l a).1.da) ∧ ((behF p l a).1.wo = -1 ∨ (behF p l a).1.kn ≤ (behF p l a).1.wo) from ⟨hin, hx.1, hx.2.1, hx.2.2⟩
  clear hin
  obtain ⟨⟨i1, i2, i3, i4, i5, i6, i7, i8, i9, i10, i11, i12, i13, i14⟩, h1, h2, h3⟩ := h
  have hb : 2 ≤ p.n ∧ p.n ≤ 4 ∧ 1 ≤ p.k ∧ p.k ≤ 4 ∧ 1 ≤ p.a ∧ 1 ≤ p.w := by simp [vpB] at hp; omega
  have hm : 1 ≤ minS p := by unfold minS; omega
  unfold behF
  by_cases c1 : a = 115
  · rw [if_pos c1]
    dsimp only
    split
    · exact ⟨h1, .inr (by show l.s + 1 - minS p ≤ l.s; omega), h3⟩
    · exact ⟨h1, h2, h3⟩
  rw [if_neg c1]
  by_cases c2 : a = 100
  · rw [if_pos c2]
    split
    · exact ⟨h1, h2, h3⟩
    · unfold takeF
      have hg := strip_ge 5 l.h l.d
      split
      · exact ⟨by show l.kn ≤ (strip 5 l.h l.d).2; omega, .inl rfl, .inr (by show l.kn ≤ (strip 5 l.h l.d).2; omega)⟩
      · rename_i k _
        split
        · have hg := strip_ge 5 (orb l.h k) l.d
          exact ⟨by show l.kn ≤ (strip 5 (orb l.h k) l.d).2; omega, .inl rfl, .inr (by show l.kn ≤ (strip 5 (orb l.h k) l.d).2; omega)⟩
        · exact ⟨h1, .inl rfl, h3⟩
  rw [if_neg c2]
  by_cases c3 : a = 120
  · rw [if_pos c3]
    exact ⟨h1, .inl rfl, h3⟩
  rw [if_neg c3]
  by_cases c4 : a = 97
  · rw [if_pos c4]
    dsimp only
    split
    · exact ⟨h1, h2, h3⟩
    · rename_i hwo
      unfold hearF
      split
      · exact ⟨h1, h2, .inl rfl⟩
      · rename_i j hj
        obtain ⟨j1, j2, j3⟩ := findJ_some hj
        have e : l.kn + j = l.wo := mod_near ⟨hb.1, hb.2.1⟩ j3 (by omega) (by omega)
        exact ⟨by show l.kn + j ≤ l.d; omega, h2, .inl rfl⟩
  rw [if_neg c4]
  by_cases c5 : a = 121
  · rw [if_pos c5]
    exact ⟨h1, h2, .inl rfl⟩
  rw [if_neg c5]
  dsimp only
  split
  · exact ⟨h1, .inr (by show l.s - minS p ≤ l.kn + (a - 48); omega), h3⟩
  · exact ⟨h1, h2, h3⟩
theorem reach_safe {p : Pl} (hp : vpB p = true) (hs : minS p + p.k ≤ p.n) {l : Lk} (h : Reach p l) : SafeI p l := by
  induction h with
  | new => exact .new hp
  | act _ ha ih => exact ih.act hp hs ha
/-! ### where the numbers are too few -/
/-- Words that come one behind the other, no answer heard. -/
theorem reach_row {p : Pl} (hp : vpB p = true) : ∀ j : Nat, (j : Int) ≤ minS p → ∃ wo : Int, Reach p ⟨0, j, j, 0, -1, wo⟩
  | 0, _ => ⟨-1, .new⟩
  | j + 1, hj => by
    obtain ⟨wo, ih⟩ := reach_row hp j (by omega)
    have hb : 2 ≤ p.n ∧ 1 ≤ p.k := by simp [vpB] at hp; omega
    have hm : (j : Int) < min p.w p.a := by unfold minS at hj; omega
    have h1 := ih.act (show (115 : Int) ∈ actsL by decide)
    have e1 : (behF p ⟨0, j, j, 0, -1, wo⟩ 115).1 = ⟨0, j + 1, j, 0, j, wo⟩ := by
      unfold behF
      simp
      omega
    rw [e1] at h1
    have h2 := h1.act (show (100 : Int) ∈ actsL by decide)
    have e2 : (behF p ⟨0, j + 1, j, 0, j, wo⟩ 100).1 = ⟨0, j + 1, j + 1, 0, -1, j + 1⟩ := by
      have hk : ∃ f, p.k.toNat = f + 1 := ⟨p.k.toNat - 1, by omega⟩
      obtain ⟨f, hf⟩ := hk
      have e : findK p.n j j p.k.toNat 0 = some 0 := by rw [hf]; exact findK_hit (by simp)
      unfold behF
      simp [show ¬ (j : Int) = -1 from by omega, takeF, e, took, orb, strip]
    rw [e2] at h2
    exact ⟨_, h2⟩
theorem reach_unsafe {p : Pl} (hp : vpB p = true) (hs : ¬ minS p + p.k ≤ p.n) : ∃ l, Reach p l ∧ takR p l = false := by
  have hb : 2 ≤ p.n ∧ p.n ≤ 4 ∧ 1 ≤ p.k ∧ p.k ≤ 4 ∧ 1 ≤ p.a ∧ 1 ≤ p.w := by simp [vpB] at hp; omega
  have hm : 1 ≤ minS p := by unfold minS; omega
  obtain ⟨T, hT⟩ : ∃ T : Nat, (T : Int) = min (minS p) p.n := ⟨(min (minS p) p.n).toNat, by omega⟩
  obtain ⟨wo, h⟩ := reach_row hp T (by omega)
  have h1 := h.act (show (48 : Int) ∈ actsL by decide)
  have e1 : (behF p ⟨0, T, T, 0, -1, wo⟩ 48).1 = ⟨0, T, T, 0, 0, wo⟩ := by
    unfold behF
    simp
    omega
  rw [e1] at h1
  refine ⟨_, h1, ?_⟩
  obtain ⟨k, hk, hk2⟩ : ∃ k : Nat, findK p.n T 0 p.k.toNat 0 = some k ∧ (T : Int) + k ≠ 0 := by
    have hz : ∀ (f k : Nat), (k : Int) ≤ p.n - T → p.n - T < k + f → ∃ j, findK p.n T 0 f k = some j := by
      intro f
      induction f with
      | zero => intro k h1 h2; omega
      | succ f ih =>
        intro k h1 h2
        by_cases c : ((T : Int) + k) % p.n = 0 % p.n
        · exact ⟨k, findK_hit c⟩
        · rw [findK_miss c]
          refine ih (k + 1) ?_ (by omega)
          have : ¬ (k : Int) = p.n - T := fun e => c (by rw [e, show (T : Int) + (p.n - T) = p.n from by omega]; simp)
          omega
    obtain ⟨j, hj⟩ := hz p.k.toNat 0 (by omega) (by omega)
    exact ⟨j, hj, by omega⟩
  unfold takR
  simp [takeF, hk, hk2]
/-- THE SAFE PLANS. -/
theorem safe_iff {p : Pl} (hp : vpB p = true) {l0 : List Lk} (h0 : ∀ l, l ∈ l0 ↔ Reach p l) : l0.all (takR p) = decide (minS p + p.k ≤ p.n) := by
  by_cases hs : minS p + p.k ≤ p.n
  · rw [decide_eq_true hs, List.all_eq_true]
    exact fun l hl => (reach_safe hp hs ((h0 l).1 hl)).right hp hs
  · rw [decide_eq_false hs, List.all_eq_false]
    obtain ⟨l, h, ht⟩ := reach_unsafe hp hs
    exact ⟨l, (h0 l).2 h, by rw [ht]; decide⟩
/-! ### how many links there are -/
theorem reach_step {p : Pl} (hp : vpB p = true) : ∀ j : Nat, (j : Int) ≤ p.w → Reach p ⟨j, j, j, 0, -1, -1⟩
  | 0, _ => .new
  | j + 1, hj => by
    have ih := reach_step hp j (by omega)
    have hb : 2 ≤ p.n ∧ 1 ≤ p.k ∧ 1 ≤ p.a := by simp [vpB] at hp; omega
    have h1 := ih.act (show (115 : Int) ∈ actsL by decide)
    have e1 : (behF p ⟨j, j, j, 0, -1, -1⟩ 115).1 = ⟨j, j + 1, j, 0, j, -1⟩ := by
      unfold behF
      simp
      omega
    rw [e1] at h1
    have h2 := h1.act (show (100 : Int) ∈ actsL by decide)
    have e2 : (behF p ⟨j, j + 1, j, 0, j, -1⟩ 100).1 = ⟨j, j + 1, j + 1, 0, -1, j + 1⟩ := by
      obtain ⟨f, hf⟩ : ∃ f, p.k.toNat = f + 1 := ⟨p.k.toNat - 1, by omega⟩
      have e : findK p.n j j p.k.toNat 0 = some 0 := by rw [hf]; exact findK_hit (by simp)
      unfold behF
      simp [show ¬ (j : Int) = -1 from by omega, takeF, e, took, orb, strip]
    rw [e2] at h2
    have h3 := h2.act (show (97 : Int) ∈ actsL by decide)
    have e3 : (behF p ⟨j, j + 1, j + 1, 0, -1, j + 1⟩ 97).1 = ⟨j + 1, j + 1, j + 1, 0, -1, -1⟩ := by
      have e : findJ p.n j (j + 1) 1 1 = some 1 := findJ_hit (by simp)
      unfold behF
      simp [show ¬ ((j : Int) + 1) = -1 from by omega, hearF, show ((j : Int) + 1 - j).toNat = 1 from by omega, e]
    rw [e3] at h3
    simpa using h3
theorem count_le {α : Type} : ∀ (xs ys : List α), xs.Nodup → (∀ x ∈ xs, x ∈ ys) → xs.length ≤ ys.length
  | [], ys, _, _ => Nat.zero_le _
  | x :: xs, ys, hn, h => by
    obtain ⟨s, t, rfl⟩ := List.append_of_mem (h x (List.mem_cons_self ..))
    have hn' := List.nodup_cons.1 hn
    have := count_le xs (s ++ t) hn'.2 fun y hy => by
      have := h y (List.mem_cons_of_mem _ hy)
      have hne : y ≠ x := fun e => hn'.1 (e ▸ hy)
      simp only [List.mem_append, List.mem_cons] at this ⊢
      rcases this with h | h | h
      · exact .inl h
      · exact absurd h hne
      · exact .inr h
    simp only [List.length_append, List.length_cons] at *
    omega
/-- At least one link for each word, and one more. -/
theorem links_many {p : Pl} (hp : vpB p = true) {l0 : List Lk} (h0 : ∀ l, l ∈ l0 ↔ Reach p l) : p.w < l0.length := by
  have hb : 1 ≤ p.w := by simp [vpB] at hp; omega
  have := count_le ((List.range (p.w.toNat + 1)).map fun j => (⟨(j : Nat), (j : Nat), (j : Nat), 0, -1, -1⟩ : Lk)) l0 ?_ ?_
  · simp at this
    omega
  · refine nodup_map List.nodup_range fun x _ y _ e => ?_
    simp at e
    omega
  · intro x hx
    obtain ⟨j, hj, rfl⟩ := List.mem_map.1 hx
    rw [List.mem_range] at hj
    exact (h0 _).2 (reach_step hp j (by omega))
/-- With one word less all links are links, and none has sent the last word. -/
theorem reach_less {n a k m : Int} (hp : vpB ⟨n, a, k, m - 1⟩ = true) {l : Lk} (h : Reach ⟨n, a, k, m - 1⟩ l) : Reach ⟨n, a, k, m⟩ l ∧ l.s ≤ m - 1 := by
  have hi : Inv ⟨n, a, k, m - 1⟩ l := by
    induction h with
    | new => exact newL_inv _ hp
    | act _ ha ih => exact beh_inv _ _ _ hp ih ha
  refine ⟨?_, hi.2.2.2.1⟩
  clear hi
  induction h with
  | new => exact .new
  | act h ha ih =>
    rename_i l b
    by_cases c1 : b = 115
    · subst c1
      by_cases c : l.da = -1 ∧ l.s < min (m - 1) (l.kn + a)
      · have e : (behF ⟨n, a, k, m - 1⟩ l 115).1 = (behF ⟨n, a, k, m⟩ l 115).1 := by
          unfold behF
          rw [if_pos rfl, if_pos rfl, if_pos c, if_pos (by dsimp only; omega)]
        rw [e]
        exact .act ih ha
      · have e : (behF ⟨n, a, k, m - 1⟩ l 115).1 = l := by
          unfold behF
          rw [if_pos rfl, if_neg c]
        rw [e]
        exact ih
    · have e : (behF ⟨n, a, k, m - 1⟩ l b).1 = (behF ⟨n, a, k, m⟩ l b).1 := by
        unfold behF
        rw [if_neg c1, if_neg c1]
        rfl
      rw [e]
      exact .act ih ha
theorem links_less {n a k m : Int} (hp : vpB ⟨n, a, k, m - 1⟩ = true) (hp' : vpB ⟨n, a, k, m⟩ = true) {l1 l0 : List Lk} (hn : l1.Nodup) (h1 : ∀ l, l ∈ l1 ↔ Reach ⟨n, a, k, m - 1⟩ l) (h0 : ∀ l, l ∈ l0 ↔ Reach ⟨n, a, k, m⟩ l) : l1.length < l0.length := by
  have hb : 1 ≤ m := by simp [vpB] at hp'; omega
  have hr := reach_step hp' m.toNat (by show ((m.toNat : Nat) : Int) ≤ m; omega)
  have := count_le ((⟨(m.toNat : Nat), (m.toNat : Nat), (m.toNat : Nat), 0, -1, -1⟩ : Lk) :: l1) l0 (List.nodup_cons.2 ⟨fun h => ?_, hn⟩) fun x hx => ?_
  · simp at this
    omega
  · have := (reach_less hp ((h1 _).1 h)).2
    simp only at this
    omega
  · rcases List.mem_cons.1 hx with rfl | hx
    · exact (h0 _).2 hr
    · exact (h0 _).2 (reach_less hp ((h1 _).1 hx)).1
end Go.Proofs.Ytnbgfffcialfkaa

namespace Go.Proofs.Ytnbgfffcialfkaa
open Go
set_option linter.unusedVariables false

/-- The three acts that are next. -/
def roundA (p : Pl) (lost : Int) (l : Lk) : List Nat := if mayF p l 115 then (if lost ≠ 0 ∧ l.s % lost = 0 then [115, 120, 97] else [115, 100, 97]) else [48, 100, 97]
def rstp (p : Pl) (x : Lk × Nat) (a : Nat) : Lk × Nat := (stepL p x.1 a, if mayF p x.1 a && a == 100 then x.2 + 1 else x.2)
def rnd (p : Pl) (lost : Int) (x : Lk × Nat) : Lk × Nat := (roundA p lost x.1).foldl (rstp p) x
def rnds (p : Pl) (lost : Int) : Nat → Lk × Nat → Option Nat
  | 0, x => if x.1.kn < p.w then none else some x.2
  | f + 1, x => if x.1.kn < p.w then rnds p lost f (rnd p lost x) else some x.2
def okR (n a k w lost : Nat) : Bool := if min a w + k ≤ n then (match rnds ⟨n, a, k, w⟩ lost 12 (newL, 0) with | some r => decide (w ≤ r ∧ (0 < lost ∨ r = w)) | none => false) else true
set_option maxRecDepth 100000 in
theorem okR_all : ∀ (n : Fin 3) (a : Fin 4) (k : Fin 4) (w : Fin 5) (lost : Fin 7), okR (n.val + 2) (a.val + 1) (k.val + 1) (w.val + 1) lost.val = true := by decide +kernel
theorem rnds_safe {p : Pl} (hp : vpB p = true) (hs : minS p + p.k ≤ p.n) {lost : Int} (hl : 0 ≤ lost ∧ lost ≤ 6) : ∃ r : Nat, rnds p lost 12 (newL, 0) = some r ∧ p.w ≤ r ∧ (0 < lost ∨ (r : Int) = p.w) := by
  obtain ⟨n, a, k, w⟩ := p
  simp [vpB] at hp
  simp only [minS] at hs
  have h := okR_all ⟨(n - 2).toNat, by omega⟩ ⟨(a - 1).toNat, by omega⟩ ⟨(k - 1).toNat, by omega⟩ ⟨(w - 1).toNat, by omega⟩ ⟨lost.toNat, by omega⟩
  simp only at h
  unfold okR at h
  rw [show (n - 2).toNat + 2 = n.toNat from by omega, show (a - 1).toNat + 1 = a.toNat from by omega, show (k - 1).toNat + 1 = k.toNat from by omega, show (w - 1).toNat + 1 = w.toNat from by omega, if_pos (by omega),
    Int.toNat_of_nonneg (show 0 ≤ n by omega), Int.toNat_of_nonneg (show 0 ≤ a by omega), Int.toNat_of_nonneg (show 0 ≤ k by omega), Int.toNat_of_nonneg (show 0 ≤ w by omega), Int.toNat_of_nonneg (show 0 ≤ lost by omega)] at h
  split at h
  · rename_i r hr
    simp at h
    exact ⟨r, hr, by show w ≤ r; omega, by show 0 < lost ∨ (r : Int) = w; omega⟩
  · cases h
end Go.Proofs.Ytnbgfffcialfkaa
