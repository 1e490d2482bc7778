/-
  The plain mathematics of the search: it ends, and finds each link behind any acts, once. No condition.
  What the program makes of an act is what the model makes of it. Conditions: a link of a plan, one of the nine acts.
-/
import Derived.Test.YtnbgfffcialfkaaLn17
set_option linter.unusedSimpArgs false
set_option linter.unusedVariables false
namespace Go.Proofs.Ytnbgfffcialfkaa
open Go
set_option linter.unusedVariables false

theorem beh_inv (p : Pl) (l : Lk) (act : Int) (hp : vpB p = true) (hi : Inv p l) (ha : act ∈ actsL) : Inv p (behF p l act).1 := by
  have hi' := hi
  obtain ⟨i1, i2, i3, i4, i5, i6, i7, i8, i9, i10, i11, i12, i13, i14⟩ := hi'
  have hk := acts_ok ha
  unfold behF
  by_cases c1 : act = 115
  · rw [if_pos c1]
    dsimp only
    split
    · rename_i h
      have h1 : l.s < p.w ∧ l.s < l.kn + p.a := by omega
      refine ⟨i1, i2, by show l.kn ≤ l.s + 1; omega, by show l.s + 1 ≤ p.w; omega, by show l.s + 1 ≤ l.kn + p.a; omega, i6, by show l.d ≤ l.s + 1; omega, i8, i9, Int.lt_of_lt_of_le i10 (pow_mono ?_), by show -1 ≤ l.s; omega, by show l.s < l.s + 1; omega, i13, i14⟩
      show (min p.k (l.s - l.d)).toNat ≤ (min p.k (l.s + 1 - l.d)).toNat
      omega
    · exact hi
  rw [if_neg c1]
  by_cases c2 : act = 100
  · rw [if_pos c2]
    split
    · exact hi
    · cases hr : (takeF p l).2 with
      | true => exact takeF_inv p l hp hi hr
      | false =>
        have e : (takeF p l).1 = { l with da := -1 } := by
          unfold takeF at hr ⊢
          split at hr
          · cases hr
          · split at hr
            · cases hr
            · rename_i k hk' hne
              simp [hk', hne]
        rw [e]
        exact ⟨i1, i2, i3, i4, i5, i6, i7, i8, i9, i10, Int.le_refl _, by show (-1 : Int) < l.s; omega, i13, i14⟩
  rw [if_neg c2]
  by_cases c3 : act = 120
  · rw [if_pos c3]
    exact ⟨i1, i2, i3, i4, i5, i6, i7, i8, i9, i10, Int.le_refl _, by show (-1 : Int) < l.s; omega, i13, i14⟩
  rw [if_neg c3]
  by_cases c4 : act = 97
  · rw [if_pos c4]
    dsimp only
    split
    · exact hi
    · exact hearF_inv p l hi
  rw [if_neg c4]
  by_cases c5 : act = 121
  · rw [if_pos c5]
    exact ⟨i1, i2, i3, i4, i5, i6, i7, i8, i9, i10, i11, i12, Int.le_refl _, by show (-1 : Int) ≤ l.d; omega⟩
  rw [if_neg c5]
  dsimp only
  split
  · exact ⟨i1, i2, i3, i4, i5, i6, i7, i8, i9, i10, by show -1 ≤ l.kn + (act - 48); omega, by show l.kn + (act - 48) < l.s; omega, i13, i14⟩
  · exact hi
/-! ### how many there can be -/
theorem nodup_lt : ∀ (N : Nat) (l : List Nat), l.Nodup → (∀ x ∈ l, x < N) → l.length ≤ N
  | 0, l, _, h => by
    cases l with
    | nil => simp
    | cons a l => exact absurd (h a (List.mem_cons_self ..)) (by omega)
  | N + 1, l, hn, h => by
    have h2 : ∀ x ∈ l.erase N, x < N := fun x hx => by
      have h3 := h x (List.mem_of_mem_erase hx)
      have h4 : x ≠ N := fun e => by
        subst e
        exact (List.Nodup.not_mem_erase hn) hx
      omega
    have := nodup_lt N (l.erase N) (hn.erase N) h2
    have h5 := List.length_erase (a := N) (l := l)
    split at h5 <;> omega
def codeL (l : Lk) : Nat := ((((l.kn.toNat * 6 + l.s.toNat) * 6 + l.d.toNat) * 16 + l.h.toNat) * 7 + (l.da + 1).toNat) * 7 + (l.wo + 1).toNat
def Small (l : Lk) : Prop := (0 ≤ l.kn ∧ l.kn ≤ 5) ∧ (0 ≤ l.s ∧ l.s ≤ 5) ∧ (0 ≤ l.d ∧ l.d ≤ 5) ∧ (0 ≤ l.h ∧ l.h < 16) ∧ (-1 ≤ l.da ∧ l.da ≤ 5) ∧ (-1 ≤ l.wo ∧ l.wo ≤ 5)
theorem peel7 (a b a' b' : Nat) (h1 : b < 7) (h2 : b' < 7) (h : a * 7 + b = a' * 7 + b') : a = a' ∧ b = b' := by omega
theorem peel16 (a b a' b' : Nat) (h1 : b < 16) (h2 : b' < 16) (h : a * 16 + b = a' * 16 + b') : a = a' ∧ b = b' := by omega
theorem peel6 (a b a' b' : Nat) (h1 : b < 6) (h2 : b' < 6) (h : a * 6 + b = a' * 6 + b') : a = a' ∧ b = b' := by omega
theorem tn_lt {x : Int} (h : -1 ≤ x) (h' : x ≤ 5) : (x + 1).toNat < 7 := by omega
theorem tn_lt6 {x : Int} (h : 0 ≤ x) (h' : x < 16) : x.toNat < 16 := by omega
theorem tn_ltf {x : Int} (h : 0 ≤ x) (h' : x ≤ 5) : x.toNat < 6 := by omega
theorem tn_inj {x y : Int} (h : 0 ≤ x) (h' : 0 ≤ y) (e : x.toNat = y.toNat) : x = y := by omega
theorem tn_inj1 {x y : Int} (h : -1 ≤ x) (h' : -1 ≤ y) (e : (x + 1).toNat = (y + 1).toNat) : x = y := by omega
theorem code_inj {x y : Lk} (hx : Small x) (hy : Small y) (h : codeL x = codeL y) : x = y := by
  obtain ⟨x0, x1, x2, x3, x4, x5⟩ := x
  obtain ⟨y0, y1, y2, y3, y4, y5⟩ := y
  simp only [Small, codeL] at *
  obtain ⟨⟨a0, a1⟩, ⟨a2, a3⟩, ⟨a4, a5⟩, ⟨a6, a7⟩, ⟨a8, a9⟩, a10, a11⟩ := hx
  obtain ⟨⟨b0, b1⟩, ⟨b2, b3⟩, ⟨b4, b5⟩, ⟨b6, b7⟩, ⟨b8, b9⟩, b10, b11⟩ := hy
  obtain ⟨h, e5⟩ := peel7 _ _ _ _ (tn_lt a10 a11) (tn_lt b10 b11) h
  obtain ⟨h, e4⟩ := peel7 _ _ _ _ (tn_lt a8 a9) (tn_lt b8 b9) h
  obtain ⟨h, e3⟩ := peel16 _ _ _ _ (tn_lt6 a6 a7) (tn_lt6 b6 b7) h
  obtain ⟨h, e2⟩ := peel6 _ _ _ _ (tn_ltf a4 a5) (tn_ltf b4 b5) h
  obtain ⟨e0, e1⟩ := peel6 _ _ _ _ (tn_ltf a2 a3) (tn_ltf b2 b3) h
  have e5 : x5 = y5 := tn_inj1 a10 b10 e5
  have e4 : x4 = y4 := tn_inj1 a8 b8 e4
  have e3 : x3 = y3 := tn_inj a6 b6 e3
  have e2 : x2 = y2 := tn_inj a4 b4 e2
  have e1 : x1 = y1 := tn_inj a2 b2 e1
  have e0 : x0 = y0 := tn_inj a0 b0 e0
  simp [e0, e1, e2, e3, e4, e5]
theorem code_lt {x : Lk} (hx : Small x) : codeL x < 169344 := by
  simp only [Small, codeL] at *
  omega
theorem nodup_map {α β : Type} {f : α → β} : ∀ {l : List α}, l.Nodup → (∀ x ∈ l, ∀ y ∈ l, f x = f y → x = y) → (l.map f).Nodup
  | [], _, _ => by simp
  | a :: l, h, hf => by
    simp only [List.map_cons, List.nodup_cons] at *
    refine ⟨fun hm => ?_, nodup_map h.2 fun x hx y hy => hf x (List.mem_cons_of_mem _ hx) y (List.mem_cons_of_mem _ hy)⟩
    obtain ⟨x, hx, e⟩ := List.mem_map.1 hm
    exact h.1 (hf x (List.mem_cons_of_mem _ hx) a (List.mem_cons_self ..) e ▸ hx)
theorem small_len {ls : List Lk} (hn : ls.Nodup) (h : ∀ l ∈ ls, Small l) : ls.length ≤ 900000 := by
  have := nodup_lt 169344 (ls.map codeL) (nodup_map hn fun x hx y hy e => code_inj (h x hx) (h y hy) e) (fun x hx => by
    obtain ⟨l, hl, rfl⟩ := List.mem_map.1 hx
    exact code_lt (h l hl))
  simp at this
  omega
theorem inv_small {p : Pl} {l : Lk} (hp : vpB p = true) (hi : Inv p l) : Small l := by
  have h16 := held16 p l hp hi
  have hv : p.w ≤ 5 := by simp [vpB] at hp; omega
  obtain ⟨i1, i2, i3, i4, i5, i6, i7, i8, i9, i10, i11, i12, i13, i14⟩ := hi
  exact ⟨by omega, by omega, by omega, h16, by omega, by omega⟩
theorem okay_inv {p : Pl} (hp : vpB p = true) : OkayL p (Inv p) := by
  have hs : ∀ l, Inv p l → Small l := fun l h => inv_small hp h
  refine ⟨fun l h => ⟨h.1, h.2.2.1, (hs l h).2.1.2⟩, fun l h => (hs l h).2.2.1, fun l h => (hs l h).2.2.2.1, fun l h => (hs l h).2.2.2.2.1, fun l h => (hs l h).2.2.2.2.2, fun l h act ha => beh_inv p l act hp h ha, fun ls hn h => small_len hn fun l hl => hs l (h l hl)⟩
/-! ### the search ends -/
theorem fnd_exists {p : Pl} {Z : Lk → Prop} (hZ : OkayL p Z) (B : Nat) (hB : ∀ ls : List Lk, GoodL Z ls → ls.length < B) : ∀ (N : Nat) (ls : List Lk) (k : Nat), B - k ≤ N → GoodL Z ls → k ≤ ls.length → ∃ vs, Fnd p ls k vs := by
  intro N
  induction N with
  | zero =>
    intro ls k hN hg hk
    have := hB ls hg
    omega
  | succ N ih =>
    intro ls k hN hg hk
    by_cases e : k = ls.length
    · subst e
      exact ⟨[], .done⟩
    · have hlt : k < ls.length := by omega
      obtain ⟨l, hl⟩ : ∃ l, ls[k]? = some l := ⟨_, List.getElem?_eq_getElem hlt⟩
      have hz : Z l := hg.all _ (List.mem_of_getElem? hl)
      have h1 := (List.getElem?_eq_some_iff.1 (growL_get (p := p) (l := l) hl 9)).1
      have h2 := hB ls hg
      have h3 := growL_good hZ hz hg 9
      generalize hW : growL p l ls 9 = W at *
      obtain ⟨vs, h⟩ := ih W (k + 1) (by omega) h3 (by omega)
      subst hW
      exact ⟨_, .step hl h⟩
/-- A link behind any acts. -/
inductive Reach (p : Pl) : Lk → Prop
  | new : Reach p newL
  | act {l : Lk} {a : Int} : Reach p l → a ∈ actsL → Reach p (behF p l a).1
theorem nextL_mem {p : Pl} {l x : Lk} {ls : List Lk} {act : Int} : x ∈ nextL p l ls act ↔ x ∈ ls ∨ x = (behF p l act).1 := by
  unfold nextL
  split
  · rename_i h
    exact ⟨.inl, fun h' => h'.elim id fun e => e ▸ h⟩
  · simp
theorem foldl_mem {p : Pl} {l x : Lk} : ∀ (bs : List Int) (ls : List Lk), x ∈ bs.foldl (nextL p l) ls ↔ x ∈ ls ∨ ∃ a ∈ bs, x = (behF p l a).1
  | [], ls => by simp
  | a :: bs, ls => by
    rw [List.foldl_cons, foldl_mem bs, nextL_mem]
    simp only [List.mem_cons, exists_eq_or_imp]
    exact or_assoc
theorem growL_mem {p : Pl} {l x : Lk} {ls : List Lk} : x ∈ growL p l ls 9 ↔ x ∈ ls ∨ ∃ a ∈ actsL, x = (behF p l a).1 := foldl_mem actsL ls
/-- What a search finds from here on, with what was sent: closed under the acts, each link once. -/
theorem fnd_closed {p : Pl} {Z : Lk → Prop} (hZ : OkayL p Z) {ls : List Lk} {k : Nat} {vs : List Lk} (h : Fnd p ls k vs) : GoodL Z ls → (∀ l ∈ ls, Reach p l) → (∀ i l, i < k → ls[i]? = some l → ∀ a ∈ actsL, (behF p l a).1 ∈ ls) →
    ∃ Y, Y = ls.take k ++ vs ∧ GoodL Z Y ∧ (∀ l ∈ Y, Reach p l) ∧ (∀ l ∈ ls, l ∈ Y) ∧ ∀ l ∈ Y, ∀ a ∈ actsL, (behF p l a).1 ∈ Y := by
  induction h with
  | done =>
    rename_i ls
    intro hg hr hc
    refine ⟨ls, by simp, hg, hr, fun _ h => h, fun l hl a ha => ?_⟩
    obtain ⟨i, hi⟩ := List.mem_iff_getElem?.1 hl
    exact hc i l (List.getElem?_eq_some_iff.1 hi).1 hi a ha
  | step hl hf ih =>
    rename_i ls k l vs
    intro hg hr hc
    have hz : Z l := hg.all l (List.mem_of_getElem? hl)
    obtain ⟨Y, e, h1, h2, h3, h4⟩ := ih (growL_good hZ hz hg 9) (fun x hx => by
      rcases growL_mem.1 hx with hx | ⟨a, ha, rfl⟩
      · exact hr x hx
      · exact .act (hr l (List.mem_of_getElem? hl)) ha) (fun i x hi hx a ha => by
      have hkl := (List.getElem?_eq_some_iff.1 hl).1
      by_cases hik : i = k
      · subst hik
        rw [growL_get hl 9] at hx
        cases hx
        exact growL_mem.2 (.inr ⟨a, ha, rfl⟩)
      · have hil : i < ls.length := by omega
        have hi2 : ls[i]? = some ls[i] := List.getElem?_eq_getElem hil
        rw [growL_get hi2 9] at hx
        cases hx
        exact growL_mem.2 (.inl (hc i _ (by omega) hi2 a ha)))
    refine ⟨Y, ?_, h1, h2, fun x hx => h3 x (growL_mem.2 (.inl hx)), h4⟩
    rw [e]
    have hkl := (List.getElem?_eq_some_iff.1 hl).1
    have e2 : (growL p l ls 9).take (k + 1) = ls.take k ++ [l] := by
      refine List.ext_getElem? fun i => ?_
      rw [List.getElem?_take]
      by_cases hi : i < k
      · rw [if_pos (by omega), List.getElem?_append_left (by simp; omega), List.getElem?_take, if_pos hi]
        rw [growL_get (List.getElem?_eq_getElem (by omega : i < ls.length)) 9, List.getElem?_eq_getElem (by omega : i < ls.length)]
      · by_cases hi2 : i = k
        · subst hi2
          rw [if_pos (by omega), growL_get hl 9, List.getElem?_append_right (by simp; omega)]
          simp [Nat.min_eq_left (Nat.le_of_lt hkl)]
        · rw [if_neg (by omega), List.getElem?_append_right (by simp; omega)]
          simp
          omega
    rw [e2]
    simp
/-- THE SEARCH: it ends; what it finds is each link behind any acts, once. -/
theorem found {p : Pl} (hp : vpB p = true) : ∃ l0, Fnd p [newL] 0 l0 ∧ GoodL (Inv p) l0 ∧ l0.length ≤ 900000 ∧ ∀ l, l ∈ l0 ↔ Reach p l := by
  have hZ := okay_inv hp
  have hg : GoodL (Inv p) [newL] := ⟨by simp, by simpa using newL_inv p hp⟩
  have hB : ∃ B, ∀ ls : List Lk, GoodL (Inv p) ls → ls.length < B := ⟨_, fun ls h => Nat.lt_succ_of_le (hZ.len ls h.nodup h.all)⟩
  obtain ⟨B, hB⟩ := hB
  obtain ⟨vs, h⟩ := fnd_exists hZ B hB B [newL] 0 (by omega) hg (by simp)
  obtain ⟨Y, e, h1, h2, h3, h4⟩ := fnd_closed hZ h hg (by simpa using Reach.new) (fun i l hi => by omega)
  simp at e
  subst e
  refine ⟨Y, h, h1, hZ.len Y h1.nodup h1.all, fun l => ⟨h2 l, fun hr => ?_⟩⟩
  induction hr with
  | new => exact h3 _ (by simp)
  | act _ ha ih => exact h4 _ ih _ ha
end Go.Proofs.Ytnbgfffcialfkaa

namespace Go.Proofs.Ytnbgfffcialfkaa
open Go
set_option linter.unusedVariables false

theorem behF_step (p : Pl) (l : Lk) (act : Nat) (hi : Inv p l) (ha : (act : Int) ∈ actsL) : behF p l act = (stepL p l act, stepR p l act) := by
  obtain ⟨i1, i2, i3, i4, i5, i6, i7, i8, i9, i10, i11, i12, i13, i14⟩ := hi
  have hk := acts_ok ha
  obtain ⟨kn, s, d, h, da, wo⟩ := l
  simp only at *
  unfold behF stepL stepR mayF doneF
  by_cases c1 : act = 115
  · subst c1
    by_cases hm : da = -1 ∧ s < min p.w (kn + p.a)
    · have hm2 : da < 0 ∧ s < p.w ∧ s < kn + p.a := by omega
      simp [hm2, sendF]
      omega
    · have hm2 : ¬ (da < 0 ∧ s < p.w ∧ s < kn + p.a) := by omega
      simp [hm2]
      omega
  have d1 : ¬ (act : Int) = 115 := by omega
  by_cases c2 : act = 100
  · subst c2
    by_cases hm : da = -1
    · subst hm
      simp
    · have hm2 : 0 ≤ da := by omega
      simp [hm, hm2]
  have d2 : ¬ (act : Int) = 100 := by omega
  by_cases c3 : act = 120
  · subst c3
    by_cases hm : da = -1
    · subst hm
      simp
    · have hm2 : 0 ≤ da := by omega
      simp [hm2]
  have d3 : ¬ (act : Int) = 120 := by omega
  by_cases c4 : act = 97
  · subst c4
    by_cases hm : wo = -1
    · subst hm
      simp
    · have hm2 : 0 ≤ wo := by omega
      simp [hm, hm2]
  have d4 : ¬ (act : Int) = 97 := by omega
  by_cases c5 : act = 121
  · subst c5
    by_cases hm : wo = -1
    · subst hm
      simp
    · have hm2 : 0 ≤ wo := by omega
      simp [hm2]
  have d5 : ¬ (act : Int) = 121 := by omega
  have c6 : 48 ≤ act ∧ act ≤ 57 := by omega
  have e6 : ((act - 48 : Nat) : Int) = (act : Int) - 48 := by omega
  by_cases hm : da = -1 ∧ kn + ((act : Int) - 48) < s
  · have hm2 : da < 0 ∧ kn + ((act : Int) - 48) < s := by omega
    simp only [d1, d2, d3, d4, d5, c1, c6, if_false, if_true, e6, hm, hm2, decide_true, and_self]
    simp
  · have hm2 : ¬ (da < 0 ∧ kn + ((act : Int) - 48) < s) := by omega
    simp only [d1, d2, d3, d4, d5, c1, c6, if_false, if_true, e6, hm, hm2, decide_false, and_self, Bool.false_eq_true]
end Go.Proofs.Ytnbgfffcialfkaa
