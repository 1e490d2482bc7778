/-
  The plain mathematics of the model's search: it finds the links behind any acts, once each, or a word that is taken wrongly. No condition.
-/
import Derived.Test.YtnbgfffcialfkaaLn18
import Derived.Test.YtnbgfffcialfkaaLn20
set_option linter.unusedSimpArgs false
set_option linter.unusedVariables false
namespace Go.Proofs.Ytnbgfffcialfkaa
open Go
set_option linter.unusedVariables false

/-- The acts, in the model's order. -/
def actsM : List Int := [115, 48, 49, 50, 51, 100, 120, 97, 121]
theorem actsM_mem {a : Int} : a ∈ actsM ↔ a ∈ actsL := by
  simp [actsM, actsL]
  omega
/-- What the model's search has found: i links are done, and of the next one j acts. -/
structure SrM (p : Pl) (ls : List Lk) (i j : Nat) : Prop where
  good : GoodL (Inv p) ls
  new : newL ∈ ls
  reach : ∀ l ∈ ls, Reach p l
  done : ∀ k l, k < i → ls[k]? = some l → ∀ a ∈ actsM, (behF p l a).1 ∈ ls ∧ (behF p l a).2 = true
  now : ∀ l, ls[i]? = some l → ∀ a ∈ actsM.take j, (behF p l a).1 ∈ ls ∧ (behF p l a).2 = true
theorem SrM.start {p : Pl} (hp : vpB p = true) : SrM p [newL] 0 0 :=
  ⟨⟨by simp, by simpa using newL_inv p hp⟩, by simp, by simpa using Reach.new, fun k l hk => absurd hk (by omega), fun l _ a ha => by simp at ha⟩
theorem SrM.skip {p : Pl} {ls : List Lk} {i j : Nat} (h : SrM p ls i j) {l : Lk} {a : Int} (hl : ls[i]? = some l) (ha : actsM[j]? = some a) (hn : (behF p l a).1 ∈ ls) (hr : (behF p l a).2 = true) : SrM p ls i (j + 1) := by
  refine ⟨h.good, h.new, h.reach, h.done, fun l' hl' b hb => ?_⟩
  rw [hl] at hl'
  cases hl'
  rw [List.take_add_one, ha] at hb
  rcases List.mem_append.1 hb with hb | hb
  · exact h.now l hl b hb
  · simp at hb
    subst hb
    exact ⟨hn, hr⟩
theorem SrM.push {p : Pl} (hp : vpB p = true) {ls : List Lk} {i j : Nat} (h : SrM p ls i j) {l : Lk} {a : Int} (hl : ls[i]? = some l) (ha : actsM[j]? = some a) (hn : (behF p l a).1 ∉ ls) (hr : (behF p l a).2 = true) : SrM p (ls ++ [(behF p l a).1]) i (j + 1) := by
  have hal : a ∈ actsL := actsM_mem.1 (List.mem_of_getElem? ha)
  have hlm := List.mem_of_getElem? hl
  have hil := (List.getElem?_eq_some_iff.1 hl).1
  have e : nextL p l ls a = ls ++ [(behF p l a).1] := by unfold nextL; rw [if_neg hn]
  refine ⟨e ▸ nextL_good (okay_inv hp) (h.good.all l hlm) h.good hal, List.mem_append_left _ h.new, fun x hx => ?_, fun k x hk hx b hb => ?_, fun x hx b hb => ?_⟩
  · rcases List.mem_append.1 hx with hx | hx
    · exact h.reach x hx
    · simp at hx
      subst hx
      exact .act (h.reach l hlm) hal
  · rw [List.getElem?_append_left (by omega)] at hx
    exact ⟨List.mem_append_left _ (h.done k x hk hx b hb).1, (h.done k x hk hx b hb).2⟩
  · rw [List.getElem?_append_left hil, hl] at hx
    cases hx
    rw [List.take_add_one, ha] at hb
    rcases List.mem_append.1 hb with hb | hb
    · exact ⟨List.mem_append_left _ (h.now l hl b hb).1, (h.now l hl b hb).2⟩
    · simp at hb
      subst hb
      exact ⟨by simp, hr⟩
theorem SrM.turn {p : Pl} {ls : List Lk} {i : Nat} (h : SrM p ls i 9) : SrM p ls (i + 1) 0 := by
  refine ⟨h.good, h.new, h.reach, fun k l hk hl a ha => ?_, fun l _ a ha => by simp at ha⟩
  by_cases e : k = i
  · subst e
    exact h.now l hl a (by rw [List.take_of_length_le (by simp [actsM])]; exact ha)
  · exact h.done k l (by omega) hl a ha
theorem takR_beh (p : Pl) (l : Lk) : takR p l = (behF p l 100).2 := by
  unfold takR behF
  rw [if_neg (show ¬ (100 : Int) = 115 by decide), if_pos (rfl : (100 : Int) = 100)]
  split <;> rfl
theorem beh_wrong {p : Pl} {l : Lk} {a : Int} (h : (behF p l a).2 = false) : a = 100 := by
  refine Classical.byContradiction fun hn => ?_
  unfold behF at h
  rw [if_neg hn] at h
  repeat' split at h
  all_goals cases h
theorem SrM.wrong {p : Pl} {ls l0 : List Lk} {i j : Nat} (h : SrM p ls i j) {l : Lk} {a : Int} (hl : ls[i]? = some l) (hr : (behF p l a).2 = false) (h0 : ∀ l, l ∈ l0 ↔ Reach p l) : l0.all (takR p) = false := by
  rw [List.all_eq_false]
  refine ⟨l, (h0 l).2 (h.reach l (List.mem_of_getElem? hl)), ?_⟩
  have := beh_wrong hr
  subst this
  rw [takR_beh, hr]
  decide
theorem SrM.end_ {p : Pl} {ls l0 : List Lk} {i : Nat} (h : SrM p ls i 0) (hi : ls.length ≤ i) (hg : GoodL (Inv p) l0) (h0 : ∀ l, l ∈ l0 ↔ Reach p l) : l0.all (takR p) = true ∧ ls.length = l0.length := by
  have hc : ∀ l ∈ ls, ∀ a ∈ actsM, (behF p l a).1 ∈ ls ∧ (behF p l a).2 = true := fun l hl a ha => by
    obtain ⟨k, hk⟩ := List.mem_iff_getElem?.1 hl
    have := (List.getElem?_eq_some_iff.1 hk).1
    exact h.done k l (by omega) hk a ha
  have hm : ∀ l, l ∈ ls ↔ l ∈ l0 := fun l => by
    rw [h0]
    refine ⟨h.reach l, fun hr => ?_⟩
    induction hr with
    | new => exact h.new
    | act _ ha ih => exact (hc _ ih _ (actsM_mem.2 ha)).1
  refine ⟨List.all_eq_true.2 fun l hl => ?_, ((List.perm_ext_iff_of_nodup h.good.nodup hg.nodup).2 hm).length_eq⟩
  rw [takR_beh]
  exact (hc l ((hm l).2 hl) 100 (by decide)).2
theorem SrM.len {p : Pl} (hp : vpB p = true) {ls : List Lk} {i j : Nat} (h : SrM p ls i j) : ls.length ≤ 900000 := (okay_inv hp).len ls h.good.nodup h.good.all

/-! ### the number of a link -/
def qK (p : Pl) : Nat := (p.w + 2).toNat
def pK (p : Pl) : Nat := 2 ^ p.k.toNat
def codeK (p : Pl) (l : Lk) : Nat := ((((l.kn.toNat * qK p + l.s.toNat) * qK p + l.d.toNat) * pK p + l.h.toNat) * qK p + (l.da + 1).toNat) * qK p + (l.wo + 1).toNat
def sizeK (p : Pl) : Nat := qK p * qK p * qK p * pK p * qK p * qK p
theorem peelK {q a b a' b' : Nat} (h1 : b < q) (h2 : b' < q) (h : a * q + b = a' * q + b') : a = a' ∧ b = b' := by
  have e1 : (a * q + b) / q = a := by
    rw [Nat.mul_comm, Nat.mul_add_div (by omega), Nat.div_eq_of_lt h1, Nat.add_zero]
  have e2 : (a' * q + b') / q = a' := by
    rw [Nat.mul_comm, Nat.mul_add_div (by omega), Nat.div_eq_of_lt h2, Nat.add_zero]
  have e : a = a' := by rw [← e1, ← e2, h]
  subst e
  exact ⟨rfl, by omega⟩
theorem digK {a A b q : Nat} (h1 : a < A) (h2 : b < q) : a * q + b < A * q := by
  have : (a + 1) * q ≤ A * q := Nat.mul_le_mul_right q h1
  rw [Nat.add_mul, Nat.one_mul] at this
  omega
structure SmallK (p : Pl) (l : Lk) : Prop where
  qq : qK p ≤ 7 ∧ 3 ≤ qK p
  pp : pK p ≤ 16 ∧ 1 ≤ pK p
  kn : 0 ≤ l.kn ∧ l.kn.toNat < qK p
  s : 0 ≤ l.s ∧ l.s.toNat < qK p
  d : 0 ≤ l.d ∧ l.d.toNat < qK p
  h : 0 ≤ l.h ∧ l.h.toNat < pK p
  da : -1 ≤ l.da ∧ (l.da + 1).toNat < qK p
  wo : -1 ≤ l.wo ∧ (l.wo + 1).toNat < qK p
theorem pow_cast (k : Nat) : ((2 ^ k : Nat) : Int) = 2 ^ k := by simp
theorem inv_smallK {p : Pl} {l : Lk} (hp : vpB p = true) (hi : Inv p l) : SmallK p l := by
  have hb : 1 ≤ p.k ∧ p.k ≤ 4 ∧ 1 ≤ p.w ∧ p.w ≤ 5 := by simp [vpB] at hp; omega
  have hpk : pK p ≤ 16 ∧ 1 ≤ pK p := by
    unfold pK
    rcases (show p.k = 1 ∨ p.k = 2 ∨ p.k = 3 ∨ p.k = 4 from by omega) with e | e | e | e <;> rw [e] <;> decide
  have hh : l.h.toNat < pK p := by
    obtain ⟨_, _, _, _, _, _, _, h0, _, h1, _⟩ := hi
    have h2 := pow_mono (show room p l ≤ p.k.toNat from by unfold room; omega)
    rw [← pow_cast p.k.toNat] at h2
    unfold pK
    omega
  obtain ⟨i1, i2, i3, i4, i5, i6, i7, i8, i9, i10, i11, i12, i13, i14⟩ := hi
  unfold qK at *
  exact ⟨by unfold qK; omega, hpk, by unfold qK; omega, by unfold qK; omega, by unfold qK; omega, ⟨i8, hh⟩, by unfold qK; omega, by unfold qK; omega⟩
theorem codeK_inj {p : Pl} {x y : Lk} (hx : SmallK p x) (hy : SmallK p y) (h : codeK p x = codeK p y) : x = y := by
  unfold codeK at h
  obtain ⟨h, e5⟩ := peelK hx.wo.2 hy.wo.2 h
  obtain ⟨h, e4⟩ := peelK hx.da.2 hy.da.2 h
  obtain ⟨h, e3⟩ := peelK hx.h.2 hy.h.2 h
  obtain ⟨h, e2⟩ := peelK hx.d.2 hy.d.2 h
  obtain ⟨e0, e1⟩ := peelK hx.s.2 hy.s.2 h
  have e5 := tn_inj1 hx.wo.1 hy.wo.1 e5
  have e4 := tn_inj1 hx.da.1 hy.da.1 e4
  have e3 := tn_inj hx.h.1 hy.h.1 e3
  have e2 := tn_inj hx.d.1 hy.d.1 e2
  have e1 := tn_inj hx.s.1 hy.s.1 e1
  have e0 := tn_inj hx.kn.1 hy.kn.1 e0
  obtain ⟨x0, x1, x2, x3, x4, x5⟩ := x
  obtain ⟨y0, y1, y2, y3, y4, y5⟩ := y
  simp only at *
  simp [e0, e1, e2, e3, e4, e5]
theorem codeK_lt {p : Pl} {x : Lk} (hx : SmallK p x) : codeK p x < sizeK p := by
  unfold codeK sizeK
  exact digK (digK (digK (digK (digK hx.kn.2 hx.s.2) hx.d.2) hx.h.2) hx.da.2) hx.wo.2
/-- The row of what was seen. -/
def seenK (p : Pl) (ls : List Lk) (j : Nat) : Bool := decide (∃ l ∈ ls, codeK p l = j)
theorem seenK_at {p : Pl} (hp : vpB p = true) {ls : List Lk} (h : ∀ l ∈ ls, Inv p l) {x : Lk} (hx : Inv p x) : seenK p ls (codeK p x) = decide (x ∈ ls) := by
  unfold seenK
  rw [decide_eq_decide]
  refine ⟨fun ⟨l, hl, e⟩ => ?_, fun h => ⟨x, h, rfl⟩⟩
  exact codeK_inj (inv_smallK hp (h l hl)) (inv_smallK hp hx) e ▸ hl
theorem seenK_snoc (p : Pl) (ls : List Lk) (x : Lk) (j : Nat) : (if j = codeK p x then true else seenK p ls j) = seenK p (ls ++ [x]) j := by
  unfold seenK
  split
  · rename_i e
    subst e
    symm
    rw [decide_eq_true_eq]
    exact ⟨x, by simp, rfl⟩
  · rename_i e
    rw [decide_eq_decide]
    constructor
    · rintro ⟨l, hl, h⟩
      exact ⟨l, List.mem_append_left _ hl, h⟩
    · rintro ⟨l, hl, h⟩
      rcases List.mem_append.1 hl with hl | hl
      · exact ⟨l, hl, h⟩
      · simp at hl
        subst hl
        exact absurd h.symm e
end Go.Proofs.Ytnbgfffcialfkaa
