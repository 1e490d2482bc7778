/-
  A loop in company whose measure is a ghost of its invariant. No condition.
  The plain mathematics of a round: its acts, what stays. No condition.
  The walk of the program's actsOfRound: the sequential contract. Conditions: a plan, a link of it.
  The walk of the model's RoundsOf: the sequential contract. Conditions: those that are typed.
-/
import Derived.Test.YtnbgfffcialfkaaLn01
import Derived.Test.YtnbgfffcialfkaaLn28
import Derived.Test.YtnbgfffcialfkaaLn25
import Derived.Deep.DeepCutAuto
import Derived.Test.YtnbgfffcialfkaaLn27
set_option linter.unusedSimpArgs false
set_option linter.unusedVariables false
namespace Go.Proofs.Ytnbgfffcialfkaa
open Go Go.Conc
set_option linter.unusedVariables false

section
variable {P : Program} {main : Bool} {R : RelyI} {D : GuarI} {fn : FuncId} {Q : PostI} {O : OwnP} {a : Act} {w : World}
theorem codeI_loopG (T : TermsI R D) {x : Code} (I : Nat → OwnP → Act → World → Prop) (g₀ : Nat) (h₀ : I g₀ O a w)
    (round : ∀ g O a w, I g O a w → CodeI P main R D fn x (ThenI (fun O' a' w' => ∃ g', g' < g ∧ I g' O' a' w') Q) O a w) : CodeI P main R D fn (.loop x) Q O a w := by
  intro b k cs Stop hb hk hc
  have key : ∀ N g O a w, g < N → I g O a w → GoesI P main R D Stop O (G (b.at a (.code x :: .inLoop x :: k)) cs) w := by
    intro N
    induction N with
    | zero => exact fun g O a w hg => absurd hg (by omega)
    | succ N ih =>
      intro g O a w hg hI
      exact round g O a w hI b (.inLoop x :: k) cs Stop hb hk fun e O' a' w' q => by
        cases e with
        | normal =>
          obtain ⟨g', h1, h2⟩ := q
          exact .quiet T rfl (fun _ => stepG_inLoop) (ih g' O' a' w' (by omega) h2)
        | exit id => exact (hc _ _ _ _ q).push rfl (by simp)
        | ret => exact (hc _ _ _ _ q).push (x := .inLoop x) rfl (by simp)
        | goto l => exact hc _ _ _ _ q
        | panic ch => exact hc _ _ _ _ q
        | outgrown => exact hc _ _ _ _ q
  exact .quiet T rfl (fun _ => stepG_loop) (key _ g₀ O a w (Nat.lt_succ_self _) h₀)
end
end Go.Proofs.Ytnbgfffcialfkaa

namespace Go.Proofs.Ytnbgfffcialfkaa
open Go
set_option linter.unusedVariables false

theorem takeF_s (p : Pl) (l : Lk) : (takeF p l).1.s = l.s := by
  unfold takeF
  split
  · rfl
  · split <;> rfl
theorem hearF_s (p : Pl) (l : Lk) : (hearF p l).s = l.s := by
  unfold hearF
  split <;> rfl
theorem stepL_s (p : Pl) (l : Lk) (a : Nat) (h : a ≠ 115) : (stepL p l a).s = l.s := by
  unfold stepL
  split
  · unfold doneF
    rw [if_neg h]
    split
    · rfl
    · split
      · exact takeF_s p l
      · split
        · rfl
        · split
          · exact hearF_s p l
          · rfl
  · rfl
theorem stepL_s115 (p : Pl) (l : Lk) : (stepL p l 115).s = l.s + if mayF p l 115 then 1 else 0 := by
  unfold stepL
  cases mayF p l 115
  · simp
  · simp [doneF, sendF]
theorem rnd_s (p : Pl) (lost : Int) (l : Lk) (n : Nat) : (rnd p lost (l, n)).1.s = l.s + if mayF p l 115 then 1 else 0 := by
  unfold rnd roundA
  cases hm : mayF p l 115
  · simp [rstp, stepL_s]
  · have h := stepL_s115 p l
    rw [hm] at h
    simp only [if_true] at h ⊢
    split <;> simp [rstp, stepL_s, h]
theorem roundA_len (p : Pl) (lost : Int) (l : Lk) : (roundA p lost l).length = 3 := by
  unfold roundA
  split
  · split <;> rfl
  · rfl
theorem roundA_mem {p : Pl} {lost : Int} {l : Lk} {a : Nat} (h : a ∈ roundA p lost l) : (a : Int) ∈ actsL ∧ a ≤ 255 := by
  unfold roundA at h
  split at h
  · split at h <;> simp at h <;> rcases h with rfl | rfl | rfl <;> decide
  · simp at h
    rcases h with rfl | rfl | rfl <;> decide
theorem step_inv2 {p : Pl} {l : Lk} {a : Nat} (hp : vpB p = true) (hi : Inv p l) (ha : (a : Int) ∈ actsL) : Inv p (stepL p l a) := by
  have h := beh_inv p l a hp hi ha
  rw [behF_step p l a hi ha] at h
  exact h
/-- Within a round, j acts done. -/
structure RndI (p : Pl) (lost : Int) (l : Lk) (n : Nat) (j : Nat) (l' : Lk) (n' : Nat) : Prop where
  inv : Inv p l'
  eq : ((roundA p lost l).take j).foldl (rstp p) (l, n) = (l', n')
theorem RndI.start {p : Pl} {lost : Int} {l : Lk} {n : Nat} (hi : Inv p l) : RndI p lost l n 0 l n := ⟨hi, by simp⟩
theorem RndI.next {p : Pl} {lost : Int} {l l' : Lk} {n n' j a : Nat} (hp : vpB p = true) (h : RndI p lost l n j l' n') (ha : (roundA p lost l)[j]? = some a) : RndI p lost l n (j + 1) (stepL p l' a) (if mayF p l' a && a == 100 then n' + 1 else n') := by
  refine ⟨step_inv2 hp h.inv (roundA_mem (List.mem_of_getElem? ha)).1, ?_⟩
  rw [List.take_add_one, ha, List.foldl_append, h.eq]
  rfl
theorem RndI.end_ {p : Pl} {lost : Int} {l l' : Lk} {n n' : Nat} (h : RndI p lost l n 3 l' n') : rnd p lost (l, n) = (l', n') := by
  have e := h.eq
  rw [List.take_of_length_le (by rw [roundA_len]; omega)] at e
  exact e
/-- Ahead of a round. -/
structure OutI (p : Pl) (lost : Int) (r : Nat) (f : Nat) (l : Lk) (n : Nat) : Prop where
  inv : Inv p l
  eq : rnds p lost f (l, n) = some r
theorem OutI.start {p : Pl} {lost : Int} {r : Nat} (hp : vpB p = true) (h : rnds p lost 12 (newL, 0) = some r) : OutI p lost r 12 newL 0 := ⟨newL_inv p hp, h⟩
theorem OutI.done {p : Pl} {lost : Int} {r f : Nat} {l : Lk} {n : Nat} (h : OutI p lost r f l n) (hk : ¬ l.kn < p.w) : n = r := by
  have e := h.eq
  cases f <;> simp [rnds, hk] at e <;> exact e
theorem OutI.next {p : Pl} {lost : Int} {r f : Nat} {l l' : Lk} {n n' : Nat} (h : OutI p lost r f l n) (hk : l.kn < p.w) (hr : RndI p lost l n 3 l' n') : ∃ f', f = f' + 1 ∧ OutI p lost r f' l' n' := by
  have e := h.eq
  cases f with
  | zero => simp [rnds, hk] at e
  | succ f =>
    simp only [rnds, if_pos hk, hr.end_] at e
    exact ⟨f, rfl, hr.inv, e⟩
theorem OutI.more {p : Pl} {lost : Int} {r f : Nat} {l : Lk} {n : Nat} (h : OutI p lost r f l n) (hk : l.kn < p.w) : 0 < f := by
  have e := h.eq
  cases f with
  | zero => simp [rnds, hk] at e
  | succ f => omega
/-- How many come is small. -/
theorem rnd_n (p : Pl) (lost : Int) (x : Lk × Nat) : ∀ bs : List Nat, (bs.foldl (rstp p) x).2 ≤ x.2 + bs.length ∧ x.2 ≤ (bs.foldl (rstp p) x).2
  | [] => by simp
  | a :: bs => by
    have h := rnd_n p lost (rstp p x a) bs
    have e : (rstp p x a).2 ≤ x.2 + 1 ∧ x.2 ≤ (rstp p x a).2 := by
      unfold rstp
      dsimp only
      split <;> omega
    simp only [List.foldl_cons, List.length_cons]
    omega
theorem rnds_le {p : Pl} {lost : Int} : ∀ (f : Nat) (x : Lk × Nat) (r : Nat), rnds p lost f x = some r → x.2 ≤ r
  | 0, x, r, h => by
    unfold rnds at h
    split at h
    · cases h
    · cases h; omega
  | f + 1, x, r, h => by
    unfold rnds at h
    split at h
    · have := rnds_le f _ r h
      have := (rnd_n p lost x (roundA p lost x.1)).2
      unfold rnd at *
      omega
    · cases h; omega
theorem rnds_up {p : Pl} {lost : Int} : ∀ (f : Nat) (x : Lk × Nat) (r : Nat), rnds p lost f x = some r → r ≤ x.2 + 3 * f
  | 0, x, r, h => by
    unfold rnds at h
    split at h
    · cases h
    · cases h; omega
  | f + 1, x, r, h => by
    unfold rnds at h
    split at h
    · have := rnds_up f _ r h
      have := (rnd_n p lost x (roundA p lost x.1)).1
      rw [roundA_len] at this
      unfold rnd at *
      omega
    · cases h; omega
theorem RndI.qle {p : Pl} {lost : Int} {l l' : Lk} {n n' j : Nat} (h : RndI p lost l n j l' n') : n' ≤ n + 3 := by
  have := (rnd_n p lost (l, n) ((roundA p lost l).take j)).1
  rw [h.eq] at this
  have h2 := roundA_len p lost l
  simp only [List.length_take] at this
  omega
/-- The acts of a round, as texts. -/
theorem roundS {p : Pl} {lost : Int} {l : Lk} {S : ByteArray} (h : S.data.toList.map UInt8.toNat = roundA p lost l) : S.size = 3 ∧ ∀ (j : Nat) (hj : j < S.size), (roundA p lost l)[j]? = some S[j].toNat := by
  have h3 := roundA_len p lost l
  rw [← h] at h3 ⊢
  refine ⟨by simpa using h3, fun j hj => ?_⟩
  rw [List.getElem?_map]
  have : S.data.toList[j]? = some S[j] := by
    rw [List.getElem?_eq_getElem (by simpa using hj)]
    rfl
  rw [this]
  rfl
theorem roundS_no {p : Pl} {lost : Int} {l : Lk} (h : mayF p l 115 = false) : (ByteArray.mk #[48, 100, 97]).data.toList.map UInt8.toNat = roundA p lost l := by
  unfold roundA
  rw [h]
  rfl
theorem roundS_x {p : Pl} {lost : Int} {l : Lk} (h : mayF p l 115 = true) (h1 : lost ≠ 0 ∧ l.s % lost = 0) : (ByteArray.mk #[115, 120, 97]).data.toList.map UInt8.toNat = roundA p lost l := by
  unfold roundA
  rw [h, if_pos rfl, if_pos h1]
  rfl
theorem roundS_d {p : Pl} {lost : Int} {l : Lk} (h : mayF p l 115 = true) (h1 : ¬ (lost ≠ 0 ∧ l.s % lost = 0)) : (ByteArray.mk #[115, 100, 97]).data.toList.map UInt8.toNat = roundA p lost l := by
  unfold roundA
  rw [h, if_pos rfl, if_neg h1]
  rfl
end Go.Proofs.Ytnbgfffcialfkaa

namespace Go.Proofs.Ytnbgfffcialfkaa
open Go.RowKit
set_option linter.unusedVariables false

def roundT (p : Pl) (lost : Int) (l : Lk) : ByteArray := if mayF p l 115 then (if lost ≠ 0 ∧ l.s % lost = 0 then ⟨#[115, 120, 97]⟩ else ⟨#[115, 100, 97]⟩) else ⟨#[48, 100, 97]⟩
theorem roundT_S (p : Pl) (lost : Int) (l : Lk) : (roundT p lost l).size = 3 ∧ ∀ (j : Nat) (hj : j < (roundT p lost l).size), (roundA p lost l)[j]? = some (roundT p lost l)[j].toNat := by
  refine roundS ?_
  unfold roundT roundA
  split
  · split <;> rfl
  · rfl
set_option maxRecDepth 100000 in
set_option maxHeartbeats 3200000 in
theorem iar_any (n a k m lost : Int) (l : Lk) (hp : vpB ⟨n, a, k, m⟩ = true) (hi : Inv ⟨n, a, k, m⟩ l) (hl : 0 ≤ lost ∧ lost ≤ 6) (w : World) :
    Calls Try.prog 33 #[.agg #[.int .i64 n, .int .i64 a, .int .i64 k, .int .i64 m], .agg #[.int .i64 l.kn, .int .i64 l.s, .int .i64 l.d, .int .i64 l.h, .int .i64 l.da, .int .i64 l.wo], .int .i64 lost] w fun e w' => e = .returned (.string (roundT ⟨n, a, k, m⟩ lost l)) ∧ Below w.heap.size w w' := by
  have HC := Lib.hid (fun W => ibh_any (n := n) (a := a) (k := k) (m := m) (kn := l.kn) (s := l.s) (d := l.d) (h := l.h) (da := l.da) (wo := l.wo) hp hi W 115 (by omega))
  unfold actV lv at HC
  have hs5 : 0 ≤ l.s ∧ l.s ≤ 5 := by have := plan_bd hp; obtain ⟨i1, i2, i3, i4, i5, i6, i7, i8, i9, i10, i11, i12, i13, i14⟩ := hi; simp only at *; omega
  obtain ⟨T, hT⟩ : ∃ T, roundT ⟨n, a, k, m⟩ lost l = T := ⟨_, rfl⟩
  rw [hT]
  unfold roundT at hT
  generalize stepL ⟨n, a, k, m⟩ l 115 = r1 at HC
  generalize mayF ⟨n, a, k, m⟩ l 115 = b1 at HC hT
  generalize stepR ⟨n, a, k, m⟩ l 115 = b2 at HC
  have HT := Lib.hid hT
  clear hT hp hi
  go_enter Try.func33, Try.ntmps33
  go_wp2_with fail
  refine (HC.out _).mono ?_
  rintro e w1 ⟨rfl, hb1⟩
  have hz := hb1.size
  simp at hz
  have hBk : Blk w1 (w.heap.size + 1) 35 #[.int .i64 l.kn, .int .i64 l.s, .int .i64 l.d, .int .i64 l.h, .int .i64 l.da, .int .i64 l.wo] := by
    have := (Blk.new (w.alloc (.cells #[.int .i64 n, .int .i64 a, .int .i64 k, .int .i64 m] 25)) 35 #[.int .i64 l.kn, .int .i64 l.s, .int .i64 l.d, .int .i64 l.h, .int .i64 l.da, .int .i64 l.wo]).below hb1 (by simp)
    simpa only [World.size_alloc] using this
  have HB := Lib.hid (((((Below.refl w.heap.size w).alloc (Nat.le_refl _) _).alloc (by simp) _).trans (hb1.mono (by simp; omega))).alloc (by omega) (.cells #[.int .i64 r1.kn, .int .i64 r1.s, .int .i64 r1.d, .int .i64 r1.h, .int .i64 r1.da, .int .i64 r1.wo] 35))
  obtain ⟨x0, x1, x2, x3, x4, x5⟩ := (hBk.alloc (.cells #[.int .i64 r1.kn, .int .i64 r1.s, .int .i64 r1.d, .int .i64 r1.h, .int .i64 r1.da, .int .i64 r1.wo] 35)).c6
  clear hb1 hBk
  go_upto_region 2 with fail
  generalize w1.alloc (.cells #[.int .i64 r1.kn, .int .i64 r1.s, .int .i64 r1.d, .int .i64 r1.h, .int .i64 r1.da, .int .i64 r1.wo] 35) = w2 at HB x0 x1 x2 x3 x4 x5 ⊢
  cases b1
  · have e : T = ⟨#[48, 100, 97]⟩ := by rw [← HT.out]; rfl
    subst e
    clear HT
    go_wp2
    go_ret
    exact ⟨rfl, HB.out⟩
  · by_cases c1 : lost = 0
    · have e : T = ⟨#[115, 100, 97]⟩ := by rw [← HT.out]; simp [c1]
      subst e
      subst c1
      clear HT
      go_wp2
      go_ret
      exact ⟨rfl, HB.out⟩
    · have hpos : 0 < lost := by omega
      have hne : (lost == 0) = false := by simpa using c1
      have hne2 : (lost != 0) = true := by simpa using c1
      have etm : l.s.tmod lost = l.s % lost := Int.tmod_eq_emod_of_nonneg hs5.1
      by_cases c2 : l.s % lost = 0
      · have e : T = ⟨#[115, 120, 97]⟩ := by rw [← HT.out]; simp [c1, c2]
        subst e
        clear HT
        rw [c2] at etm
        clear c2
        go_wp2
        go_ret
        exact ⟨rfl, HB.out⟩
      · have e : T = ⟨#[115, 100, 97]⟩ := by rw [← HT.out]; simp [c2]
        subst e
        clear HT
        obtain ⟨t, ht⟩ : ∃ t, l.s % lost = t := ⟨_, rfl⟩
        have ht0 : 0 ≤ t := by rw [← ht]; exact Int.emod_nonneg _ c1
        have ht1 : t < lost := by rw [← ht]; exact Int.emod_lt_of_pos _ hpos
        rw [ht] at etm c2
        clear ht
        have c3 : (t == 0) = false := by simpa using c2
        go_wp2
        go_ret
        exact ⟨rfl, HB.out⟩
end Go.Proofs.Ytnbgfffcialfkaa

namespace Go.Proofs.Ytnbgfffcialfkaa
open Go.RowKit
set_option linter.unusedVariables false

/-- A plan, and the link that stands: behind w. -/
structure RoW (w w' : World) (xs : Array Value) (G : Nat) (ys : Array Value) : Prop where
  p : Blk w' w.heap.size 25 xs
  l : Blk w' G 35 ys
  b : Below w.heap.size w w'
  z : w.heap.size + 1 ≤ G
section
variable {w w1 w2 : World} {xs ys : Array Value} {G : Nat}
theorem RoW.more (h : RoW w w1 xs G ys) (hb : Below w1.heap.size w1 w2) : RoW w w2 xs G ys :=
  ⟨h.p.below hb h.p.lt, h.l.below hb h.l.lt, h.b.trans (hb.mono (Nat.le_of_lt h.p.lt)), h.z⟩
theorem RoW.drew (h : RoW w w1 xs G ys) : RoW w w1.drew xs G ys := ⟨h.p, h.l, belowDr h.b, h.z⟩
theorem below6K {B : Nat} {g : Nat} (h : Below B w w1) (hg : B ≤ g) (a b c d e f : Value) :
    Below B w ((((((w1.setCell ⟨g, 0, none⟩ a).setCell ⟨g, 1, none⟩ b).setCell ⟨g, 2, none⟩ c).setCell ⟨g, 3, none⟩ d).setCell ⟨g, 4, none⟩ e).setCell ⟨g, 5, none⟩ f) :=
  (((((h.setCell (p := ⟨g, 0, none⟩) hg _).setCell (p := ⟨g, 1, none⟩) hg _).setCell (p := ⟨g, 2, none⟩) hg _).setCell (p := ⟨g, 3, none⟩) hg _).setCell (p := ⟨g, 4, none⟩) hg _).setCell (p := ⟨g, 5, none⟩) hg _
theorem RoW.setL {x0 x1 x2 x3 x4 x5 : Value} (h : RoW w w1 xs G #[x0, x1, x2, x3, x4, x5]) (a b c d e f : Value) :
    RoW w ((((((w1.setCell ⟨G, 0, none⟩ a).setCell ⟨G, 1, none⟩ b).setCell ⟨G, 2, none⟩ c).setCell ⟨G, 3, none⟩ d).setCell ⟨G, 4, none⟩ e).setCell ⟨G, 5, none⟩ f) xs G #[a, b, c, d, e, f] :=
  ⟨h.p.far6 (by have := h.z; omega) _ _ _ _ _ _, Blk.set6 h.l _ _ _ _ _ _, below6K h.b (by have := h.z; omega) _ _ _ _ _ _, h.z⟩
theorem RoW.setN {g : Nat} (h : RoW w w1 xs G ys) (hg : w.heap.size + 1 ≤ g) (hne : G ≠ g) (a b c d e f : Value) :
    RoW w ((((((w1.setCell ⟨g, 0, none⟩ a).setCell ⟨g, 1, none⟩ b).setCell ⟨g, 2, none⟩ c).setCell ⟨g, 3, none⟩ d).setCell ⟨g, 4, none⟩ e).setCell ⟨g, 5, none⟩ f) xs G ys :=
  ⟨h.p.far6 (by omega) _ _ _ _ _ _, h.l.far6 hne _ _ _ _ _ _, below6K h.b (by omega) _ _ _ _ _ _, h.z⟩
end
/-- .. and a link of the round's own beside it. -/
structure RoN (w w' : World) (xs : Array Value) (G : Nat) (ys : Array Value) (g : Nat) (zs : Array Value) : Prop where
  o : RoW w w' xs G ys
  n : Blk w' g 35 zs
  z : w.heap.size + 1 ≤ g
  ne : G ≠ g
section
variable {w w1 w2 : World} {xs ys zs : Array Value} {G g : Nat}
theorem RoN.more (h : RoN w w1 xs G ys g zs) (hb : Below w1.heap.size w1 w2) : RoN w w2 xs G ys g zs := ⟨h.o.more hb, h.n.below hb h.n.lt, h.z, h.ne⟩
theorem RoN.drew (h : RoN w w1 xs G ys g zs) : RoN w w1.drew xs G ys g zs := ⟨h.o.drew, h.n.drew, h.z, h.ne⟩
theorem RoN.moreD (h : RoN w w1 xs G ys g zs) (hb : Below w1.drew.heap.size w1.drew w2) : RoN w w2 xs G ys g zs := h.drew.more hb
theorem RoN.setN {x0 x1 x2 x3 x4 x5 : Value} (h : RoN w w1 xs G ys g #[x0, x1, x2, x3, x4, x5]) (a b c d e f : Value) :
    RoN w ((((((w1.setCell ⟨g, 0, none⟩ a).setCell ⟨g, 1, none⟩ b).setCell ⟨g, 2, none⟩ c).setCell ⟨g, 3, none⟩ d).setCell ⟨g, 4, none⟩ e).setCell ⟨g, 5, none⟩ f) xs G ys g #[a, b, c, d, e, f] :=
  ⟨h.o.setN h.z h.ne _ _ _ _ _ _, Blk.set6 h.n _ _ _ _ _ _, h.z, h.ne⟩
theorem RoN.setL {x0 x1 x2 x3 x4 x5 : Value} (h : RoN w w1 xs G #[x0, x1, x2, x3, x4, x5] g zs) (a b c d e f : Value) :
    RoN w ((((((w1.setCell ⟨G, 0, none⟩ a).setCell ⟨G, 1, none⟩ b).setCell ⟨G, 2, none⟩ c).setCell ⟨G, 3, none⟩ d).setCell ⟨G, 4, none⟩ e).setCell ⟨G, 5, none⟩ f) xs G #[a, b, c, d, e, f] g zs :=
  ⟨h.o.setL _ _ _ _ _ _, h.n.far6 (fun e => h.ne e.symm) _ _ _ _ _ _, h.z, h.ne⟩
theorem RoN.of (h : RoW w w1 xs G ys) : RoN w (w1.alloc (.cells zs 35)) xs G ys w1.heap.size zs :=
  ⟨h.more ((Below.refl _ _).alloc (Nat.le_refl _) _), Blk.new _ _ _, by have := h.p.lt; omega, by have := h.l.lt; omega⟩
end
theorem ron_S {w w' : World} {n a k m : Int} {l : Lk} {G g : Nat} {y0 y1 y2 y3 y4 y5 : Value} (ht : RoN w w' #[.int .i64 n, .int .i64 a, .int .i64 k, .int .i64 m] G #[.int .i64 l.kn, .int .i64 l.s, .int .i64 l.d, .int .i64 l.h, .int .i64 l.da, .int .i64 l.wo] g #[y0, y1, y2, y3, y4, y5]) :
    (fun w' => (∃ zs, RoN w w' #[.int .i64 n, .int .i64 a, .int .i64 k, .int .i64 m] G #[.int .i64 l.kn, .int .i64 l.s, .int .i64 l.d, .int .i64 l.h, .int .i64 l.da, .int .i64 l.wo] g zs) ∧ w'.cell? ⟨w.heap.size, 0, none⟩ = some (.int .i64 n) ∧ w'.cell? ⟨w.heap.size, 1, none⟩ = some (.int .i64 a) ∧ w'.cell? ⟨w.heap.size, 2, none⟩ = some (.int .i64 k) ∧ w'.cell? ⟨w.heap.size, 3, none⟩ = some (.int .i64 m) ∧ w'.cell? ⟨G, 0, none⟩ = some (.int .i64 l.kn) ∧ w'.cell? ⟨G, 1, none⟩ = some (.int .i64 l.s) ∧ w'.cell? ⟨G, 2, none⟩ = some (.int .i64 l.d) ∧ w'.cell? ⟨G, 3, none⟩ = some (.int .i64 l.h) ∧ w'.cell? ⟨G, 4, none⟩ = some (.int .i64 l.da) ∧ w'.cell? ⟨G, 5, none⟩ = some (.int .i64 l.wo)) w' :=
  ⟨⟨_, ht⟩, ht.o.p.c4.1, ht.o.p.c4.2.1, ht.o.p.c4.2.2.1, ht.o.p.c4.2.2.2, ht.o.l.c6.1, ht.o.l.c6.2.1, ht.o.l.c6.2.2.1, ht.o.l.c6.2.2.2.1, ht.o.l.c6.2.2.2.2.1, ht.o.l.c6.2.2.2.2.2⟩
set_option maxHeartbeats 1600000 in
theorem sRO_no (n a k m lost : Int) (B : Bool) (hIS : ∀ w, Calls Try.prog 10 #[.agg #[.int .i64 n, .int .i64 a, .int .i64 k, .int .i64 m]] w fun e w' => e = .returned (.bool B) ∧ Below w.heap.size w w') (h : B = false ∨ wi lost 0 6 = false) (w : World) :
    Calls Try.prog 15 #[.agg #[.int .i64 n, .int .i64 a, .int .i64 k, .int .i64 m], .int .i64 lost] w fun e w' => e = .returned (.int .i64 (-1)) ∧ Below w.heap.size w w' := by
  have H1 := Lib.hid hIS
  have H2 := Lib.hid (fun b (hb : wi lost 0 6 = b) W => inr_at lost 0 6 b hb W)
  clear hIS
  go_enter Try.func15, Try.ntmps15
  go_wp2_with fail
  refine (H1.out _).mono ?_
  rintro e w1 ⟨rfl, hb1⟩
  have HB := Lib.hid (((Below.refl _ _).alloc (Nat.le_refl _) _).trans (hb1.mono (by simp)))
  clear hb1
  cases B
  · clear h
    go_wp2
    go_ret
    exact ⟨rfl, HB.out⟩
  · have h2 : Hid (wi lost 0 6 = false) := Lib.hid (by rcases h with h | h; cases h; exact h)
    clear h
    go_wp2_with fail
    refine (H2.out _ h2.out _).mono ?_
    rintro e w2 ⟨rfl, rfl⟩
    go_wp2
    go_ret
    exact ⟨rfl, HB.out⟩
set_option maxRecDepth 100000 in
set_option maxHeartbeats 12800000 in
theorem sRO_yes (n a k m lost : Int) (hp : vpB ⟨n, a, k, m⟩ = true) (hIS : ∀ w, Calls Try.prog 10 #[.agg #[.int .i64 n, .int .i64 a, .int .i64 k, .int .i64 m]] w fun e w' => e = .returned (.bool true) ∧ Below w.heap.size w w') (hl : 0 ≤ lost ∧ lost ≤ 6) (r : Nat) (hr : rnds ⟨n, a, k, m⟩ lost 12 (newL, 0) = some r) (w : World) :
    Calls Try.prog 15 #[.agg #[.int .i64 n, .int .i64 a, .int .i64 k, .int .i64 m], .int .i64 lost] w fun e w' => e = .returned (.int .i64 (r : Int)) ∧ Below w.heap.size w w' := by
  have hru := rnds_up _ _ _ hr
  have hru : r ≤ 36 := by simpa using hru
  have H1 := Lib.hid hIS
  have H2 := Lib.hid (fun W => inr_at lost 0 6 true (by simp [wi]; omega) W)
  have HP := Lib.hid hp
  have HO := Lib.hid (OutI.start hp hr)
  have HSP := Lib.hid (fun (l : Lk) (hi : Inv ⟨n, a, k, m⟩ l) W act hact => sSP_any (n := n) (a := a) (k := k) (m := m) (kn := l.kn) (s := l.s) (d := l.d) (h := l.h) (da := l.da) (wo := l.wo) hp hi W act hact)
  have HBD := Lib.hid (plan_bd hp)
  clear hIS hp hr
  go_enter Try.func15, Try.ntmps15
  go_wp2_with fail
  refine (H1.out _).mono ?_
  rintro e w1 ⟨rfl, hb1⟩
  have HB1 := Lib.hid (((Below.refl _ _).alloc (Nat.le_refl _) _).trans (hb1.mono (by simp)))
  have HPl := Lib.hid ((Blk.new w 25 #[.int .i64 n, .int .i64 a, .int .i64 k, .int .i64 m]).below hb1 (by simp))
  clear hb1
  go_wp2_with fail
  refine (H2.out _).mono ?_
  rintro e w2 ⟨rfl, rfl⟩
  go_wp2_with fail
  refine (sst_any _).mono ?_
  rintro e w2 ⟨rfl, hb2⟩
  have HPl2 := Lib.hid (HPl.out.below hb2 HPl.out.lt)
  have HB2 := Lib.hid (HB1.out.trans (hb2.mono (by have := HPl.out.lt; omega)))
  have HT0 : Hid (RoW w (w2.alloc (.cells #[.int .i64 newL.kn, .int .i64 newL.s, .int .i64 newL.d, .int .i64 newL.h, .int .i64 newL.da, .int .i64 newL.wo] 35)) #[.int .i64 n, .int .i64 a, .int .i64 k, .int .i64 m] w2.heap.size #[.int .i64 newL.kn, .int .i64 newL.s, .int .i64 newL.d, .int .i64 newL.h, .int .i64 newL.da, .int .i64 newL.wo]) := Lib.hid ⟨HPl2.out.alloc _, Blk.new _ _ _, HB2.out.alloc (by have := HPl2.out.lt; omega) _, by have := HPl2.out.lt; omega⟩
  unfold lv
  go_upto_region 4 with fail
  generalize w2.alloc (.cells #[.int .i64 newL.kn, .int .i64 newL.s, .int .i64 newL.d, .int .i64 newL.h, .int .i64 newL.da, .int .i64 newL.wo] 35) = w3 at HT0 ⊢
  generalize w2.heap.size = G at HT0 ⊢
  clear HPl2 HB2 hb2 HPl HB1 H1 H2
  go_wp2
  go_loopg [6, 7] 12 (fun g sn sc wr => ∃ (l : Lk) (q : Nat), sn = .int .i64 q ∧ sc = .int .i64 l.s ∧ OutI ⟨n, a, k, m⟩ lost r g l q ∧ RoW w wr #[.int .i64 n, .int .i64 a, .int .i64 k, .int .i64 m] G #[.int .i64 l.kn, .int .i64 l.s, .int .i64 l.d, .int .i64 l.h, .int .i64 l.da, .int .i64 l.wo])
  case atStart => exact ⟨newL, 0, rfl, rfl, HO.out, HT0.out⟩
  case round =>
    obtain ⟨l, q, rfl, rfl, hI, hT⟩ := hrel
    have hqr : q ≤ r := rnds_le _ _ _ hI.eq
    have hinv := hI.inv
    have HINV := Lib.hid hinv
    have HI := Lib.hid hI
    have HT := Lib.hid hT
    clear HT0 HO
    obtain ⟨p0, p1, p2, p3⟩ := hT.p.c4
    obtain ⟨x0, x1, x2, x3, x4, x5⟩ := hT.l.c6
    clear hT
    by_cases hlt : l.kn < m
    · have HLT := Lib.hid hlt
      have HC := Lib.hid (fun W => HSP.out l hinv W 115 (by omega))
      unfold actV lv at HC
      have hs5 : 0 ≤ l.s ∧ l.s ≤ 5 := by have := HBD.out; obtain ⟨i1, i2, i3, i4, i5, i6, i7, i8, i9, i10, i11, i12, i13, i14⟩ := hinv; simp only at *; omega
      have HNO := Lib.hid (fun h => roundS (roundS_no (p := ⟨n, a, k, m⟩) (lost := lost) (l := l) h))
      have HXX := Lib.hid (fun h h1 => roundS (roundS_x (p := ⟨n, a, k, m⟩) (lost := lost) (l := l) h h1))
      have HDD := Lib.hid (fun h h1 => roundS (roundS_d (p := ⟨n, a, k, m⟩) (lost := lost) (l := l) h h1))
      have HRS := Lib.hid (rnd_s ⟨n, a, k, m⟩ lost l q)
      generalize stepL ⟨n, a, k, m⟩ l 115 = r1 at HC
      generalize mayF ⟨n, a, k, m⟩ l 115 = b1 at HC HNO HXX HDD HRS
      generalize stepR ⟨n, a, k, m⟩ l 115 = b2 at HC
      clear hI hinv
      go_wp2_with fail
      refine (HC.out _).mono ?_
      rintro e w4 ⟨rfl, hb4⟩
      have HT4 := Lib.hid (RoN.of (zs := #[.int .i64 r1.kn, .int .i64 r1.s, .int .i64 r1.d, .int .i64 r1.h, .int .i64 r1.da, .int .i64 r1.wo]) (HT.out.more hb4))
      clear hb4 p0 p1 p2 p3 x0 x1 x2 x3 x4 x5
      go_upto_if 34 with fail
      generalize w4.alloc (.cells #[.int .i64 r1.kn, .int .i64 r1.s, .int .i64 r1.d, .int .i64 r1.h, .int .i64 r1.da, .int .i64 r1.wo] 35) = w5 at HT4 ⊢
      generalize w4.heap.size = gN at HT4 ⊢
      go_cut [7, 8] (fun c7 v8 wx => ∃ (S : ByteArray), v8 = .string S ∧ Hid (S.size = 3 ∧ ∀ (j : Nat) (hj : j < S.size), (roundA ⟨n, a, k, m⟩ lost l)[j]? = some S[j].toNat) ∧ c7 = .int .i64 (l.s + if b1 then 1 else 0) ∧ RoN w wx #[.int .i64 n, .int .i64 a, .int .i64 k, .int .i64 m] G #[.int .i64 l.kn, .int .i64 l.s, .int .i64 l.d, .int .i64 l.h, .int .i64 l.da, .int .i64 l.wo] gN #[.int .i64 r1.kn, .int .i64 r1.s, .int .i64 r1.d, .int .i64 r1.h, .int .i64 r1.da, .int .i64 r1.wo])
      case first =>
        cases b1
        · go_wp2_with fail
          go_meet
          exact ⟨_, rfl, Lib.hid (HNO.out (by first | rfl | trivial)), (by simp), HT4.out⟩
        · by_cases c1 : lost = 0
          · have HM := Lib.hid (HDD.out (by first | rfl | trivial) (fun h => h.1 c1))
            subst c1
            go_wp2_with fail
            go_meet
            exact ⟨_, rfl, HM, (by simp), HT4.out⟩
          · have hpos : 0 < lost := by omega
            have etm : l.s.tmod lost = l.s % lost := Int.tmod_eq_emod_of_nonneg hs5.1
            by_cases c2 : l.s % lost = 0
            · have HM := Lib.hid (HXX.out (by first | rfl | trivial) ⟨c1, c2⟩)
              rw [c2] at etm
              clear c2
              go_wp2_with fail
              go_meet
              exact ⟨_, rfl, HM, (by simp), HT4.out⟩
            · have HM := Lib.hid (HDD.out (by first | rfl | trivial) (fun h => c2 h.2))
              obtain ⟨t, ht⟩ : ∃ t, l.s % lost = t := ⟨_, rfl⟩
              have ht0 : 0 ≤ t := by rw [← ht]; exact Int.emod_nonneg _ c1
              have ht1 : t < lost := by rw [← ht]; exact Int.emod_lt_of_pos _ hpos
              rw [ht] at etm c2
              clear ht
              have c3 : (t == 0) = false := by simpa using c2
              go_wp2_with fail
              go_meet
              exact ⟨_, rfl, HM, (by simp), HT4.out⟩
      case rest =>
        obtain ⟨S, rfl, HS, rfl, hT5⟩ := hcut
        have HT5 := Lib.hid hT5
        clear hT5
        obtain ⟨hsz, hac⟩ := HS.out
        have HAC := Lib.hid hac
        clear hac HS
        clear HC HNO HXX HDD HT4
        generalize hc7 : (l.s + if b1 then 1 else 0) = c7
        have HC7 := Lib.hid hc7
        clear hc7
        go_wp2
        go_loopg [6, 12] 3 (fun g sn sj wq => ∃ (j q' : Nat) (l' : Lk) (y0 y1 y2 y3 y4 y5 : Value), j ≤ 3 ∧ g = 3 - j ∧ sn = .int .i64 q' ∧ sj = .int .i64 j ∧ RndI ⟨n, a, k, m⟩ lost l q j l' q' ∧ RoN w wq #[.int .i64 n, .int .i64 a, .int .i64 k, .int .i64 m] G #[.int .i64 l'.kn, .int .i64 l'.s, .int .i64 l'.d, .int .i64 l'.h, .int .i64 l'.da, .int .i64 l'.wo] gN #[y0, y1, y2, y3, y4, y5])
        case atStart => exact ⟨0, q, l, _, _, _, _, _, _, by omega, rfl, rfl, rfl, RndI.start HINV.out, HT5.out⟩
        case round =>
          clear HT5
          obtain ⟨j, q', l', y0, y1, y2, y3, y4, y5, hj3, hg, rfl, rfl, hR, hN⟩ := hrel
          have hq' := hR.qle
          have HR := Lib.hid hR
          have HN := Lib.hid hN
          have HG := Lib.hid hg
          have hinv' := hR.inv
          clear hR hN hg
          by_cases hjt : j < 3
          · have hjs : j < S.size := by omega
            have hact := HAC.out j hjs
            have hmem := roundA_mem (List.mem_of_getElem? hact)
            have HC := Lib.hid (fun W => HSP.out l' hinv' W S[j].toNat hmem.2)
            unfold actV lv at HC
            have HNX := HR.out.next HP.out hact
            generalize stepL ⟨n, a, k, m⟩ l' S[j].toNat = r1 at HC HNX
            generalize mayF ⟨n, a, k, m⟩ l' S[j].toNat = b1 at HC HNX
            generalize stepR ⟨n, a, k, m⟩ l' S[j].toNat = b2 at HC
            have HNX := Lib.hid HNX
            clear hact hmem hinv'
            have hj0 : (0 : Int) ≤ (j : Int) := by omega
            have hj1 : (j : Int) < 3 := by omega
            have hj2 : (j : Int) < (S.size : Int) := by omega
            go_upto_region 17 with fail
            go_cut [10] (fun s10 wx => s10 = .bool b1 ∧ RoN w wx #[.int .i64 n, .int .i64 a, .int .i64 k, .int .i64 m] G #[.int .i64 l'.kn, .int .i64 l'.s, .int .i64 l'.d, .int .i64 l'.h, .int .i64 l'.da, .int .i64 l'.wo] gN #[.int .i64 r1.kn, .int .i64 r1.s, .int .i64 r1.d, .int .i64 r1.h, .int .i64 r1.da, .int .i64 r1.wo])
            case first =>
              have hT' := HN.out
              go_region_held3 (fun w' => (∃ zs, RoN w w' #[.int .i64 n, .int .i64 a, .int .i64 k, .int .i64 m] G #[.int .i64 l'.kn, .int .i64 l'.s, .int .i64 l'.d, .int .i64 l'.h, .int .i64 l'.da, .int .i64 l'.wo] gN zs) ∧ w'.cell? ⟨w.heap.size, 0, none⟩ = some (.int .i64 n) ∧ w'.cell? ⟨w.heap.size, 1, none⟩ = some (.int .i64 a) ∧ w'.cell? ⟨w.heap.size, 2, none⟩ = some (.int .i64 k) ∧ w'.cell? ⟨w.heap.size, 3, none⟩ = some (.int .i64 m) ∧ w'.cell? ⟨G, 0, none⟩ = some (.int .i64 l'.kn) ∧ w'.cell? ⟨G, 1, none⟩ = some (.int .i64 l'.s) ∧ w'.cell? ⟨G, 2, none⟩ = some (.int .i64 l'.d) ∧ w'.cell? ⟨G, 3, none⟩ = some (.int .i64 l'.h) ∧ w'.cell? ⟨G, 4, none⟩ = some (.int .i64 l'.da) ∧ w'.cell? ⟨G, 5, none⟩ = some (.int .i64 l'.wo))
                (first
                  | (with_reducible exact ron_S hT')
                  | (with_reducible exact ron_S (RoN.drew hT'))
                  | (with_reducible exact ron_S (RoN.setN hT' _ _ _ _ _ _))
                  | fail)
                (first
                  | (go_at_call 30; ((with_reducible refine (HC.out _).mono ?_); rintro e w' ⟨rfl, hbb⟩); (first | (with_reducible have hT' := RoN.more hT' hbb) | (with_reducible have hT' := RoN.moreD hT' hbb)); (obtain ⟨o0, o1, o2, o3, o4, o5⟩ := hT'.n.c6; obtain ⟨z0, z1, z2, z3, z4, z5⟩ := hT'.n.f6)))
              all_goals
                go_wp2_with fail
                go_meet
                refine ⟨rfl, ?_⟩
                first | (with_reducible exact RoN.setN hT' _ _ _ _ _ _) | (with_reducible exact RoN.drew (RoN.setN hT' _ _ _ _ _ _)) | fail
            case rest =>
              obtain ⟨rfl, hT6⟩ := hcut
              have HT6 := Lib.hid hT6
              obtain ⟨o0, o1, o2, o3, o4, o5⟩ := hT6.n.c6
              obtain ⟨x0, x1, x2, x3, x4, x5⟩ := hT6.o.l.c6
              obtain ⟨z0, z1, z2, z3, z4, z5⟩ := hT6.o.l.f6
              clear hT6
              cases b1
              · go_wp2
                go_roundg (3 - (j + 1))
                case measure => have := HG.out; omega
                case rel => exact ⟨j + 1, q', r1, _, _, _, _, _, _, by omega, rfl, rfl, by go_num, by simpa using HNX.out, HT6.out.setL _ _ _ _ _ _⟩
              · by_cases c100 : S[j].toNat = 100
                · have hNX : Hid (RndI ⟨n, a, k, m⟩ lost l q (j + 1) r1 (q' + 1)) := Lib.hid (by have := HNX.out; simpa [c100] using this)
                  have ce : ((S[j].toNat : Int) == 100) = true := by simp; omega
                  clear HNX c100
                  go_wp2
                  go_roundg (3 - (j + 1))
                  case measure => have := HG.out; omega
                  case rel => exact ⟨j + 1, q' + 1, r1, _, _, _, _, _, _, by omega, rfl, by go_num, by go_num, hNX.out, HT6.out.setL _ _ _ _ _ _⟩
                · have hNX : Hid (RndI ⟨n, a, k, m⟩ lost l q (j + 1) r1 q') := Lib.hid (by have := HNX.out; simpa [c100] using this)
                  have ce : ((S[j].toNat : Int) == 100) = false := by simp; omega
                  clear HNX c100
                  go_wp2
                  go_roundg (3 - (j + 1))
                  case measure => have := HG.out; omega
                  case rel => exact ⟨j + 1, q', r1, _, _, _, _, _, _, by omega, rfl, rfl, by go_num, hNX.out, HT6.out.setL _ _ _ _ _ _⟩
          · obtain rfl : j = 3 := by omega
            obtain ⟨f', hf', hO'⟩ := HI.out.next HLT.out HR.out
            have HO' := Lib.hid hO'
            have hes : l'.s = c7 := by
              rw [← HC7.out, ← HRS.out, HR.out.end_]
            have HES := Lib.hid hes
            have HF := Lib.hid hf'
            clear hO' hes hf'
            go_wp2
            go_roundg f'
            case measure => have := HF.out; omega
            case rel => exact ⟨l', q', rfl, by rw [HES.out], HO'.out, HN.out.o⟩
    · have he := HI.out.done hlt
      subst he
      have HB := Lib.hid HT.out.b
      go_wp2
      go_ret
      exact ⟨rfl, HB.out⟩
end Go.Proofs.Ytnbgfffcialfkaa
