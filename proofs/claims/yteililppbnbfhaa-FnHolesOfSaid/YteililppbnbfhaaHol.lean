/-
  The plain mathematics of holes: no program is named here. No condition.
-/
import Derived.Test.YteililppbnbfhaaWmi
import Derived.Test.YteililppbnbfhaaPrv
namespace Go.Proofs.Yteililppbnbfhaa
open Go.RowKit
set_option linter.unusedVariables false

/-- Rows that have been found so far: l says which numbers are still to come. -/
structure Acc (f : Int → Bool) (N : Nat) (l : Int → Bool) (acc : List Pc) : Prop where
  row : ∀ p ∈ acc, Row f N p ∧ f (p.a - 1) = false ∧ l p.a = false
  all : ∀ k, f k = true → l k = false → f (k - 1) = false → ∃ p ∈ acc, p.a = k
  dis : acc.Pairwise (fun p q => p.a ≠ q.a)
theorem Acc.start (f : Int → Bool) (N : Nat) : Acc f N f [] := ⟨by simp, fun k h1 h2 => absurd h1 (by simp [h2]), by simp⟩
theorem Acc.skip {f l : Int → Bool} {N : Nat} {acc : List Pc} (h : Acc f N l acc) {x : Int} (hx : f (x - 1) = true) : Acc f N (fun k => l k && !decide (k = x)) acc := by
  refine ⟨fun p hp => ?_, fun k h1 h2 h3 => ?_, h.dis⟩
  · obtain ⟨a, b, c⟩ := h.row p hp
    exact ⟨a, b, by rw [c]; rfl⟩
  · by_cases e : k = x
    · rw [e, hx] at h3; cases h3
    · exact h.all k h1 (by simpa [e] using h2) h3
theorem Acc.take {f l : Int → Bool} {N : Nat} {acc : List Pc} (h : Acc f N l acc) {x : Int} {p : Pc} (hl : l x = true) (hx : f (x - 1) = false) (hp : p.a = x) (hr : Row f N p) : Acc f N (fun k => l k && !decide (k = x)) (acc ++ [p]) := by
  refine ⟨fun q hq => ?_, fun k h1 h2 h3 => ?_, ?_⟩
  · rcases List.mem_append.1 hq with hq | hq
    · obtain ⟨a, b, c⟩ := h.row q hq
      exact ⟨a, b, by rw [c]; rfl⟩
    · simp only [List.mem_singleton] at hq
      subst hq
      exact ⟨hr, by rw [hp]; exact hx, by rw [hp]; simp⟩
  · by_cases e : k = x
    · exact ⟨p, by simp, by rw [hp, e]⟩
    · obtain ⟨q, hq, he⟩ := h.all k h1 (by simpa [e] using h2) h3
      exact ⟨q, by simp [hq], he⟩
  · rw [List.pairwise_append]
    refine ⟨h.dis, by simp, fun q hq r hr' => ?_⟩
    simp only [List.mem_singleton] at hr'
    subst hr'
    intro e
    have := (h.row q hq).2.2
    rw [e, hp, hl] at this; cases this
theorem run_start {f : Int → Bool} (hf : ∀ j, f j = true → 0 ≤ j) : ∀ (n : Nat) (k : Int), k = n → f k = true → ∃ s, s ≤ k ∧ f s = true ∧ f (s - 1) = false ∧ ∀ j, s ≤ j → j ≤ k → f j = true
  | 0, k, hk, h => ⟨k, by omega, h, by
      cases hq : f (k - 1)
      · rfl
      · have := hf _ hq; omega, fun j h1 h2 => by rw [show j = k from by omega]; exact h⟩
  | n + 1, k, hk, h => by
    cases hq : f (k - 1)
    · exact ⟨k, by omega, h, hq, fun j h1 h2 => by rw [show j = k from by omega]; exact h⟩
    · obtain ⟨s, h1, h2, h3, h4⟩ := run_start hf n (k - 1) (by omega) hq
      refine ⟨s, by omega, h2, h3, fun j h5 h6 => ?_⟩
      rcases (show j ≤ k - 1 ∨ j = k from by omega) with h7 | h7
      · exact h4 j h5 h7
      · rw [h7]; exact h
theorem Acc.final {f l : Int → Bool} {N : Nat} {acc ts : List Pc} (h : Acc f N l acc) (hl : ∀ k, l k = false) (hf : ∀ j, f j = true → 0 ≤ j) (hp : ts.Perm acc) (hs : ts.Pairwise (fun p q => p.a ≤ q.a)) :
    Norm ts ∧ (∀ k, Inn ts k ↔ f k = true) ∧ ∀ p ∈ ts, p.m = decide (p.e < (N : Int)) := by
  have hrow : ∀ p ∈ ts, Row f N p ∧ f (p.a - 1) = false := fun p hm => ⟨(h.row p (hp.mem_iff.1 hm)).1, (h.row p (hp.mem_iff.1 hm)).2.1⟩
  have hdis : ts.Pairwise (fun p q => p.a ≠ q.a) := (hp.pairwise_iff (fun {_ _} hne => Ne.symm hne)).2 h.dis
  refine ⟨⟨?_, fun p hm => ?_⟩, fun k => ⟨?_, fun hk => ?_⟩, fun p hm => (hrow p hm).1.2.2.2⟩
  · have hboth := List.Pairwise.and hs hdis
    refine List.Pairwise.imp_of_mem ?_ hboth
    intro p q hpm hqm ⟨h1, h2⟩
    obtain ⟨⟨p1, p2, p3, _⟩, p4⟩ := hrow p hpm
    obtain ⟨⟨q1, q2, q3, _⟩, q4⟩ := hrow q hqm
    have hne : q.a ≠ p.e := fun e => by
      have := q2 q.a (Int.le_refl _) q1
      rw [e, p3] at this; cases this
    rcases Int.lt_or_le p.e q.a with h5 | h5
    · exact h5
    · exfalso
      have := p2 (q.a - 1) (by omega) (by omega)
      rw [q4] at this; cases this
  · have := (hrow p hm).1.1
    unfold Pc.e at this; omega
  · rintro ⟨p, hm, h1, h2⟩
    exact (hrow p hm).1.2.1 k h1 h2
  · obtain ⟨s, h1, h2, h3, h4⟩ := run_start hf k.toNat k (by have := hf k hk; omega) hk
    obtain ⟨p, hm, he⟩ := h.all s h2 (hl s) h3
    refine ⟨p, hp.mem_iff.2 hm, by omega, ?_⟩
    obtain ⟨p1, p2, p3, _⟩ := (h.row p hm).1
    rcases Int.lt_or_le k p.e with h5 | h5
    · exact h5
    · have := h4 p.e (by omega) h5
      rw [p3] at this; cases this

/-- Pieces and a length that HolesOf takes. -/
def okH (ps : List Pc) (L : Int) : Bool := vpB ps && (decide (1 ≤ L) && decide (L ≤ 60))
/-- What HolesOf gives. -/
def HP (ps : List Pc) (L : Int) (R : List Pc) : Prop := (okH ps L = true → Norm R ∧ (∀ k, Inn R k ↔ mis ps L.toNat k = true) ∧ ∀ p ∈ R, p.m = decide (p.e < L)) ∧ (okH ps L = false → R = [])
theorem HP.uniq {ps R R' : List Pc} {L : Int} (h : HP ps L R) (h' : HP ps L R') : R = R' := by
  cases hb : okH ps L
  · rw [h.2 hb, h'.2 hb]
  · obtain ⟨h1, h2, h3⟩ := h.1 hb
    obtain ⟨h1', h2', h3'⟩ := h'.1 hb
    exact norm_flag (f := fun e => decide (e < L)) h1 h1' (fun k => (h2 k).trans (h2' k).symm) h3 h3'
theorem okH_valid {ps : List Pc} {L : Int} (h : okH ps L = true) : vpB ps = true ∧ ps.all pcB = true ∧ ps.length ≤ 20 ∧ ∃ N : Nat, L = N ∧ 1 ≤ N ∧ N ≤ 60 := by
  have h' := h
  simp only [okH, vpB, lpB, Bool.and_eq_true, decide_eq_true_eq] at h'
  exact ⟨by simp only [okH, Bool.and_eq_true] at h; exact h.1, h'.1.1, by omega, L.toNat, by omega, by omega, by omega⟩
theorem mis_bd {ps : List Pc} {N : Nat} (j : Int) (h : mis ps N j = true) : 0 ≤ j ∧ j < N := by
  simp only [mis, Bool.and_eq_true, decide_eq_true_eq] at h
  exact h.1
theorem HP.of_acc {ps acc ts : List Pc} {N : Nat} {l : Int → Bool} (ho : okH ps N = true) (h : Acc (mis ps N) N l acc) (hl : ∀ k, l k = false) (hp : ts.Perm acc) (hs : ts.Pairwise (fun p q => p.a ≤ q.a)) : HP ps N ts :=
  ⟨fun _ => h.final hl (fun j hj => (mis_bd j hj).1) hp hs, fun h' => by rw [ho] at h'; cases h'⟩
theorem HP.none {ps : List Pc} {L : Int} (h : okH ps L = false) : HP ps L [] := ⟨fun h' => absurd h' (by simp [h]), fun _ => rfl⟩
theorem HP.of_run {ps acc : List Pc} {N : Nat} (ho : okH ps N = true) (h : RunI N (fun j => !hasB ps j) (fun e => decide (e < (N : Int))) N acc) : HP ps N acc := by
  refine ⟨fun _ => ⟨h.norm, fun k => ?_, h.flag⟩, fun h' => by rw [ho] at h'; cases h'⟩
  rw [h.inn k]
  constructor
  · rintro ⟨i, rfl, h2, h3⟩
    show mis ps N i = true
    rw [hasB_inI] at h3
    unfold mis
    rw [h3]
    simp; omega
  · intro hk
    have hb := mis_bd k hk
    have hb0 : 0 ≤ k ∧ k < (N : Int) := hb
    refine ⟨k.toNat, by omega, by omega, ?_⟩
    have hk' : mis ps N k = true := hk
    unfold mis at hk'
    rw [Bool.and_eq_true] at hk'
    show (!hasB ps k.toNat) = true
    rw [hasB_inI, show ((k.toNat : Nat) : Int) = k from by omega]; exact hk'.2
/-- What HolesOf leaves. -/
def HPost (ps : List Pc) (L : Int) (w : World) (e : Ending) (w' : World) : Prop := ∃ u R, e = .returned u ∧ HP ps L R ∧ OwnP w' w.heap.size u R ∧ Below w.heap.size w w'
theorem HP.len {ps R : List Pc} {L : Int} (h : HP ps L R) : R.length ≤ 60 := by
  cases hb : okH ps L
  · rw [h.2 hb]; simp
  · obtain ⟨_, _, _, N, rfl, h1, h2⟩ := okH_valid hb
    obtain ⟨hn, hi, _⟩ := h.1 hb
    have := norm_len hn (lo := 0) (hi := 60) (fun k hk => by
      have := mis_bd k ((hi k).1 hk)
      have h3 : 0 ≤ k ∧ k < (((N : Int).toNat : Nat) : Int) := this
      omega) (by omega)
    omega
end Go.Proofs.Yteililppbnbfhaa
