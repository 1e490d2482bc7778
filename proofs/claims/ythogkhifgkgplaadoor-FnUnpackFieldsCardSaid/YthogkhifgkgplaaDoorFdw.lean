/-
  The plain mathematics of fields that are packed: no program is named here. No condition.
-/
import Derived.Test.YthogkhifgkgplaaDoorFgr
namespace Go.Proofs.YthogkhifgkgplaaDoor
set_option linter.unusedVariables false

/-- A field. -/
structure Fd where
  t : Int
  b : List Int
deriving DecidableEq
def f0 : Fd := ⟨0, []⟩
def tagB (x : Int) : Bool := decide (0 ≤ x) && decide (x ≤ 300)
def bysB (l : List Int) : Bool := decide (l.length ≤ 16) && l.all by8
/-- Whether a field may go on the wire. -/
def vfB (f : Fd) : Bool := tagB f.t && bysB f.b
def vfsB (L : List Fd) : Bool := decide (L.length ≤ 5) && L.all vfB
/-- A field's bytes on the wire. -/
def pk1 (f : Fd) : List Int := gr f.t.toNat ++ (gr f.b.length ++ f.b)
def pkA (L : List Fd) : List Int := (L.map pk1).flatten
def pkR (L : List Fd) : List Int := if vfsB L = true then pkA L else []
theorem vf_parts {f : Fd} (h : vfB f = true) : (0 ≤ f.t ∧ f.t ≤ 300) ∧ f.b.length ≤ 16 ∧ f.b.all by8 = true := by
  simp only [vfB, tagB, bysB, Bool.and_eq_true, decide_eq_true_eq] at h
  exact ⟨h.1, h.2.1, h.2.2⟩
theorem vfs_get {L : List Fd} (h : vfsB L = true) (k : Nat) (hk : k < L.length) : vfB (L.getD k f0) = true := by
  simp only [vfsB, Bool.and_eq_true] at h
  rw [List.getD_eq_getElem?_getD, List.getElem?_eq_getElem hk]
  exact List.all_eq_true.1 h.2 _ (List.getElem_mem hk)
theorem pk1_len {f : Fd} (h : vfB f = true) : (pk1 f).length ≤ 22 := by
  obtain ⟨h1, h2, h3⟩ := vf_parts h
  have a := gr_len3 (n := f.t.toNat) (by omega)
  have b := gr_len3 (n := f.b.length) (by omega)
  unfold pk1
  rw [List.length_append, List.length_append]
  omega
theorem takeF_snoc (L : List Fd) (k : Nat) (h : k < L.length) : L.take (k + 1) = L.take k ++ [L.getD k f0] := by
  rw [List.take_add_one, List.getElem?_eq_getElem h]
  simp [List.getD_eq_getElem?_getD, List.getElem?_eq_getElem h]
theorem pkA_snoc (L : List Fd) (k : Nat) (h : k < L.length) : pkA (L.take (k + 1)) = pkA (L.take k) ++ pk1 (L.getD k f0) := by
  rw [takeF_snoc L k h]; simp [pkA]
theorem pkA_len {L : List Fd} (h : vfsB L = true) : ∀ k, k ≤ L.length → (pkA (L.take k)).length ≤ 22 * k
  | 0, _ => by simp [pkA]
  | k + 1, hk => by
    have := pkA_len h k (by omega)
    have := pk1_len (vfs_get h k (by omega))
    rw [pkA_snoc L k (by omega), List.length_append]
    omega
theorem pkR_len (L : List Fd) : (pkR L).length ≤ 110 := by
  unfold pkR
  split
  · rename_i h
    have h5 : L.length ≤ 5 := by simp only [vfsB, Bool.and_eq_true, decide_eq_true_eq] at h; exact h.1
    have := pkA_len h L.length (Nat.le_refl _)
    rw [List.take_length] at this
    omega
  · simp

/-- The bytes of the last field with a tag, among the first k. -/
def laF (L : List Fd) (t : Int) : Nat → Option (List Int)
  | 0 => none
  | k + 1 => if (L.getD k f0).t = t then some (L.getD k f0).b else laF L t k
def laR (L : List Fd) (t : Int) : Option (List Int) := if vfsB L = true then laF L t L.length else none
theorem laF_bytes {L : List Fd} {t : Int} (h : vfsB L = true) : ∀ k, k ≤ L.length → ∀ b, laF L t k = some b → b.length ≤ 16
  | 0, _, b, hb => by cases hb
  | k + 1, hk, b, hb => by
    unfold laF at hb
    split at hb
    · injection hb with hb
      rw [← hb]
      exact (vf_parts (vfs_get h k (by omega))).2.1
    · exact laF_bytes h k (by omega) b hb
theorem laR_len (L : List Fd) (t : Int) : ((laR L t).getD []).length ≤ 16 := by
  unfold laR
  split
  · rename_i h
    cases hl : laF L t L.length with
    | none => simp
    | some b => exact laF_bytes h _ (Nat.le_refl _) b hl
  · simp

/-! ### reading them back -/
/-- The field at the beginning of bytes, and how many they are. -/
def oneF (l : List Int) : Option (Fd × Nat) :=
  match nf l with
  | none => none
  | some (t, a) =>
    match nf (l.drop a) with
    | none => none
    | some (s, b) => if a + b + s ≤ l.length ∧ vfB ⟨t, (l.drop (a + b)).take s⟩ = true then some (⟨t, (l.drop (a + b)).take s⟩, a + b + s) else none
/-- The fields of bytes, with so many rounds. -/
def unF : Nat → List Int → Option (List Fd)
  | 0, l => if l = [] then some [] else none
  | n + 1, l => if l = [] then some [] else match oneF l with
    | none => none
    | some (f, e) => (unF n (l.drop e)).map (f :: ·)
def unA (l : List Int) : Option (List Fd) := unF l.length l
def unR (l : List Int) : Option (List Fd) := if l.length ≤ 120 then (match unA l with | some L => if L.length ≤ 5 then some L else none | none => none) else none
theorem oneF_some {l : List Int} {f : Fd} {e : Nat} (h : oneF l = some (f, e)) : l.take e = pk1 f ∧ 1 ≤ e ∧ e ≤ l.length ∧ vfB f = true := by
  unfold oneF at h
  cases h1 : nf l with
  | none => rw [h1] at h; cases h
  | some p =>
    obtain ⟨t, a⟩ := p
    rw [h1] at h
    simp only at h
    cases h2 : nf (l.drop a) with
    | none => rw [h2] at h; cases h
    | some q =>
      obtain ⟨s, b⟩ := q
      rw [h2] at h
      simp only at h
      split at h <;> rename_i hc
      · simp only [Option.some.injEq, Prod.mk.injEq] at h
        obtain ⟨rfl, rfl⟩ := h
        obtain ⟨a1, a2, a3, a4, a5⟩ := nf_some h1
        obtain ⟨b1, b2, b3, b4, b5⟩ := nf_some h2
        refine ⟨?_, by omega, hc.1, hc.2⟩
        have hl : ((l.drop (a + b)).take s).length = s := by rw [List.length_take, List.length_drop]; omega
        show _ = gr (((t : Nat) : Int)).toNat ++ (gr ((l.drop (a + b)).take s).length ++ (l.drop (a + b)).take s)
        rw [hl, Int.toNat_natCast, ← a1, ← b1]
        rw [List.take_add, List.take_add, List.append_assoc]
      · cases h
theorem unF_fuel : ∀ (n : Nat) (l : List Int), l.length ≤ n → unF n l = unA l := by
  intro n
  induction n using Nat.strongRecOn with
  | _ n ih =>
    intro l hl
    unfold unA
    cases n with
    | zero =>
      have : l = [] := List.eq_nil_of_length_eq_zero (by omega)
      subst this; rfl
    | succ n =>
      cases hll : l.length with
      | zero =>
        have : l = [] := List.eq_nil_of_length_eq_zero hll
        subst this; rfl
      | succ m =>
        show (if l = [] then some [] else match oneF l with | none => none | some (f, e) => (unF n (l.drop e)).map (f :: ·)) = (if l = [] then some [] else match oneF l with | none => none | some (f, e) => (unF m (l.drop e)).map (f :: ·))
        by_cases hne : l = []
        · rw [if_pos hne, if_pos hne]
        · rw [if_neg hne, if_neg hne]
          cases h1 : oneF l with
          | none => rfl
          | some p =>
            obtain ⟨f, e⟩ := p
            obtain ⟨_, e1, e2, _⟩ := oneF_some h1
            simp only
            have hd : (l.drop e).length ≤ m := by rw [List.length_drop]; omega
            rw [ih n (by omega) (l.drop e) (by omega), ih m (by omega) (l.drop e) hd]
theorem unA_nil : unA [] = some [] := rfl
theorem unA_step {l : List Int} (hne : l ≠ []) : unA l = match oneF l with | none => none | some (f, e) => (unA (l.drop e)).map (f :: ·) := by
  obtain ⟨m, hm⟩ : ∃ m, l.length = m + 1 := by
    cases l with
    | nil => exact absurd rfl hne
    | cons x r => exact ⟨r.length, rfl⟩
  show unF l.length l = _
  rw [hm]
  show (if l = [] then some [] else match oneF l with | none => none | some (f, e) => (unF m (l.drop e)).map (f :: ·)) = _
  rw [if_neg hne]
  cases h1 : oneF l with
  | none => rfl
  | some p =>
    obtain ⟨f, e⟩ := p
    obtain ⟨_, e1, e2, _⟩ := oneF_some h1
    simp only
    rw [unF_fuel m (l.drop e) (by rw [List.length_drop]; omega)]
/-- What is read is written back. -/
theorem unA_pk : ∀ (n : Nat) (l : List Int) (L : List Fd), l.length ≤ n → unA l = some L → pkA L = l ∧ L.all vfB = true
  | 0, l, L, hl, h => by
    have : l = [] := List.eq_nil_of_length_eq_zero (by omega)
    subst this
    rw [unA_nil] at h
    injection h with h
    subst h
    exact ⟨rfl, rfl⟩
  | n + 1, l, L, hl, h => by
    by_cases hne : l = []
    · subst hne
      rw [unA_nil] at h
      injection h with h
      subst h
      exact ⟨rfl, rfl⟩
    · rw [unA_step hne] at h
      cases h1 : oneF l with
      | none => rw [h1] at h; cases h
      | some p =>
        obtain ⟨f, e⟩ := p
        obtain ⟨p1, p2, p3, p4⟩ := oneF_some h1
        rw [h1] at h
        simp only at h
        cases h2 : unA (l.drop e) with
        | none => rw [h2] at h; cases h
        | some M =>
          rw [h2] at h
          simp only [Option.map_some, Option.some.injEq] at h
          subst h
          obtain ⟨q1, q2⟩ := unA_pk n (l.drop e) M (by rw [List.length_drop]; omega) h2
          refine ⟨?_, by rw [List.all_cons, p4, q2]; rfl⟩
          show pk1 f ++ pkA M = l
          rw [q1, ← p1, List.take_append_drop]
theorem oneF_pk {f : Fd} (h : vfB f = true) (r : List Int) : oneF (pk1 f ++ r) = some (f, (pk1 f).length) := by
  obtain ⟨h1, h2, h3⟩ := vf_parts h
  have e1 : pk1 f ++ r = gr f.t.toNat ++ (gr f.b.length ++ (f.b ++ r)) := by unfold pk1; simp
  have n1 := nf_gr (n := f.t.toNat) (by omega) (gr f.b.length ++ (f.b ++ r))
  have n2 := nf_gr (n := f.b.length) (by omega) (f.b ++ r)
  have d1 : (pk1 f ++ r).drop (gr f.t.toNat).length = gr f.b.length ++ (f.b ++ r) := by rw [e1, List.drop_left]
  have d2 : (pk1 f ++ r).drop ((gr f.t.toNat).length + (gr f.b.length).length) = f.b ++ r := by rw [← List.drop_drop, d1, List.drop_left]
  have hlen : (pk1 f).length = (gr f.t.toNat).length + (gr f.b.length).length + f.b.length := by unfold pk1; simp; omega
  have hf : (⟨((f.t.toNat : Nat) : Int), ((pk1 f ++ r).drop ((gr f.t.toNat).length + (gr f.b.length).length)).take f.b.length⟩ : Fd) = f := by
    rw [d2, List.take_left]
    cases f with
    | mk t b => simp only [Fd.mk.injEq, and_true]; simp only at h1; omega
  unfold oneF
  rw [show nf (pk1 f ++ r) = some (f.t.toNat, (gr f.t.toNat).length) from by rw [e1]; exact n1]
  simp only
  rw [d1, n2]
  simp only
  rw [hf, if_pos ⟨by rw [List.length_append, hlen]; omega, h⟩, hlen]
theorem pk1_pos (f : Fd) : 0 < (pk1 f).length := by
  unfold pk1
  rw [List.length_append]
  have := gr_pos f.t.toNat
  omega
/-- What is written is read back. -/
theorem unA_pkA : ∀ (L : List Fd), L.all vfB = true → unA (pkA L) = some L
  | [], _ => rfl
  | f :: M, h => by
    rw [List.all_cons, Bool.and_eq_true] at h
    have e : pkA (f :: M) = pk1 f ++ pkA M := rfl
    have hp := pk1_pos f
    rw [e, unA_step (fun h0 => by rw [List.append_eq_nil_iff] at h0; rw [h0.1] at hp; simp at hp), oneF_pk h.1]
    simp only
    rw [List.drop_left, unA_pkA M h.2]
    rfl
theorem all_app8 {a b : List Int} (ha : a.all by8 = true) (hb : b.all by8 = true) : (a ++ b).all by8 = true := by rw [List.all_append, ha, hb]; rfl
theorem pk1_bytes {f : Fd} (h : vfB f = true) : (pk1 f).all by8 = true := by
  obtain ⟨_, _, h3⟩ := vf_parts h
  exact all_app8 (gr_bytes _) (all_app8 (gr_bytes _) h3)
theorem pkA_bytes : ∀ {L : List Fd}, L.all vfB = true → (pkA L).all by8 = true
  | [], _ => rfl
  | f :: M, h => by
    rw [List.all_cons, Bool.and_eq_true] at h
    exact all_app8 (pk1_bytes h.1) (pkA_bytes h.2)
theorem unA_bytes {l : List Int} {L : List Fd} (h : unA l = some L) : l.all by8 = true := by
  obtain ⟨h1, h2⟩ := unA_pk l.length l L (Nat.le_refl _) h
  rw [← h1]; exact pkA_bytes h2
end Go.Proofs.YthogkhifgkgplaaDoor
