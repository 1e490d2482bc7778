/-
  A number is appended onto a row of numbers of the call's own. Conditions: where the row lies, and the bounds that are typed.
  The plain mathematics of stuffed bits: lists of bytes, no program is named here. No condition.
-/
import Derived.Test.YtndpbhmokobbpaaGreatDoorDm03
namespace Go.Proofs.YtndpbhmokobbpaaGreatDoor
open Go.RowKit
set_option linter.unusedVariables false

/-- A row of numbers of the call's own. -/
def OwnL (w : World) (B : Nat) (v : Value) (xs : List Int) : Prop := w.ownsRow B 3 1 v xs.length (ints xs)
theorem OwnL.form {w : World} {B : Nat} {v : Value} {xs : List Int} (h : OwnL w B v xs) : ∃ a c, v = .slice a xs.length c := own_form h
theorem OwnL.alloc {w : World} {B : Nat} {v : Value} {xs : List Int} (h : OwnL w B v xs) (o : Obj) : OwnL (w.alloc o) B v xs := World.ownsRow.alloc h o
theorem OwnL.drewN {w : World} {B : Nat} {v : Value} {xs : List Int} (h : OwnL w B v xs) (n : Nat) : OwnL (w.drewN n) B v xs := h
theorem OwnL.nil (w : World) (B : Nat) : OwnL w B (.slice none 0 0) [] := World.ownsRow_nil _ _ _ _
theorem OwnL.rds {w : World} {B : Nat} {v : Value} {xs : List Int} (h : OwnL w B v xs) : Rds w v xs := Rds.of_own h
theorem OwnL.below {w w' : World} {B B' : Nat} {v : Value} {xs : List Int} (h : OwnL w B v xs) (hb : Below B' w w') (hB : w.heap.size ≤ B') : OwnL w' B v xs :=
  own_below h hb (fun g hg => by have := (World.ownsRow.lt h g hg).2; omega)
theorem OwnL.base {w : World} {B B' : Nat} {v : Value} {xs : List Int} (h : OwnL w B v xs) (hB : B' ≤ B) : OwnL w B' v xs :=
  own_base h (fun g hg => by have := (World.ownsRow.lt h g hg).1; omega)
theorem OwnL.empty (w : World) (B : Nat) (hB : B ≤ w.heap.size) : OwnL (w.alloc (.cells #[] 3)) B (.slice (some ⟨w.heap.size, 0, none⟩) 0 0) [] :=
  World.ownsRow_made (base := B) (e := 3) (size := 1) w #[] 0 hB (by unfold maxLen; omega) rfl
theorem OwnL.one (w : World) (B : Nat) (x : Int) (hB : B ≤ w.heap.size) : OwnL (w.alloc (.cells #[.int .i64 x] 3)) B (.slice (some ⟨w.heap.size, 0, none⟩) 1 1) [x] :=
  ⟨by simp [ints], .inr ⟨w.heap.size, 1, #[.int .i64 x], rfl, hB, heap_alloc_new w _, Nat.le_refl _, by unfold maxLen; omega, rfl, by simp [ints]⟩⟩
theorem OwnL.picked {w : World} {B g p m : Nat} {v : Value} {xs : List Int} (h : OwnL w B v xs) (hg : g < B) : ∀ u, OwnL ((w.setCell ⟨g, 1, none⟩ u).drewN m) B v xs := fun u =>
  ownsRow_setCell_other (a := ⟨g, 1, none⟩) h (fun he => by have := (World.ownsRow.lt h g he).1; omega) u

theorem cell_new1 (w : World) (y : Value) (t : TypeId) : ∀ j u, ([y] : List Value)[j]? = some u → (w.alloc (.cells #[y] t)).cell? ((⟨w.heap.size, 0, none⟩ : Addr).add j) = some u := by
  intro j u hj
  have hlt : j < 1 := by
    have := (List.getElem?_eq_some_iff.1 hj).1
    simpa using this
  have e : (⟨w.heap.size, 0, none⟩ : Addr).add j = ⟨w.heap.size, j, none⟩ := by unfold Addr.add; split <;> simp_all
  have h0 : j = 0 := by omega
  subst h0
  rw [e, cell_of_row _ w.heap.size 0 _ t (0, 0) (heap_alloc_new w _)]
  simpa using hj

/-- One number is appended onto a row of the call's own. -/
theorem append_oneI {w0 : World} {ops : Array Oper} {rest : List Oper} {o : Oper} {a : Act} {Q : Exit → Act → World → Prop} (hgd : o.guard = none) (s x : Operand)
    (ho : o.op = .call { callee := .builtin .append, args := #[s, x], argTypes := #[36, 36] })
    (B : Nat) (v : Value) (l : List Int) (y : Int) (hs : a.eval s = v) (hx : a.eval x = .slice (some ⟨w0.heap.size, 0, none⟩) 1 1) (hown : OwnL w0 B v l) (hl : l.length ≤ 1000000) (hB : B ≤ w0.heap.size)
    (h : ∀ A c w', OwnL w' B (.slice A (l.length + 1) c) (l ++ [y]) → (w0.alloc (.cells #[.int .i64 y] 3)).grownBy w' v.ownBlock → Below B w0 w' → w0.heap.size ≤ w'.heap.size →
      wpList Tryz.prog ops Q rest (a.put o.dst (.slice A (l.length + 1) c)) w') : wpList Tryz.prog ops Q (o :: rest) a (w0.alloc (.cells #[.int .i64 y] 3)) := by
  obtain ⟨i0, hi, hz0, hz1, hz2⟩ := info_parts info3
  refine wpList_append_own _ hgd s x 36 ho B 3 i0 (.int .i64 0) 1 8 Tryz.underlying36 hi hz0 hz1 hz2 rfl (by decide) v l.length (ints l) hs (hown.alloc _) ⟨w0.heap.size, 0, none⟩ 1 1 [.int .i64 y] hx rfl (cell_new1 _ _ _) (one_cell _ rfl) (by rw [mx]; omega) (by omega) (by simp; omega) ?_
  intro v' w' h1 h2 _
  have h3 := ownI_snoc h1
  obtain ⟨A, c, rfl⟩ := own_form h1
  refine h A c w' h3 h2 ?_ ?_
  · exact ((Below.refl B w0).alloc hB _).grown h2 (by simp; omega) (fun j hj => by have := (World.ownsRow.lt hown j hj).1; omega)
  · have := h2.size
    simp at this; omega
end Go.Proofs.YtndpbhmokobbpaaGreatDoor

namespace Go.Proofs.YtndpbhmokobbpaaGreatDoor

/-- A byte 0 or 1. -/
def isBit (c : UInt8) : Bool := c == 48 || c == 49
/-- At most k bytes, each 0 or 1. -/
def bitsB (k : Nat) (l : List UInt8) : Bool := decide (l.length ≤ k) && l.all isBit

theorem isBit_cases {c : UInt8} (h : isBit c = true) : c = 48 ∨ c = 49 := by
  simp [isBit] at h; exact h
theorem isBit_no {c : UInt8} (h : isBit c = false) : c ≠ 48 ∧ c ≠ 49 := by
  simp [isBit] at h; exact h

/-- One step of stuffing: what is written, and how many ones stand at its end. -/
def stp (st : List UInt8 × Nat) (c : UInt8) : List UInt8 × Nat :=
  if (if c = 49 then st.2 + 1 else 0) = 5 then (st.1 ++ [c] ++ [48], 0) else (st.1 ++ [c], if c = 49 then st.2 + 1 else 0)
def stf (l : List UInt8) : List UInt8 × Nat := l.foldl stp ([], 0)

/-- Stuffing behind n ones. -/
def str (n : Nat) : List UInt8 → List UInt8
  | [] => []
  | c :: l => if (if c = 49 then n + 1 else 0) = 5 then c :: 48 :: str 0 l else c :: str (if c = 49 then n + 1 else 0) l

theorem foldl_stp : ∀ (l : List UInt8) (o : List UInt8) (n : Nat), (l.foldl stp (o, n)).1 = o ++ str n l
  | [], o, n => by simp [str]
  | c :: l, o, n => by
    rw [List.foldl_cons]
    by_cases h : (if c = 49 then n + 1 else 0) = 5
    · have e : stp (o, n) c = (o ++ [c] ++ [48], 0) := by simp only [stp, h, if_true]
      rw [e, foldl_stp l, str]; simp [h]
    · have e : stp (o, n) c = (o ++ [c], if c = 49 then n + 1 else 0) := by simp only [stp, h, if_false]
      rw [e, foldl_stp l, str]; simp only [h, if_false]; simp
theorem stf_eq (l : List UInt8) : (stf l).1 = str 0 l := by
  unfold stf; rw [foldl_stp]; rfl
theorem stf_snoc (l : List UInt8) (c : UInt8) : stf (l ++ [c]) = stp (stf l) c := by
  unfold stf; rw [List.foldl_append]; rfl
theorem stp_lt (st : List UInt8 × Nat) (c : UInt8) (h : st.2 < 5) : (stp st c).2 < 5 := by
  unfold stp
  by_cases h1 : (if c = 49 then st.2 + 1 else 0) = 5
  · simp [h1]
  · simp only [h1, if_false]
    by_cases hc : c = 49
    · simp only [hc, if_true] at h1 ⊢; omega
    · simp [hc]
theorem foldl_lt : ∀ (l : List UInt8) (st : List UInt8 × Nat), st.2 < 5 → (l.foldl stp st).2 < 5
  | [], _, h => h
  | c :: l, st, h => by rw [List.foldl_cons]; exact foldl_lt l _ (stp_lt st c h)
theorem stf_lt (l : List UInt8) : (stf l).2 < 5 := foldl_lt l _ (by simp)

theorem str_len : ∀ (l : List UInt8) (n : Nat), n < 5 → 5 * (str n l).length ≤ 6 * l.length + n
  | [], n, _ => by simp [str]
  | c :: l, n, h => by
    unfold str
    by_cases h1 : (if c = 49 then n + 1 else 0) = 5
    · simp only [h1, if_true, List.length_cons]
      have := str_len l 0 (by omega)
      have h2 : n = 4 := by
        by_cases hc : c = 49
        · simp [hc] at h1; exact h1
        · simp [hc] at h1
      omega
    · simp only [h1, if_false, List.length_cons]
      have h3 : (if c = 49 then n + 1 else 0) ≤ n + 1 := by split <;> omega
      have := str_len l (if c = 49 then n + 1 else 0) (by omega)
      omega
theorem stf_len (l : List UInt8) : (stf l).1.length ≤ l.length + l.length / 5 := by
  have := str_len l 0 (by omega)
  rw [stf_eq]; omega

/-- One step of unstuffing. -/
def usp (st : List UInt8 × Nat) (c : UInt8) : Option (List UInt8 × Nat) :=
  if st.2 = 5 then (if c = 49 then none else some (st.1, 0)) else some (st.1 ++ [c], if c = 49 then st.2 + 1 else 0)
def usf : List UInt8 → List UInt8 × Nat → Option (List UInt8 × Nat)
  | [], st => some st
  | c :: l, st => match usp st c with | none => none | some st' => usf l st'
/-- What unstuffing gives. -/
def uns (l : List UInt8) : Option (List UInt8) := match usf l ([], 0) with | none => none | some st => if st.2 < 5 then some st.1 else none

/-- Unstuffing behind n ones. -/
def usr (n : Nat) : List UInt8 → Option (List UInt8)
  | [] => if n < 5 then some [] else none
  | c :: l => if n = 5 then (if c = 49 then none else usr 0 l) else (usr (if c = 49 then n + 1 else 0) l).map (c :: ·)

theorem usf_eq : ∀ (l : List UInt8) (o : List UInt8) (n : Nat),
    (match usf l (o, n) with | none => none | some st => if st.2 < 5 then some st.1 else none) = (usr n l).map (o ++ ·)
  | [], o, n => by
    simp only [usf, usr]; by_cases h : n < 5 <;> simp [h]
  | c :: l, o, n => by
    unfold usf usp usr
    by_cases h : n = 5
    · by_cases hc : c = 49
      · simp [h, hc]
      · simp only [h, hc, if_true, if_false]
        exact usf_eq l o 0
    · simp only [h, if_false]
      have := usf_eq l (o ++ [c]) (if c = 49 then n + 1 else 0)
      rw [this]
      cases usr (if c = 49 then n + 1 else 0) l <;> simp
theorem uns_eq (l : List UInt8) : uns l = usr 0 l := by
  unfold uns
  have := usf_eq l [] 0
  rw [this]
  cases usr 0 l <;> simp

theorem usr_str : ∀ (l : List UInt8) (n : Nat), n < 5 → usr n (str n l) = some l
  | [], n, h => by simp [str, usr, h]
  | c :: l, n, h => by
    unfold str
    by_cases h1 : (if c = 49 then n + 1 else 0) = 5
    · simp only [h1, if_true]
      have h2 : ¬ n = 5 := by omega
      unfold usr
      simp only [h2, if_false, h1]
      unfold usr
      simp [usr_str l 0 (by omega)]
    · simp only [h1, if_false]
      have h2 : ¬ n = 5 := by omega
      have h3 : (if c = 49 then n + 1 else 0) < 5 := by
        by_cases hc : c = 49
        · simp only [hc, if_true] at h1 ⊢; omega
        · simp [hc]
      unfold usr
      simp only [h2, if_false]
      rw [usr_str l _ h3]; simp
theorem uns_stf (l : List UInt8) : uns (stf l).1 = some l := by
  rw [uns_eq, stf_eq]; exact usr_str l 0 (by omega)

theorem str_usr : ∀ (l : List UInt8) (n : Nat) (o : List UInt8), l.all isBit = true →
    (n < 5 → usr n l = some o → str n o = l) ∧ (n = 5 → usr n l = some o → 48 :: str 0 o = l)
  | [], n, o, _ => by
    constructor
    · intro h; simp [usr, h]; rintro rfl; rfl
    · intro h; simp [usr, h]
  | c :: l, n, o, hb => by
    have hb' : isBit c = true ∧ l.all isBit = true := by simpa using hb
    constructor
    · intro h
      have h2 : ¬ n = 5 := by omega
      unfold usr
      simp only [h2, if_false]
      intro hu
      obtain ⟨o', ho, rfl⟩ := Option.map_eq_some_iff.1 hu
      unfold str
      have ih := str_usr l (if c = 49 then n + 1 else 0) o' hb'.2
      by_cases h1 : (if c = 49 then n + 1 else 0) = 5
      · simp only [h1, if_true]
        rw [ih.2 h1 ho]
      · simp only [h1, if_false]
        have h3 : (if c = 49 then n + 1 else 0) < 5 := by
          by_cases hc : c = 49
          · simp only [hc, if_true] at h1 ⊢; omega
          · simp [hc]
        rw [ih.1 h3 ho]
    · intro h
      unfold usr
      simp only [h, if_true]
      by_cases hc : c = 49
      · simp [hc]
      · simp only [hc, if_false]
        intro hu
        have : c = 48 := (isBit_cases hb'.1).resolve_right hc
        rw [(str_usr l 0 o hb'.2).1 (by omega) hu, this]
theorem stf_uns (l o : List UInt8) (hb : l.all isBit = true) (h : uns l = some o) : (stf o).1 = l := by
  rw [uns_eq] at h; rw [stf_eq]; exact (str_usr l 0 o hb).1 (by omega) h

theorem usr_bits : ∀ (l : List UInt8) (n : Nat) (o : List UInt8), l.all isBit = true → usr n l = some o → o.all isBit = true
  | [], n, o, _ => by simp only [usr]; split <;> simp; rintro rfl; simp
  | c :: l, n, o, hb => by
    have hb' : isBit c = true ∧ l.all isBit = true := by simpa using hb
    unfold usr
    split
    · split
      · simp
      · exact usr_bits l 0 o hb'.2
    · intro hu
      obtain ⟨o', ho, rfl⟩ := Option.map_eq_some_iff.1 hu
      simp [hb'.1]
      exact fun x hx => List.all_eq_true.1 (usr_bits l _ o' hb'.2 ho) x hx
theorem uns_bits (l o : List UInt8) (hb : l.all isBit = true) (h : uns l = some o) : o.all isBit = true := by
  rw [uns_eq] at h; exact usr_bits l 0 o hb h
theorem str_bits : ∀ (l : List UInt8) (n : Nat), l.all isBit = true → (str n l).all isBit = true
  | [], _, _ => by simp [str]
  | c :: l, n, hb => by
    have hb' : isBit c = true ∧ l.all isBit = true := by simpa using hb
    have h48 : isBit 48 = true := by decide
    unfold str
    by_cases h1 : (if c = 49 then n + 1 else 0) = 5
    · have := str_bits l 0 hb'.2
      rw [if_pos h1, List.all_cons, List.all_cons, hb'.1, h48, this]; rfl
    · have := str_bits l (if c = 49 then n + 1 else 0) hb'.2
      rw [if_neg h1, List.all_cons, hb'.1, this]; rfl
theorem stf_bits (l : List UInt8) (h : l.all isBit = true) : (stf l).1.all isBit = true := by rw [stf_eq]; exact str_bits l 0 h

/-- How many ones stand at the end, counted without end. -/
def rowOf (l : List UInt8) : Nat := l.foldl (fun r c => if c = 48 then 0 else r + 1) 0
theorem rowOf_snoc (l : List UInt8) (c : UInt8) : rowOf (l ++ [c]) = if c = 48 then 0 else rowOf l + 1 := by
  unfold rowOf; rw [List.foldl_append]; rfl
/-- In stuffed bits no row of ones is longer than five. -/
theorem str_row : ∀ (l : List UInt8) (n r : Nat), n < 5 → r ≤ n → l.all isBit = true → ∀ k, k ≤ (str n l).length → ((str n l).take k).foldl (fun r c => if c = 48 then 0 else r + 1) r ≤ 5
  | [], n, r, h, hr, _, k, _ => by simp [str]; omega
  | c :: l, n, r, h, hr, hb, k, hk => by
    have hb' : isBit c = true ∧ l.all isBit = true := by simpa using hb
    unfold str at hk ⊢
    by_cases h1 : (if c = 49 then n + 1 else 0) = 5
    · simp only [h1, if_true] at hk ⊢
      have hc : c = 49 := by by_cases hc : c = 49; exact hc; simp [hc] at h1
      subst hc
      match k, hk with
      | 0, _ => simp; omega
      | 1, _ => simp; omega
      | k + 2, hk =>
        simp only [List.take_succ_cons, List.foldl_cons]
        exact str_row l 0 _ (by omega) (by simp) hb'.2 k (by simpa using hk)
    · simp only [h1, if_false] at hk ⊢
      match k, hk with
      | 0, _ => simp; omega
      | k + 1, hk =>
        simp only [List.take_succ_cons, List.foldl_cons]
        have h3 : (if c = 49 then n + 1 else 0) < 5 := by
          by_cases hc : c = 49
          · simp only [hc, if_true] at h1 ⊢; omega
          · simp [hc]
        refine str_row l _ _ h3 ?_ hb'.2 k (by simpa using hk)
        rcases isBit_cases hb'.1 with rfl | rfl
        · simp
        · simp; omega
theorem stf_row (l : List UInt8) (hb : l.all isBit = true) (k : Nat) (hk : k ≤ (stf l).1.length) : rowOf ((stf l).1.take k) ≤ 5 := by
  rw [stf_eq] at hk ⊢; exact str_row l 0 0 (by omega) (by omega) hb k hk
theorem usf_app : ∀ (a b : List UInt8) (st : List UInt8 × Nat), usf (a ++ b) st = match usf a st with | none => none | some st' => usf b st'
  | [], b, st => by simp [usf]
  | c :: a, b, st => by
    rw [List.cons_append, usf, usf]
    cases usp st c with
    | none => rfl
    | some st' => exact usf_app a b st'
theorem usf_snoc (a : List UInt8) (c : UInt8) (st st' : List UInt8 × Nat) (h : usf a st = some st') : usf (a ++ [c]) st = usp st' c := by
  rw [usf_app, h]
  show usf [c] st' = _
  rw [usf]
  cases usp st' c <;> rfl
/-- Where a beginning is refused the whole is. -/
theorem uns_none (a b : List UInt8) (h : usf a ([], 0) = none) : uns (a ++ b) = none := by
  unfold uns
  rw [usf_app, h]
theorem uns_end (l : List UInt8) (st : List UInt8 × Nat) (h : usf l ([], 0) = some st) : uns l = if st.2 < 5 then some st.1 else none := by
  unfold uns
  rw [h]
theorem usp_none {o : List UInt8} {n : Nat} (h : n = 5) : usp (o, n) 49 = none := by simp [usp, h]
theorem usp_skip {o : List UInt8} {n : Nat} {c : UInt8} (h : n = 5) (hc : c ≠ 49) : usp (o, n) c = some (o, 0) := by simp [usp, h, hc]
theorem usp_one {o : List UInt8} {n : Nat} (h : n ≠ 5) : usp (o, n) 49 = some (o ++ [49], n + 1) := by simp [usp, h]
theorem usp_zero {o : List UInt8} {n : Nat} {c : UInt8} (h : n ≠ 5) (hc : c ≠ 49) : usp (o, n) c = some (o ++ [c], 0) := by simp [usp, h, hc]

theorem usr_len : ∀ (l : List UInt8) (n : Nat) (o : List UInt8), usr n l = some o → o.length ≤ l.length
  | [], n, o => by simp only [usr]; split <;> simp
  | c :: l, n, o => by
    unfold usr
    split
    · split
      · simp
      · intro h
        have := usr_len l 0 o h
        simp; omega
    · intro hu
      obtain ⟨o', ho, rfl⟩ := Option.map_eq_some_iff.1 hu
      have := usr_len l _ o' ho
      simp; omega
theorem uns_len {l o : List UInt8} (h : uns l = some o) : o.length ≤ l.length := by rw [uns_eq] at h; exact usr_len l 0 o h

/-- What UnstuffBits gives. -/
def unsR (l : List UInt8) : Option (List UInt8) := if bitsB 48 l = true then (match uns l with | none => none | some o => if bitsB 40 o = true then some o else none) else none
end Go.Proofs.YtndpbhmokobbpaaGreatDoor
