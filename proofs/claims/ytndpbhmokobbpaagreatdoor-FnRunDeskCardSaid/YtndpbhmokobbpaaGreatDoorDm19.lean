/-
  The plain mathematics of rests by divisors: lists of bytes and of Bools, no program is named here. No condition.
-/
import Derived.Test.YtndpbhmokobbpaaGreatDoorDm04
namespace Go.Proofs.YtndpbhmokobbpaaGreatDoor

/-! ### over bytes -/
/-- The byte that tells whether two bytes differ. -/
def xr (a b : UInt8) : UInt8 := if a = b then 48 else 49
def xrl (a b : List UInt8) : List UInt8 := List.zipWith xr a b
/-- Bits with those under a divisor turned, from place i on. -/
def mixU (p s : List UInt8) (i : Nat) : List UInt8 := s.take i ++ xrl ((s.drop i).take p.length) p ++ s.drop (i + p.length)
def redU (p s : List UInt8) : Nat → List UInt8
  | 0 => s
  | i + 1 => if (redU p s i).getD i 0 = 49 then mixU p (redU p s i) i else redU p s i
/-- The rest of bytes by a divisor. -/
def remU (p s : List UInt8) : List UInt8 := (redU p s (s.length - (p.length - 1))).drop (s.length - (p.length - 1))

theorem mixU_len (p s : List UInt8) (i : Nat) (h : i + p.length ≤ s.length) : (mixU p s i).length = s.length := by
  simp [mixU, xrl]; omega
theorem redU_len (p s : List UInt8) (hp : 1 ≤ p.length) : ∀ i, i ≤ s.length - (p.length - 1) → (redU p s i).length = s.length
  | 0, _ => rfl
  | i + 1, h => by
    have ih := redU_len p s hp i (by omega)
    unfold redU
    split
    · rw [mixU_len _ _ _ (by omega), ih]
    · exact ih
theorem remU_len (p s : List UInt8) (hp : 1 ≤ p.length) : (remU p s).length = min s.length (p.length - 1) := by
  unfold remU
  rw [List.length_drop, redU_len p s hp _ (Nat.le_refl _)]
  omega

/-! ### over Bools -/
/-- The text of bits. -/
def txt (l : List Bool) : List UInt8 := l.map fun b => if b then 49 else 48
theorem txt_len (l : List Bool) : (txt l).length = l.length := by simp [txt]
theorem txt_inj {a b : List Bool} (h : txt a = txt b) : a = b := by
  unfold txt at h
  refine (List.map_inj_right ?_).1 h
  intro x y hxy; cases x <;> cases y <;> simp_all
theorem txt_app (a b : List Bool) : txt (a ++ b) = txt a ++ txt b := by simp [txt]
theorem txt_take (a : List Bool) (k : Nat) : txt (a.take k) = (txt a).take k := by simp [txt, List.map_take]
theorem txt_drop (a : List Bool) (k : Nat) : txt (a.drop k) = (txt a).drop k := by simp [txt, List.map_drop]
theorem txt_bits (l : List Bool) : (txt l).all isBit = true := by
  simp [txt]; exact ⟨fun _ => by decide, fun _ => by decide⟩
theorem txt_of : ∀ {l : List UInt8}, l.all isBit = true → ∃ b, l = txt b
  | [], _ => ⟨[], rfl⟩
  | c :: l, h => by
    have h' : isBit c = true ∧ l.all isBit = true := by simpa using h
    obtain ⟨b, rfl⟩ := txt_of h'.2
    rcases isBit_cases h'.1 with rfl | rfl
    · exact ⟨false :: b, rfl⟩
    · exact ⟨true :: b, rfl⟩
theorem txt_bitsB (k : Nat) (l : List Bool) : bitsB k (txt l) = decide (l.length ≤ k) := by
  simp [bitsB, txt_bits, txt_len]
theorem txt_get (l : List Bool) (i : Nat) (h : i < l.length) : (txt l).getD i 0 = if l.getD i false then 49 else 48 := by
  simp [txt, List.getD_eq_getElem?_getD, h]

def xorl (a b : List Bool) : List Bool := List.zipWith (fun x y => x ^^ y) a b
theorem xorl_len (a b : List Bool) : (xorl a b).length = min a.length b.length := by simp [xorl]
theorem xrl_txt : ∀ (a b : List Bool), xrl (txt a) (txt b) = txt (xorl a b)
  | [], b => by simp [xrl, txt, xorl]
  | a :: l, [] => by simp [xrl, txt, xorl]
  | a :: l, b :: m => by
    have := xrl_txt l m
    unfold xrl txt xorl at this ⊢
    simp only [List.map_cons, List.zipWith_cons_cons]
    rw [this]
    cases a <;> cases b <;> rfl

/-- Noughts. -/
def zs (n : Nat) : List Bool := List.replicate n false
theorem zs_len (n : Nat) : (zs n).length = n := by simp [zs]
theorem zs_app (m n : Nat) : zs m ++ zs n = zs (m + n) := by simp [zs]
theorem zs_snoc (n : Nat) : zs n ++ [false] = zs (n + 1) := by rw [show [false] = zs 1 from rfl, zs_app]
theorem zs_succ (n : Nat) : zs (n + 1) = false :: zs n := by simp [zs, List.replicate_succ]
theorem txt_zs (n : Nat) : txt (zs n) = List.replicate n 48 := by simp [txt, zs]

theorem xorl_app {a b c d : List Bool} (h : a.length = b.length) : xorl (a ++ c) (b ++ d) = xorl a b ++ xorl c d := by
  unfold xorl; exact List.zipWith_append h
theorem xorl_comm : ∀ (a b : List Bool), xorl a b = xorl b a
  | [], b => by simp [xorl]
  | a :: l, [] => by simp [xorl]
  | a :: l, b :: m => by
    have := xorl_comm l m
    unfold xorl at this ⊢
    simp only [List.zipWith_cons_cons, this, Bool.xor_comm]
theorem xorl_self : ∀ (a : List Bool), xorl a a = zs a.length
  | [] => rfl
  | a :: l => by
    have := xorl_self l
    unfold xorl zs at this ⊢
    simp only [List.zipWith_cons_cons, this, List.length_cons, List.replicate_succ]
    cases a <;> rfl
theorem xorl_zs : ∀ (a : List Bool) (n : Nat), a.length = n → xorl a (zs n) = a
  | [], n, h => by subst h; rfl
  | a :: l, n, h => by
    subst h
    have := xorl_zs l l.length rfl
    rw [List.length_cons, zs_succ]
    unfold xorl at this ⊢
    simp only [List.zipWith_cons_cons, this]
    cases a <;> rfl
theorem zs_xorl (a : List Bool) (n : Nat) (h : a.length = n) : xorl (zs n) a = a := by rw [xorl_comm, xorl_zs a n h]
theorem xorl_four : ∀ (a b c d : List Bool), xorl (xorl a b) (xorl c d) = xorl (xorl a c) (xorl b d)
  | [], b, c, d => by simp [xorl]
  | a :: l, [], c, d => by simp [xorl]
  | a :: l, b :: m, [], d => by simp [xorl]
  | a :: l, b :: m, c :: n, [] => by simp [xorl]
  | a :: l, b :: m, c :: n, d :: o => by
    have := xorl_four l m n o
    unfold xorl at this ⊢
    simp only [List.zipWith_cons_cons, this]
    cases a <;> cases b <;> cases c <;> cases d <;> rfl
theorem xorl_map : ∀ (Q : List Bool) (x y : Bool), xorl (Q.map (x && ·)) (Q.map (y && ·)) = Q.map ((x ^^ y) && ·)
  | [], _, _ => rfl
  | q :: Q, x, y => by
    have := xorl_map Q x y
    unfold xorl at this ⊢
    simp only [List.map_cons, List.zipWith_cons_cons, this]
    cases q <;> cases x <;> cases y <;> rfl
theorem xorl_tail : ∀ (a b : List Bool), xorl a.tail b.tail = (xorl a b).tail
  | [], b => by simp [xorl]
  | a :: l, [] => by simp [xorl]
  | a :: l, b :: m => by simp [xorl]

/-- One more bit behind those of which r is the rest: the divisor is a 1 with Q behind it. -/
def stq (Q r : List Bool) (c : Bool) : List Bool := xorl (r.tail ++ [c]) (Q.map (r.headD false && ·))
/-- The rest, told bit by bit. -/
def remF (Q s : List Bool) : List Bool := s.foldl (stq Q) (zs Q.length)

theorem stq_len (Q r : List Bool) (c : Bool) (h1 : 1 ≤ Q.length) (h : r.length = Q.length) : (stq Q r c).length = Q.length := by
  simp [stq, xorl]; omega
theorem fold_len (Q : List Bool) (h1 : 1 ≤ Q.length) : ∀ (s r : List Bool), r.length = Q.length → (s.foldl (stq Q) r).length = Q.length
  | [], r, h => h
  | c :: s, r, h => by rw [List.foldl_cons]; exact fold_len Q h1 s _ (stq_len Q r c h1 h)
theorem remF_len (Q s : List Bool) (h1 : 1 ≤ Q.length) : (remF Q s).length = Q.length := fold_len Q h1 s _ (zs_len _)
theorem stq_false (Q r : List Bool) (c : Bool) (h1 : 1 ≤ Q.length) (h : r.length = Q.length) (hh : r.headD false = false) : stq Q r c = r.tail ++ [c] := by
  unfold stq
  rw [hh]
  have e : Q.map (false && ·) = zs Q.length := by simp [zs, List.map_const']
  rw [e]
  exact xorl_zs _ _ (by simp; omega)
theorem stq_true (Q r : List Bool) (c : Bool) (hh : r.headD false = true) : stq Q r c = xorl (r.tail ++ [c]) Q := by
  unfold stq
  rw [hh]
  congr 1
  simp
theorem stq_xor (Q r t : List Bool) (c d : Bool) (h1 : 1 ≤ Q.length) (hr : r.length = Q.length) (ht : t.length = Q.length) : stq Q (xorl r t) (c ^^ d) = xorl (stq Q r c) (stq Q t d) := by
  unfold stq
  rw [xorl_four, xorl_map, ← xorl_tail]
  have e1 : xorl (r.tail ++ [c]) (t.tail ++ [d]) = xorl r.tail t.tail ++ [c ^^ d] := by
    rw [xorl_app (by simp; omega)]; rfl
  rw [e1]
  congr 2
  match r, t, hr, ht with
  | [], _, hr, _ => simp at hr; omega
  | _ :: _, [], _, ht => simp at ht; omega
  | a :: r, b :: t, _, _ => rfl
theorem fold_xor (Q : List Bool) (h1 : 1 ≤ Q.length) : ∀ (s t r q : List Bool), s.length = t.length → r.length = Q.length → q.length = Q.length →
    (xorl s t).foldl (stq Q) (xorl r q) = xorl (s.foldl (stq Q) r) (t.foldl (stq Q) q)
  | [], [], r, q, _, _, _ => rfl
  | c :: s, [], r, q, h, _, _ => by simp at h
  | [], d :: t, r, q, h, _, _ => by simp at h
  | c :: s, d :: t, r, q, h, hr, hq => by
    have e : xorl (c :: s) (d :: t) = (c ^^ d) :: xorl s t := rfl
    rw [e, List.foldl_cons, List.foldl_cons, List.foldl_cons, stq_xor Q r q c d h1 hr hq]
    exact fold_xor Q h1 s t _ _ (by simpa using h) (stq_len Q r c h1 hr) (stq_len Q q d h1 hq)
theorem remF_xor (Q s t : List Bool) (h1 : 1 ≤ Q.length) (h : s.length = t.length) : remF Q (xorl s t) = xorl (remF Q s) (remF Q t) := by
  unfold remF
  rw [← fold_xor Q h1 s t _ _ h (zs_len _) (zs_len _), xorl_self, zs_len]
theorem remF_app (Q s t : List Bool) : remF Q (s ++ t) = t.foldl (stq Q) (remF Q s) := by unfold remF; rw [List.foldl_append]
theorem remF_snoc (Q s : List Bool) (c : Bool) : remF Q (s ++ [c]) = stq Q (remF Q s) c := by rw [remF_app]; rfl

/-- Bits as few as the rest has are their own rest. -/
theorem fold_short (Q : List Bool) (h1 : 1 ≤ Q.length) : ∀ (u : List Bool) (n : Nat) (v : List Bool), n + v.length = Q.length → u.length ≤ n → u.foldl (stq Q) (zs n ++ v) = zs (n - u.length) ++ v ++ u
  | [], n, v, h, _ => by simp
  | c :: u, n, v, h, hu => by
    obtain ⟨m, rfl⟩ : ∃ m, n = m + 1 := ⟨n - 1, by simp at hu; omega⟩
    rw [List.foldl_cons, stq_false Q _ c h1 (by simp [zs]; omega) (by simp [zs_succ])]
    have e : (zs (m + 1) ++ v).tail ++ [c] = zs m ++ (v ++ [c]) := by simp [zs_succ]
    rw [e, fold_short Q h1 u m (v ++ [c]) (by simp; omega) (by simp at hu; omega)]
    simp
theorem remF_short (Q u : List Bool) (h1 : 1 ≤ Q.length) (h : u.length ≤ Q.length) : remF Q u = zs (Q.length - u.length) ++ u := by
  have := fold_short Q h1 u Q.length [] (by simp) h
  simpa [remF] using this
theorem remF_zs (Q : List Bool) (h1 : 1 ≤ Q.length) : ∀ n, remF Q (zs n) = zs Q.length
  | 0 => rfl
  | n + 1 => by
    rw [← zs_snoc, remF_snoc, remF_zs Q h1 n, stq_false Q _ _ h1 (zs_len _) (by cases hq : Q.length <;> simp [zs, List.replicate_succ])]
    obtain ⟨m, hm⟩ : ∃ m, Q.length = m + 1 := ⟨Q.length - 1, by omega⟩
    rw [hm, zs_succ, List.tail_cons, zs_snoc, zs_succ]
/-- Noughts ahead change nothing. -/
theorem remF_ahead (Q s : List Bool) (h1 : 1 ≤ Q.length) (n : Nat) : remF Q (zs n ++ s) = remF Q s := by
  rw [remF_app, remF_zs Q h1]; rfl
theorem remF_behind (Q u : List Bool) (h1 : 1 ≤ Q.length) (h : u.length ≤ Q.length) (n : Nat) : remF Q (zs n ++ u) = zs (Q.length - u.length) ++ u := by
  rw [remF_ahead Q u h1, remF_short Q u h1 h]

/-- A rest that is none comes from none, for a divisor that ends with 1. -/
theorem stq_zero (Q r : List Bool) (h1 : 1 ≤ Q.length) (hr : r.length = Q.length) (hl : Q.getLast? = some true) (h : stq Q r false = zs Q.length) : r = zs Q.length := by
  match r, hr with
  | [], hr => simp at hr; omega
  | b :: r, hr =>
    cases b
    · rw [stq_false Q _ _ h1 hr rfl] at h
      obtain ⟨m, hm⟩ : ∃ m, Q.length = m + 1 := ⟨Q.length - 1, by omega⟩
      rw [hm] at h ⊢
      rw [List.tail_cons, ← zs_snoc] at h
      rw [zs_succ, (List.append_inj' h rfl).1]
    · rw [stq_true Q _ _ rfl, List.tail_cons] at h
      obtain ⟨Q', rfl⟩ : ∃ Q', Q = Q' ++ [true] := by
        rcases List.eq_nil_or_concat Q with rfl | ⟨Q', x, rfl⟩
        · simp at h1
        · simp at hl; exact ⟨Q', by simp [hl]⟩
      rw [xorl_app (by simpa using hr), List.length_append, ← zs_app] at h
      have := (List.append_inj' h (by simp [xorl, zs])).2
      simp [xorl, zs] at this
theorem remF_zero (Q s : List Bool) (h1 : 1 ≤ Q.length) (hl : Q.getLast? = some true) : ∀ n, remF Q (s ++ zs n) = zs Q.length → remF Q s = zs Q.length
  | 0, h => by simpa [zs] using h
  | n + 1, h => by
    rw [← zs_snoc, ← List.append_assoc, remF_snoc] at h
    exact remF_zero Q s h1 hl n (stq_zero Q _ h1 (remF_len Q _ h1) hl h)
theorem not_zs {l : List Bool} (h : true ∈ l) (n : Nat) : l ≠ zs n := by
  rintro rfl; simp [zs] at h
/-- One bit alone leaves something. -/
theorem remF_one (Q : List Bool) (h1 : 1 ≤ Q.length) (hl : Q.getLast? = some true) (i j : Nat) : remF Q (zs i ++ [true] ++ zs j) ≠ zs Q.length := by
  intro h
  have := remF_zero Q _ h1 hl j h
  rw [remF_behind Q [true] h1 (by simpa using h1)] at this
  exact not_zs (by simp) _ this
/-- Two bits side by side leave something, for a divisor of at least three bits. -/
theorem remF_two (Q : List Bool) (h1 : 2 ≤ Q.length) (hl : Q.getLast? = some true) (i j : Nat) : remF Q (zs i ++ [true, true] ++ zs j) ≠ zs Q.length := by
  intro h
  have := remF_zero Q _ (by omega) hl j h
  rw [remF_behind Q [true, true] (by omega) (by simpa using h1)] at this
  exact not_zs (by simp) _ this

/-! ### from bytes to Bools -/
/-- What is left from place i on, behind i steps, for a divisor of a 1 and Q. -/
def stD (Q d : List Bool) : List Bool := if d.headD false then xorl (d.tail.take Q.length) Q ++ d.tail.drop Q.length else d.tail
def itD (Q : List Bool) : Nat → List Bool → List Bool
  | 0, d => d
  | n + 1, d => stD Q (itD Q n d)
theorem stD_len (Q d : List Bool) (h : Q.length + 1 ≤ d.length) : (stD Q d).length = d.length - 1 := by
  unfold stD; split <;> simp [xorl] <;> omega
theorem itD_len (Q d : List Bool) : ∀ n, n + Q.length ≤ d.length → (itD Q n d).length = d.length - n
  | 0, _ => rfl
  | n + 1, h => by
    have ih := itD_len Q d n (by omega)
    unfold itD
    rw [stD_len _ _ (by omega), ih]; omega
theorem redU_txt (Q S : List Bool) : ∀ i, i + Q.length ≤ S.length → (redU (txt (true :: Q)) (txt S) i).drop i = txt (itD Q i S)
  | 0, _ => rfl
  | i + 1, h => by
    have ih := redU_txt Q S i (by omega)
    have hl := itD_len Q S i (by omega)
    unfold redU itD
    have hlen := redU_len (txt (true :: Q)) (txt S) (by simp [txt]) i (by simp [txt]; omega)
    rw [txt_len] at hlen
    generalize redU (txt (true :: Q)) (txt S) i = U at *
    match hD : itD Q i S, hl with
    | [], hl => simp at hl; omega
    | b :: D, hl =>
      rw [hD] at ih
      have hg : U.getD i 0 = if b then 49 else 48 := by
        have : U.getD i 0 = (U.drop i).getD 0 0 := by simp [List.getD_eq_getElem?_getD]
        rw [this, ih]; rfl
      have hdrop : U.drop (i + 1) = txt D := by
        rw [← List.drop_drop, ih]; rfl
      rw [hg]
      cases b
      · simp only [Bool.false_eq_true, if_false, stD, List.headD_cons, List.tail_cons]
        rw [if_neg (by decide)]
        exact hdrop
      · simp only [if_true, stD, List.headD_cons, List.tail_cons]
        unfold mixU
        have e1 : ((U.drop i).take (txt (true :: Q)).length) = txt (true :: D.take Q.length) := by
          rw [ih, txt_len, List.length_cons]; simp [txt, List.map_take]
        have e2 : U.drop (i + (txt (true :: Q)).length) = txt (D.drop Q.length) := by
          rw [← List.drop_drop, ih, txt_len, List.length_cons]; simp [txt, List.map_drop]
        rw [e1, e2, xrl_txt]
        have e3 : xorl (true :: D.take Q.length) (true :: Q) = false :: xorl (D.take Q.length) Q := rfl
        rw [e3, List.append_assoc, ← txt_app]
        have e4 : (U.take i).length = i := by rw [List.length_take]; omega
        rw [List.drop_append, e4, List.drop_eq_nil_of_le (by omega)]
        simp [txt]
theorem itD_step (Q : List Bool) (n : Nat) (d : List Bool) : itD Q (n + 1) d = itD Q n (stD Q d) := by
  induction n with
  | zero => rfl
  | succ n ih => rw [itD, ih]; rfl
theorem itD_fold (Q : List Bool) (h1 : 1 ≤ Q.length) : ∀ (rest r : List Bool), r.length = Q.length → itD Q rest.length (r ++ rest) = rest.foldl (stq Q) r
  | [], r, h => by simp [itD]
  | c :: rest, r, h => by
    rw [List.length_cons, itD_step, List.foldl_cons]
    have e : stD Q (r ++ c :: rest) = stq Q r c ++ rest := by
      match r, h with
      | [], h => simp at h; omega
      | b :: r, h =>
        cases b
        · rw [stq_false Q _ c h1 h rfl]; simp [stD]
        · rw [stq_true Q _ c rfl]
          have e1 : (r ++ c :: rest).take Q.length = r ++ [c] := by
            rw [show r ++ c :: rest = (r ++ [c]) ++ rest from by simp]
            rw [List.take_left']; simpa using h
          have e2 : (r ++ c :: rest).drop Q.length = rest := by
            rw [show r ++ c :: rest = (r ++ [c]) ++ rest from by simp]
            rw [List.drop_left']; simpa using h
          simp only [stD, List.cons_append, List.headD_cons, List.tail_cons, if_true, e1, e2]
    rw [e, itD_fold Q h1 rest _ (stq_len Q r c h1 h)]
/-- The rest, of bits that are enough. -/
theorem remU_txt (Q S : List Bool) (h1 : 1 ≤ Q.length) (h : Q.length ≤ S.length) : remU (txt (true :: Q)) (txt S) = txt (remF Q S) := by
  unfold remU
  rw [txt_len, txt_len, List.length_cons, Nat.add_sub_cancel, redU_txt Q S _ (by omega)]
  congr 1
  have e := itD_fold Q h1 (S.drop Q.length) (S.take Q.length) (by simp; omega)
  rw [List.take_append_drop, List.length_drop] at e
  rw [e]
  conv => rhs; rw [← List.take_append_drop Q.length S, remF_app, remF_short Q _ h1 (by simp; omega)]
  congr 1
  rw [List.length_take, Nat.min_eq_left h, Nat.sub_self]; rfl
/-- Too few bits are their own rest. -/
theorem remU_short (p s : List UInt8) (h : s.length ≤ p.length - 1) : remU p s = s := by
  unfold remU
  rw [Nat.sub_eq_zero_of_le h]; rfl
end Go.Proofs.YtndpbhmokobbpaaGreatDoor
