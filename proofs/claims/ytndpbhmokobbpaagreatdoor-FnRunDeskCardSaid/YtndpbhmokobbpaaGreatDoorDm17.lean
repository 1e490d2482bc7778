/-
  The plain mathematics of escaped and of pointed bytes: lists of numbers, no program is named here. No condition.
-/

namespace Go.Proofs.YtndpbhmokobbpaaGreatDoor

def isByte (b : Int) : Bool := decide (0 ≤ b) && decide (b ≤ 255)
/-- At most k bytes. -/
def bytesB (k : Nat) (l : List Int) : Bool := decide (l.length ≤ k) && l.all isByte

def escB (b : Int) : List Int := if b = 192 then [219, 220] else if b = 219 then [219, 221] else [b]
def escs (l : List Int) : List Int := (l.map escB).flatten
theorem escs_nil : escs [] = [] := rfl
theorem escs_cons (b : Int) (l : List Int) : escs (b :: l) = escB b ++ escs l := rfl
theorem escs_snoc (l : List Int) (b : Int) : escs (l ++ [b]) = escs l ++ escB b := by simp [escs]
theorem escB_len (b : Int) : 1 ≤ (escB b).length ∧ (escB b).length ≤ 2 := by
  unfold escB
  split
  · simp
  · split <;> simp
theorem escs_len : ∀ l : List Int, l.length ≤ (escs l).length ∧ (escs l).length ≤ 2 * l.length
  | [] => by simp [escs]
  | b :: l => by
    have h1 := escB_len b
    have h2 := escs_len l
    rw [escs_cons, List.length_append, List.length_cons]; omega

/-- Unescaping, e: an escape stands ahead. -/
def une : Bool → List Int → Option (List Int)
  | e, [] => if e then none else some []
  | true, b :: l => if b = 220 then (une false l).map (192 :: ·) else if b = 221 then (une false l).map (219 :: ·) else none
  | false, b :: l => if b = 192 then none else if b = 219 then une true l else (une false l).map (b :: ·)

theorem une_escs : ∀ l : List Int, une false (escs l) = some l
  | [] => by simp [escs, une]
  | b :: l => by
    rw [escs_cons]
    unfold escB
    by_cases h1 : b = 192
    · simp [h1, une, une_escs l]
    · by_cases h2 : b = 219
      · simp [h2, une, une_escs l]
      · simp [h1, h2, une, une_escs l]
theorem escs_une : ∀ (l o : List Int), (une false l = some o → escs o = l) ∧ (une true l = some o → escs o = 219 :: l)
  | [], o => by simp [une]; rintro rfl; rfl
  | b :: l, o => by
    constructor
    · unfold une
      by_cases h1 : b = 192
      · simp [h1]
      · by_cases h2 : b = 219
        · simp only [h2, if_true]
          intro h
          have := (escs_une l o).2 (by simpa using h)
          simpa using this
        · simp only [h1, h2, if_false]
          intro h
          obtain ⟨o', ho, rfl⟩ := Option.map_eq_some_iff.1 h
          rw [escs_cons, (escs_une l o').1 ho]; simp [escB, h1, h2]
    · unfold une
      by_cases h1 : b = 220
      · simp only [h1, if_true]
        intro h
        obtain ⟨o', ho, rfl⟩ := Option.map_eq_some_iff.1 h
        rw [escs_cons, (escs_une l o').1 ho]; simp [escB]
      · by_cases h2 : b = 221
        · simp only [h2, if_true]
          intro h
          have h' : (une false l).map (219 :: ·) = some o := by simpa using h
          obtain ⟨o', ho, rfl⟩ := Option.map_eq_some_iff.1 h'
          rw [escs_cons, (escs_une l o').1 ho]; simp [escB]
        · simp [h1, h2]
theorem escB_no (b : Int) : ∀ x ∈ escB b, x ≠ 192 := by
  unfold escB
  intro x hx
  by_cases h1 : b = 192
  · simp [h1] at hx; omega
  · by_cases h2 : b = 219
    · simp [h2] at hx; omega
    · simp [h1, h2] at hx; omega
theorem escs_no : ∀ (l : List Int), ∀ x ∈ escs l, x ≠ 192
  | [], x, h => by simp [escs] at h
  | b :: l, x, h => by
    rw [escs_cons, List.mem_append] at h
    rcases h with h | h
    · exact escB_no b x h
    · exact escs_no l x h
theorem une_bytes : ∀ (l o : List Int), (une false l = some o → o.all isByte = l.all isByte) ∧ (une true l = some o → o.all isByte = l.all isByte)
  | [], o => by simp [une]; rintro rfl; simp
  | b :: l, o => by
    have i0 := fun o => une_bytes l o
    constructor
    · unfold une
      by_cases h1 : b = 192
      · simp [h1]
      · by_cases h2 : b = 219
        · simp only [h2, if_true]
          intro h
          rw [List.all_cons, show isByte 219 = true from by decide, (i0 o).2 (by simpa using h)]; rfl
        · simp only [h1, h2, if_false]
          intro h
          obtain ⟨o', ho, rfl⟩ := Option.map_eq_some_iff.1 h
          rw [List.all_cons, List.all_cons, (i0 o').1 ho]
    · unfold une
      by_cases h1 : b = 220
      · simp only [h1, if_true]
        intro h
        obtain ⟨o', ho, rfl⟩ := Option.map_eq_some_iff.1 h
        rw [List.all_cons, List.all_cons, (i0 o').1 ho]; rfl
      · by_cases h2 : b = 221
        · simp only [h2, if_true]
          intro h
          have h' : (une false l).map (219 :: ·) = some o := by simpa using h
          obtain ⟨o', ho, rfl⟩ := Option.map_eq_some_iff.1 h'
          rw [List.all_cons, List.all_cons, (i0 o').1 ho]; rfl
        · simp [h1, h2]

/-! ### Pointed bytes -/
/-- What stands ahead of the last group, and the last group. -/
def pstp (st : List Int × List Int) (b : Int) : List Int × List Int :=
  if b = 0 then (st.1 ++ [(st.2.length : Int) + 1] ++ st.2, []) else (st.1, st.2 ++ [b])
def pst (l : List Int) : List Int × List Int := l.foldl pstp ([], [])
def pnt (l : List Int) : List Int := (pst l).1 ++ [((pst l).2.length : Int) + 1] ++ (pst l).2
theorem pst_snoc (l : List Int) (b : Int) : pst (l ++ [b]) = pstp (pst l) b := by
  unfold pst; rw [List.foldl_append]; rfl
theorem pst_len : ∀ (l : List Int) (st : List Int × List Int), (l.foldl pstp st).1.length + (l.foldl pstp st).2.length = st.1.length + st.2.length + l.length
  | [], st => by simp
  | b :: l, st => by
    rw [List.foldl_cons, pst_len l]
    unfold pstp
    split <;> simp <;> omega
theorem pnt_len (l : List Int) : (pnt l).length = l.length + 1 := by
  have := pst_len l ([], [])
  unfold pnt pst
  simp at this ⊢; omega

/-- Unpointing: r more of a group, f: nothing is ahead. -/
def unp (f : Bool) : Nat → List Int → Option (List Int)
  | 0, [] => some []
  | _ + 1, [] => none
  | 0, b :: l => if b < 1 then none else (unp false (b - 1).toNat l).map fun o => if f then o else 0 :: o
  | r + 1, b :: l => if b < 1 then none else (unp false r l).map (b :: ·)

/-- Pointing from behind. -/
def pntR (g : List Int) : List Int → List Int
  | [] => ((g.length : Int) + 1) :: g
  | b :: l => if b = 0 then ((g.length : Int) + 1) :: g ++ pntR [] l else pntR (g ++ [b]) l
theorem foldl_pst : ∀ (l : List Int) (d g : List Int), (l.foldl pstp (d, g)).1 ++ [((l.foldl pstp (d, g)).2.length : Int) + 1] ++ (l.foldl pstp (d, g)).2 = d ++ pntR g l
  | [], d, g => by simp [pntR]
  | b :: l, d, g => by
    rw [List.foldl_cons]
    by_cases h : b = 0
    · have e : pstp (d, g) b = (d ++ [(g.length : Int) + 1] ++ g, []) := by simp [pstp, h]
      rw [e, foldl_pst l, pntR]; simp [h]
    · have e : pstp (d, g) b = (d, g ++ [b]) := by simp [pstp, h]
      rw [e, foldl_pst l, pntR]; simp [h]
theorem pnt_eq (l : List Int) : pnt l = pntR [] l := by
  have := foldl_pst l [] []
  simpa [pnt, pst] using this

theorem unp_group (f : Bool) : ∀ (g : List Int) (rest : List Int), (∀ x ∈ g, 1 ≤ x) → unp f g.length (g ++ rest) = (unp (f && g.isEmpty) 0 rest).map (g ++ ·)
  | [], rest, _ => by simp
  | b :: g, rest, h => by
    have hb : 1 ≤ b := h b (by simp)
    have ih := unp_group false g rest (fun x hx => h x (by simp [hx]))
    simp only [List.length_cons, List.cons_append, unp]
    rw [if_neg (by omega), ih]
    simp; cases unp false 0 rest <;> simp
theorem unp_pntR : ∀ (l g : List Int) (f : Bool), (∀ x ∈ g, 1 ≤ x) → (∀ x ∈ l, 0 ≤ x) → unp f 0 (pntR g l) = some (if f then g ++ l else 0 :: (g ++ l))
  | [], g, f, hg, _ => by
    have hu := unp_group false g [] hg
    simp only [pntR, unp]
    rw [if_neg (by omega)]
    have e : (((g.length : Int) + 1) - 1).toNat = g.length := by omega
    rw [e]
    have : g ++ [] = g := by simp
    rw [this] at hu
    rw [hu]; cases f <;> simp [unp]
  | b :: l, g, f, hg, hl => by
    have hl' : ∀ x ∈ l, 0 ≤ x := fun x hx => hl x (by simp [hx])
    have hb := hl b (by simp)
    by_cases h : b = 0
    · have ih := unp_pntR l [] false (by simp) hl'
      have hu := unp_group false g (pntR [] l) hg
      rw [pntR, if_pos h, List.cons_append, unp, if_neg (by omega)]
      have e : (((g.length : Int) + 1) - 1).toNat = g.length := by omega
      rw [e, hu, Bool.false_and, ih]; cases f <;> simp [h]
    · rw [pntR, if_neg h, unp_pntR l (g ++ [b]) f (by simp; intro x hx; rcases hx with hx | hx; exact hg x hx; omega) hl']
      cases f <;> simp
theorem unp_pnt (l : List Int) (h : ∀ x ∈ l, 0 ≤ x) : unp true 0 (pnt l) = some l := by
  rw [pnt_eq, unp_pntR l [] true (by simp) h]; simp

/-- What unpointing takes is pointed. -/
theorem pntR_append (g : List Int) : ∀ (h l : List Int), (∀ x ∈ h, 1 ≤ x) → pntR g (h ++ l) = pntR (g ++ h) l
  | [], l, _ => by simp
  | b :: h, l, hh => by
    have : 1 ≤ b := hh b (by simp)
    rw [List.cons_append, pntR, if_neg (by omega), pntR_append (g ++ [b]) h l (fun x hx => hh x (by simp [hx]))]; simp
theorem unp_split (f : Bool) : ∀ (r : Nat) (l o : List Int), unp f r l = some o →
    ∃ g rest o', l = g ++ rest ∧ g.length = r ∧ (∀ x ∈ g, 1 ≤ x) ∧ unp (f && g.isEmpty) 0 rest = some o' ∧ o = g ++ o'
  | 0, l, o, h => ⟨[], l, o, by simp, rfl, by simp, by simpa using h, by simp⟩
  | r + 1, [], o, h => by simp [unp] at h
  | r + 1, b :: l, o, h => by
    rw [unp] at h
    by_cases hb : b < 1
    · simp [hb] at h
    · rw [if_neg hb] at h
      obtain ⟨o1, ho, rfl⟩ := Option.map_eq_some_iff.1 h
      obtain ⟨g, rest, o', e1, e2, e3, e4, e5⟩ := unp_split false r l o1 ho
      refine ⟨b :: g, rest, o', by simp [e1], by simp [e2], ?_, by simpa using e4, by simp [e5]⟩
      intro x hx
      rcases List.mem_cons.1 hx with rfl | hx
      · omega
      · exact e3 x hx
theorem pnt_unp_aux : ∀ (n : Nat) (l o : List Int), l.length ≤ n → l ≠ [] → unp true 0 l = some o → pntR [] o = l
  | 0, [], _, _, hne, _ => absurd rfl hne
  | n + 1, [], _, _, hne, _ => absurd rfl hne
  | n + 1, b :: l, o, hn, _, h => by
    rw [unp] at h
    by_cases hb : b < 1
    · simp [hb] at h
    · rw [if_neg hb] at h
      obtain ⟨o1, ho, e⟩ := Option.map_eq_some_iff.1 h
      simp at e; subst e
      obtain ⟨g, rest, o', e1, e2, e3, e4, e5⟩ := unp_split false _ _ _ ho
      subst e1 e5
      rw [pntR_append [] g o' e3, List.nil_append]
      have hbg : b = (g.length : Int) + 1 := by omega
      match rest, e4 with
      | [], e4 =>
        simp [unp] at e4; subst e4
        simp [pntR, hbg]
      | c :: rest, e4 =>
        have e6 : unp false 0 (c :: rest) = some o' := by simpa using e4
        rw [unp] at e6
        by_cases hc : c < 1
        · simp [hc] at e6
        · rw [if_neg hc] at e6
          obtain ⟨o2, ho2, e7⟩ := Option.map_eq_some_iff.1 e6
          simp at e7; subst e7
          have e8 : unp true 0 (c :: rest) = some o2 := by rw [unp, if_neg hc, ho2]; simp
          have := pnt_unp_aux n (c :: rest) o2 (by simp at hn ⊢; omega) (by simp) e8
          rw [pntR, if_pos rfl, this]; simp [hbg]
theorem pnt_unp (l o : List Int) (hne : l ≠ []) (h : unp true 0 l = some o) : pnt o = l := by
  rw [pnt_eq]; exact pnt_unp_aux l.length l o (Nat.le_refl _) hne h
theorem pntR_pos : ∀ (l g : List Int), (∀ x ∈ g, 1 ≤ x) → (∀ x ∈ l, 0 ≤ x) → ∀ x ∈ pntR g l, 1 ≤ x
  | [], g, hg, _, x, h => by
    rw [pntR] at h
    rcases List.mem_cons.1 h with h | h
    · omega
    · exact hg x h
  | b :: l, g, hg, hl, x, h => by
    have hl' : ∀ x ∈ l, 0 ≤ x := fun x hx => hl x (by simp [hx])
    have hb := hl b (by simp)
    rw [pntR] at h
    by_cases h0 : b = 0
    · rw [if_pos h0, List.cons_append] at h
      rcases List.mem_cons.1 h with h | h
      · omega
      · rcases List.mem_append.1 h with h | h
        · exact hg x h
        · exact pntR_pos l [] (by simp) hl' x h
    · rw [if_neg h0] at h
      exact pntR_pos l (g ++ [b]) (by intro y hy; rcases List.mem_append.1 hy with hy | hy; exact hg y hy; simp at hy; omega) hl' x h
theorem pnt_pos (l : List Int) (hl : ∀ x ∈ l, 0 ≤ x) : ∀ x ∈ pnt l, 1 ≤ x := by
  rw [pnt_eq]; exact pntR_pos l [] (by simp) hl
/-- One step of unescaping: what stands, and whether an escape stands ahead. -/
def ust (st : List Int × Bool) (b : Int) : Option (List Int × Bool) :=
  if st.2 = true then (if b = 220 then some (st.1 ++ [192], false) else if b = 221 then some (st.1 ++ [219], false) else none)
  else if b = 192 then none else if b = 219 then some (st.1, true) else some (st.1 ++ [b], false)
def ufo : List Int → List Int × Bool → Option (List Int × Bool)
  | [], st => some st
  | b :: l, st => match ust st b with | none => none | some st' => ufo l st'
theorem ufo_app : ∀ (a b : List Int) (st : List Int × Bool), ufo (a ++ b) st = match ufo a st with | none => none | some st' => ufo b st'
  | [], b, st => by simp [ufo]
  | c :: a, b, st => by
    rw [List.cons_append, ufo, ufo]
    cases ust st c with
    | none => rfl
    | some st' => exact ufo_app a b st'
theorem ufo_snoc (a : List Int) (c : Int) (st st' : List Int × Bool) (h : ufo a st = some st') : ufo (a ++ [c]) st = ust st' c := by
  rw [ufo_app, h]
  show ufo [c] st' = _
  rw [ufo]
  cases ust st' c <;> rfl
theorem ufo_une : ∀ (l : List Int) (o : List Int) (e : Bool), (match ufo l (o, e) with | none => none | some st => if st.2 = true then none else some st.1) = (une e l).map (o ++ ·)
  | [], o, e => by cases e <;> simp [ufo, une]
  | b :: l, o, true => by
    unfold ufo ust une
    by_cases h1 : b = 220
    · simp only [h1, if_true]
      rw [ufo_une l]
      cases une false l <;> simp
    · by_cases h2 : b = 221
      · simp only [h2, if_true]
        rw [if_neg (by omega), if_neg (by omega)]
        simp only []
        rw [ufo_une l]
        cases une false l <;> simp
      · simp [h1, h2]
  | b :: l, o, false => by
    unfold ufo ust une
    by_cases h1 : b = 192
    · simp [h1]
    · by_cases h2 : b = 219
      · simp only [h2]
        rw [if_neg (by simp), if_neg (by omega), if_pos trivial, if_neg (by omega), if_pos trivial]
        exact ufo_une l o true
      · simp only [h1, h2, if_false]
        rw [if_neg (by simp)]
        simp only []
        rw [ufo_une l]
        cases une false l <;> simp
theorem une_end {l o : List Int} {e : Bool} (h : ufo l ([], false) = some (o, e)) : une false l = if e = true then none else some o := by
  have := ufo_une l [] false
  rw [h] at this
  simp only [] at this
  rw [this]
  cases une false l <;> simp
theorem une_none {a b : List Int} (h : ufo a ([], false) = none) : une false (a ++ b) = none := by
  have := ufo_une (a ++ b) [] false
  rw [ufo_app, h] at this
  simp only [] at this
  cases hu : une false (a ++ b) with
  | none => rfl
  | some o => rw [hu] at this; simp at this
/-- What UnescapeBytes gives. -/
def uneR (l : List Int) : Option (List Int) :=
  if bytesB 33 l = true ∧ l.getLast? = some 192 then (match une false l.dropLast with | none => none | some o => if o.length ≤ 16 then some o else none) else none
end Go.Proofs.YtndpbhmokobbpaaGreatDoor
