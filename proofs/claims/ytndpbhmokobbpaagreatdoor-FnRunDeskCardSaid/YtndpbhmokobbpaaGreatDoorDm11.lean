/-
  What the program's desk wants of the library's variables and its own two tables, and the contracts of the library's functions over it. Conditions: these, and the lengths that are typed.
-/
import Derived.Test.YtndpbhmokobbpaaGreatDoorShelf
import Derived.Test.YtndpbhmokobbpaaGreatDoorDm09
import Derived.Test.YtndpbhmokobbpaaGreatDoorDm10
import Derived.Lib.SmallJoins
import Derived.Lib.Join
namespace Go.Proofs.YtndpbhmokobbpaaGreatDoor
open Go.RowKit
set_option linter.unusedVariables false

theorem gTab : Tryz.prog.globalNamed "internal/strconv.uint64pow10" = some 7 := by kernel_rfl
theorem gSyn : Tryz.prog.globalNamed "strconv.ErrSyntax" = some 5 := by kernel_rfl
theorem gRng : Tryz.prog.globalNamed "strconv.ErrRange" = some 6 := by kernel_rfl
theorem varK_below {P : Program} {B g : Nat} {W W' : World} {n : String} {cs : Array Value} (h : Below B W W') (hg : P.globalNamed n = some g) (hgB : g < B) (hv : W.var? P n = some cs) : W'.var? P n = some cs := by
  unfold World.var? at hv ⊢
  simp only [hg, Option.bind_some] at hv ⊢
  rw [h.block g hgB]
  exact hv
/-- What the library's variables and the two tables hold. -/
structure Dk (W : World) : Prop where
  lax : ∃ m, W.cell? ⟨2, 0, none⟩ = some (.int .i64 m)
  tab : Lib.TabIs Tryz.prog W "internal/strconv.uint64pow10" .u64 Lib.pow10Tab
  syn : ∃ tp p, W.var? Tryz.prog "strconv.ErrSyntax" = some #[.iface tp p]
  rng : ∃ tp p, W.var? Tryz.prog "strconv.ErrRange" = some #[.iface tp p]
  tabs : Tabs W
  sz : 10 ≤ W.heap.size
theorem Tabs.belowK {w w' : World} (h : Tabs w) (hb : Below w.heap.size w w') : Tabs w' :=
  ⟨(hb.cell (p := ⟨0, 0, none⟩) (show 0 < w.heap.size from Nat.lt_trans Nat.zero_lt_one h.sz)).trans h.a0, (hb.cell (p := ⟨0, 1, none⟩) (show 0 < w.heap.size from Nat.lt_trans Nat.zero_lt_one h.sz)).trans h.a1, (hb.cell (p := ⟨0, 2, none⟩) (show 0 < w.heap.size from Nat.lt_trans Nat.zero_lt_one h.sz)).trans h.a2, (hb.cell (p := ⟨0, 3, none⟩) (show 0 < w.heap.size from Nat.lt_trans Nat.zero_lt_one h.sz)).trans h.a3,
    (hb.cell (p := ⟨1, 0, none⟩) h.sz).trans h.b0, (hb.cell (p := ⟨1, 1, none⟩) h.sz).trans h.b1, (hb.cell (p := ⟨1, 2, none⟩) h.sz).trans h.b2, Nat.lt_of_lt_of_le h.sz hb.size⟩
theorem Dk.below {W W' : World} (h : Dk W) (hb : Below W.heap.size W W') : Dk W' := by
  have hs := h.sz
  obtain ⟨m, hm⟩ := h.lax
  obtain ⟨t1, p1, e1⟩ := h.syn
  obtain ⟨t2, p2, e2⟩ := h.rng
  exact ⟨⟨m, (hb.cell (p := ⟨2, 0, none⟩) (by show 2 < W.heap.size; omega)).trans hm⟩, varK_below hb gTab (by omega) h.tab, ⟨t1, p1, varK_below hb gSyn (by omega) e1⟩, ⟨t2, p2, varK_below hb gRng (by omega) e2⟩, h.tabs.belowK hb, Nat.le_trans hs hb.size⟩
theorem Dk.drewN {W : World} (h : Dk W) (n : Nat) : Dk (W.drewN n) := h.below (below_drewN (Below.refl _ _) n)
theorem grow_below (w : World) (k : Nat) (os : Array Obj) : Below w.heap.size w (Sort.grow (w.drewN k) os) := by
  have h1 : Below w.heap.size w (w.drewN k) := below_drewN (Below.refl _ _) k
  refine h1.trans ⟨rfl, rfl, rfl, ?_, fun j hj => ?_⟩
  · simp [Sort.grow]
  · simp only [Sort.grow]
    rw [Array.getElem?_append_left (by exact hj)]

/-- strings.Split at one byte. -/
theorem spl_any (c : UInt8) (s : ByteArray) (w : World) (hs : s.size ≤ 10000000) (h : Dk w) :
    Calls Tryz.prog 38 #[.string s, .string ⟨#[c]⟩] w (SptPost (ptT c s) w) := by
  obtain ⟨m, hm⟩ := h.lax
  have hcon := Any.strings_Split { Tryz.laysSplit with } Tryz.laysSplit.i9 s ⟨#[c]⟩ m w (by omega) hm (Nat.le_refl 1)
  change Calls Tryz.prog 38 _ _ _ at hcon
  have hl : Lib.countB s ⟨#[c]⟩ + 1 = (ptT c s).length := by rw [split_len]; unfold ptT; rw [List.length_map]
  rw [ptT_split, hl] at hcon
  refine hcon.mono fun e w' ⟨h1, h2⟩ => ?_
  subst h2
  refine ⟨_, h1, ?_, (Below.refl _ _).alloc (Nat.le_refl _) _⟩
  have hpl := ptT_len c s
  have hz : (strv (ptT c s)).length = (ptT c s).length := strv_len _
  exact ⟨by rw [hz, Nat.mul_one], .inr ⟨w.heap.size, (ptT c s).length, (strv (ptT c s)).toArray, rfl, Nat.le_refl _, heap_alloc_new w _, Nat.le_refl _, by unfold maxLen; omega, by simp [hz], by simp only [Nat.mul_one]; rw [List.take_of_length_le (by simp [hz])]⟩⟩
/-- strconv.Itoa. -/
theorem ito_any (n : Int) (h0 : -9223372036854775808 ≤ n) (h1 : n ≤ 9223372036854775807) (w : World) (h : Dk w) :
    Calls Tryz.prog 67 #[.int .i64 n] w fun e w' => e = .returned (.string (mkT (Lib.itoa n))) ∧ Below w.heap.size w w' := by
  have hcon := Any.strconv_Itoa Tryz.laysItoa n h0 h1 w h.tab
  change Calls Tryz.prog 67 _ _ _ at hcon
  exact hcon.mono fun e w' ⟨h1, k, os, h2⟩ => ⟨h1, h2 ▸ grow_below w k os⟩
/-- strconv.Atoi. -/
theorem ato_any (s : ByteArray) (hs : s.size ≤ 10000000) (w : World) (h : Dk w) :
    (∃ v, Lib.atoiAll s.data.toList = .ok v ∧ Calls Tryz.prog 70 #[.string s] w fun e w' => e = .returned (.tuple #[.int .i64 v, .nilIface]) ∧ Below w.heap.size w w') ∨
    ((∀ v, Lib.atoiAll s.data.toList ≠ .ok v) ∧ Calls Tryz.prog 70 #[.string s] w fun e w' => ∃ x T V, e = .returned (.tuple #[.int .i64 x, .iface T V]) ∧ Below w.heap.size w w') := by
  obtain ⟨t1, p1, e1⟩ := h.syn
  obtain ⟨t2, p2, e2⟩ := h.rng
  cases ha : Lib.atoiAll s.data.toList with
  | ok v =>
    refine .inl ⟨v, rfl, ?_⟩
    have hcon := Any.strconv_Atoi_ok Tryz.laysAtoi s (by omega) v ha w
    change Calls Tryz.prog 70 _ _ _ at hcon
    refine hcon.mono fun e w' ⟨h1, h2⟩ => ⟨h1, ?_⟩
    rcases h2 with rfl | ⟨t, rfl⟩
    · exact Below.refl _ _
    · exact Lib.bytesWorld_below _ _ _
  | _ =>
    refine .inr ⟨fun v e => (by cases e), ?_⟩
    first
    | (have hcon := Any.strconv_Atoi_syntax_var Tryz.laysAtoi s (by omega) ha t1 p1 w e1
       change Calls Tryz.prog 70 _ _ _ at hcon
       exact hcon.mono fun e w' ⟨N, h1, _, _, h2⟩ => ⟨_, _, _, h1, h2⟩)
    | (have hcon := Any.strconv_Atoi_range_var Tryz.laysAtoi s (by omega) ha t2 p2 w e2
       change Calls Tryz.prog 70 _ _ _ at hcon
       exact hcon.mono fun e w' ⟨N, h1, _, _, h2⟩ => ⟨_, _, _, h1, h2⟩)
theorem join_ltx : ∀ (l : List Int), Lib.join (l.map fun x => Lib.decDigits x.toNat) [44] = ltx l
  | [] => rfl
  | [x] => by rw [List.map_cons, List.map_nil, Lib.join_one]; rfl
  | x :: y :: l => by
    have ih := join_ltx (y :: l)
    rw [List.map_cons, Lib.join_cons] at ih ⊢
    rw [List.map_cons]
    show Lib.decDigits x.toNat ++ Lib.joinTail [44] (Lib.decDigits y.toNat :: l.map fun x => Lib.decDigits x.toNat) = Lib.decDigits x.toNat ++ 44 :: ltx (y :: l)
    rw [← ih]
    rfl
/-- strings.Join at a comma. -/
theorem joi_any (xs : List ByteArray) (v : Value) (B : Nat) (w : World) (h : OwnT w B v xs) (hn : xs.length ≤ 1000) (hl : (Lib.join (xs.map (·.data.toList)) [44]).length ≤ 10000000) :
    Calls Tryz.prog 68 #[v, .string ⟨#[44]⟩] w fun e w' => e = .returned (.string (mkT (Lib.join (xs.map (·.data.toList)) [44]))) ∧ Below w.heap.size w w' := by
  rcases h.2 with ⟨hv, h0⟩ | ⟨g, cap, cur, hv, hB, hg, hnc, hm, _⟩
  · have hx : xs = [] := List.eq_nil_of_length_eq_zero h0
    subst hx
    rw [hv]
    have hcon := Any.strings_Join_none Tryz.laysJoin Tryz.joinExtra none 0 ⟨#[44]⟩ w
    change Calls Tryz.prog 68 _ _ _ at hcon
    exact hcon.mono fun e w' ⟨h1, h2⟩ => ⟨h1, h2 ▸ Below.refl _ _⟩
  · subst hv
    have hcon := Any.strings_Join Tryz.laysJoin Tryz.joinExtra g 0 cap xs ⟨#[44]⟩ w (fun j x hx => by
        have hat := OwnS.at_ h
        have hj : j < xs.length := (List.getElem?_eq_some_iff.1 hx).1
        have := hat.2 j hj
        rw [this]
        rw [List.getElem?_eq_getElem hj] at hx
        injection hx with hx
        simp [List.getD_eq_getElem?_getD, List.getElem?_eq_getElem hj, hx]) (Array.getElem?_eq_some_iff.1 hg).1 (by omega) hnc (by exact Nat.le_trans hl (by omega))
    change Calls Tryz.prog 68 _ _ _ at hcon
    exact hcon
end Go.Proofs.YtndpbhmokobbpaaGreatDoor
