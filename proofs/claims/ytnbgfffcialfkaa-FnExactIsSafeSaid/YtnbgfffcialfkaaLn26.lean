/-
  The memory of the model's search: the plan, the row of what was seen, the list. No condition.
-/
import Derived.Test.YtnbgfffcialfkaaLn21
import Derived.Test.YtnbgfffcialfkaaLn23
import Derived.Test.YtnbgfffcialfkaaLn25
import Derived.Deep.DeepCutAuto
import Derived.Deep.RegionHeld3
import Derived.OwnWalk
set_option linter.unusedSimpArgs false
set_option linter.unusedVariables false
namespace Go.Proofs.Ytnbgfffcialfkaa
open Go.RowKit
set_option linter.unusedVariables false

theorem infoBk : (Try.prog.info? 4).map (fun i => (i.zero, i.size, i.bytes)) = some (some (.bool false), 1, 1) := by kernel_rfl
theorem infoLk : (Try.prog.info? 35).map (fun i => (i.zero, i.size, i.bytes)) = some (some (.agg #[.int .i64 0, .int .i64 0, .int .i64 0, .int .i64 0, .int .i64 0, .int .i64 0]), 6, 48) := by kernel_rfl
theorem info_partsK {i : Option TypeInfo} {z : Option Value} {s b : Nat} (h : i.map (fun i => (i.zero, i.size, i.bytes)) = some (z, s, b)) : ∃ i0, i = some i0 ∧ i0.zero = z ∧ i0.size = s ∧ i0.bytes = b := by
  cases i with
  | none => simp at h
  | some i0 =>
    simp at h
    exact ⟨i0, rfl, h.1, h.2.1, h.2.2⟩
/-- N answers. -/
def blsN (N : Nat) (f : Nat → Bool) : List Value := (List.range N).map fun j => .bool (f j)
theorem blsN_len (N : Nat) (f : Nat → Bool) : (blsN N f).length = N := by simp [blsN]
theorem blsN_get (N : Nat) (f : Nat → Bool) (j : Nat) (h : j < N) : (blsN N f)[j]? = some (.bool (f j)) := by simp [blsN, h]
theorem blsN_set (N : Nat) (f : Nat → Bool) (j : Nat) (h : j < N) : (blsN N f).set j (.bool true) = blsN N (fun i => if i = j then true else f i) := by
  apply List.ext_getElem?
  intro i
  rw [List.getElem?_set]
  by_cases hij : j = i
  · subst hij
    rw [if_pos rfl, if_pos (by rw [blsN_len]; exact h), blsN_get _ _ _ h]
    simp
  · rw [if_neg hij]
    by_cases hi : i < N
    · rw [blsN_get _ _ _ hi, blsN_get _ _ _ hi, if_neg (fun e => hij e.symm)]
    · rw [List.getElem?_eq_none (by rw [blsN_len]; omega), List.getElem?_eq_none (by rw [blsN_len]; omega)]
theorem blsN_none (N : Nat) (f : Nat → Bool) (hf : ∀ j, f j = false) : (madeCells (Value.bool false).cells (N * 1)).toList = blsN N f := by
  rw [show (Value.bool false).cells = #[.bool false] from rfl, toList_madeCells_one]
  apply List.ext_getElem?
  intro j
  by_cases hj : j < N
  · rw [blsN_get _ _ _ hj, Nat.mul_one, List.getElem?_replicate, if_pos hj, hf]
  · rw [List.getElem?_eq_none (by simp; omega), List.getElem?_eq_none (by rw [blsN_len]; omega)]
theorem own_formK {w : World} {B e n : Nat} {v : Value} {xs : List Value} (h : w.ownsRow B e 6 v n xs) : ∃ a c, v = .slice a n c := by
  rcases h.2 with ⟨rfl, rfl⟩ | ⟨g, cap, cur, rfl, _⟩
  · exact ⟨none, 0, rfl⟩
  · exact ⟨_, _, rfl⟩
theorem own_someK {w : World} {B e n : Nat} {v : Value} {xs : List Value} (h : w.ownsRow B e 6 v n xs) (hn : 0 < n) : ∃ g c, v = .slice (some ⟨g, 0, none⟩) n c ∧ n ≤ c := by
  rcases h.2 with ⟨_, h0⟩ | ⟨g, cap, cur, rfl, _, _, h1, _⟩
  · omega
  · exact ⟨g, cap, rfl, h1⟩
theorem own_belowK {w w' : World} {B B' e s n : Nat} {v : Value} {xs : List Value} (h : w.ownsRow B e s v n xs) (hb : Below B' w w') (hB : w.heap.size ≤ B') : w'.ownsRow B e s v n xs := by
  have hl := World.ownsRow.lt h
  obtain ⟨h1, h2⟩ := h
  refine ⟨h1, ?_⟩
  rcases h2 with h2 | ⟨g, cap, cur, a, b, c, d⟩
  · exact .inl h2
  · exact .inr ⟨g, cap, cur, a, b, by rw [hb.block g (by have := (hl g (by rw [a]; rfl)).2; omega)]; exact c, d⟩
theorem below_grownK {B g : Nat} {w w1 w2 : World} (h : Below B w w1) (hg : w1.grownBy w2 (some g)) (hB : B ≤ g) (hs : B ≤ w1.heap.size) : Below B w w2 := h.grown hg hs (fun k hk => by cases hk; exact hB)
/-- Where the search stands. -/
structure SrW (w w' : World) (P : Array Value) (N : Nat) (f : Nat → Bool) (v : Value) (ls : List Lk) : Prop where
  p : Blk w' w.heap.size 25 P
  s : w'.ownsRow (w.heap.size + 1) 4 1 (.slice (some ⟨w.heap.size + 1, 0, none⟩) N N) N (blsN N f)
  o : w'.ownsRow (w.heap.size + 2) 35 6 v ls.length (flat ls)
  b : Below w.heap.size w w'
section
variable {w w1 w2 : World} {P : Array Value} {N : Nat} {f : Nat → Bool} {v : Value} {ls : List Lk}
theorem SrW.z (h : SrW w w1 P N f v ls) : w.heap.size + 1 < w1.heap.size := (World.ownsRow.lt h.s _ rfl).2
theorem SrW.more (h : SrW w w1 P N f v ls) (hb : Below w1.heap.size w1 w2) : SrW w w2 P N f v ls :=
  ⟨h.p.below hb h.p.lt, own_belowK h.s hb (Nat.le_refl _), own_belowK h.o hb (Nat.le_refl _), h.b.trans (hb.mono (Nat.le_of_lt h.p.lt))⟩
theorem SrW.ext {f' : Nat → Bool} (h : SrW w w1 P N f v ls) (he : ∀ j, f j = f' j) : SrW w w1 P N f' v ls := by
  have : f = f' := funext he
  exact this ▸ h
/-- The cells of a link of the list. -/
theorem SrW.cells {g c n : Nat} (h : SrW w w1 P N f (.slice (some ⟨g, 0, none⟩) n c) ls) {i : Nat} {l : Lk} (hl : ls[i]? = some l) : ∀ j, j < 6 → w1.cell? ⟨g, i * 6 + j, none⟩ = (lv l).cells.toList[j]? := by
  intro j hj
  have hi := (List.getElem?_eq_some_iff.1 hl).1
  have ho := h.o
  obtain ⟨_, _, hv⟩ := own_formK ho
  simp only [Value.slice.injEq] at hv
  obtain ⟨_, rfl, _⟩ := hv
  rw [World.ownsRow.cellAt ho _ (by omega), flat_at ls i j l hl hj]
theorem SrW.gt {g c n : Nat} (h : SrW w w1 P N f (.slice (some ⟨g, 0, none⟩) n c) ls) : w.heap.size + 2 ≤ g ∧ g < w1.heap.size := World.ownsRow.lt h.o _ rfl
/-- What was seen is marked. -/
theorem SrW.mark (h : SrW w w1 P N f v ls) {j : Nat} (hj : j < N) : SrW w (w1.setCell ⟨w.heap.size + 1, j, none⟩ (.bool true)) P N (fun i => if i = j then true else f i) v ls := by
  have h1 := World.ownsRow.stored h.s j (.bool true)
  rw [blsN_set N f j hj] at h1
  refine ⟨h.p.far (by simp) _, h1.1, World.ownsRow.kept h.o h1.2 ?_, below_grownK h.b h1.2 (by simp) (by have := h.p.lt; omega)⟩
  rcases h.o.2 with ⟨e, _⟩ | ⟨g, cap, cur, e, hg, _⟩
  · exact .inl (by rw [e]; rfl)
  · exact .inr (by rw [e]; simp [Value.ownBlock]; omega)
/-- A link joins the list. -/
theorem SrW.push {o : Obj} {v' : Value} {x : Lk} (h : SrW w w1 P N f v ls) (ho : w2.ownsRow (w.heap.size + 2) 35 6 v' (ls.length + 1) (flat ls ++ (lv x).cells.toList)) (hg : (w1.alloc o).grownBy w2 v.ownBlock) : SrW w w2 P N f v' (ls ++ [x]) := by
  have ha := (Below.refl w1.heap.size w1).alloc (Nat.le_refl _) o
  have h' := h.more ha
  have hv : ∀ k, v.ownBlock = some k → w.heap.size + 2 ≤ k := fun k hk => (World.ownsRow.lt h.o k hk).1
  have hlt := h.z
  refine ⟨?_, ?_, by rw [flat_snoc]; simpa using ho, h'.b.grown hg (by simp; omega) (fun k hk => by have := hv k hk; omega)⟩
  · have := h'.p
    unfold Blk at this ⊢
    rw [hg.block _ (by simp; omega) (fun e => by have := hv _ e.symm; omega)]
    exact this
  · refine World.ownsRow.kept h'.s hg (.inr fun e => ?_)
    have := hv (w.heap.size + 1) (by rw [← e]; rfl)
    omega
end
/-! ### a region that makes a link and calls -/
/-- A block of the walk's own that holds noughts. -/
structure OwnN (w w' : World) (g : Nat) : Prop where
  k : Blk w' g 35 #[.int .i64 0, .int .i64 0, .int .i64 0, .int .i64 0, .int .i64 0, .int .i64 0]
  z : w.heap.size ≤ g
section
variable {w w1 w2 : World}
theorem nb_drew (h : Below w.heap.size w w1) : Below w.heap.size w w1.drew := belowDr h
theorem nb_alloc (h : Below w.heap.size w w1) (o : Obj) : Below w.heap.size w (w1.alloc o) := h.alloc h.size o
theorem nb_more (h : Below w.heap.size w w1) (hb : Below w1.heap.size w1 w2) : Below w.heap.size w w2 := h.trans (hb.mono h.size)
theorem nb_moreA {o : Obj} (h : Below w.heap.size w w1) (hb : Below (w1.alloc o).heap.size (w1.alloc o) w2) : Below w.heap.size w w2 := nb_more (nb_alloc h o) hb
theorem nb_moreAD {o : Obj} (h : Below w.heap.size w w1) (hb : Below (w1.alloc o).drew.heap.size (w1.alloc o).drew w2) : Below w.heap.size w w2 := nb_more (nb_drew (nb_alloc h o)) hb
theorem nb_moreD (h : Below w.heap.size w w1) (hb : Below w1.drew.heap.size w1.drew w2) : Below w.heap.size w w2 := nb_more (nb_drew h) hb
theorem OwnN.new (h : Below w.heap.size w w1) : OwnN w (w1.alloc (.cells #[.int .i64 0, .int .i64 0, .int .i64 0, .int .i64 0, .int .i64 0, .int .i64 0] 35)) w1.heap.size := ⟨Blk.new _ _ _, h.size⟩
theorem OwnN.keep {g : Nat} (h : OwnN w w1 g) (hb : Below w1.heap.size w1 w2) : OwnN w w2 g := ⟨h.k.below hb h.k.lt, h.z⟩
theorem OwnN.keepD {g : Nat} (h : OwnN w w1 g) (hb : Below w1.drew.heap.size w1.drew w2) : OwnN w w2 g := ⟨h.k.drew.below hb h.k.lt, h.z⟩
theorem OwnN.keepNew (h : Below w.heap.size w w1) (hb : Below (w1.alloc (.cells #[.int .i64 0, .int .i64 0, .int .i64 0, .int .i64 0, .int .i64 0, .int .i64 0] 35)).heap.size (w1.alloc (.cells #[.int .i64 0, .int .i64 0, .int .i64 0, .int .i64 0, .int .i64 0, .int .i64 0] 35)) w2) : OwnN w w2 w1.heap.size := (OwnN.new h).keep hb
theorem OwnN.keepNewD (h : Below w.heap.size w w1) (hb : Below (w1.alloc (.cells #[.int .i64 0, .int .i64 0, .int .i64 0, .int .i64 0, .int .i64 0, .int .i64 0] 35)).drew.heap.size (w1.alloc (.cells #[.int .i64 0, .int .i64 0, .int .i64 0, .int .i64 0, .int .i64 0, .int .i64 0] 35)).drew w2) : OwnN w w2 w1.heap.size := (OwnN.new h).keepD hb
theorem nb_set6 {g : Nat} (h : Below w.heap.size w w1) (hg : OwnN w w1 g) (a b c d e f : Value) :
    Below w.heap.size w ((((((w1.setCell ⟨g, 0, none⟩ a).setCell ⟨g, 1, none⟩ b).setCell ⟨g, 2, none⟩ c).setCell ⟨g, 3, none⟩ d).setCell ⟨g, 4, none⟩ e).setCell ⟨g, 5, none⟩ f) :=
  (((((h.setCell (p := ⟨g, 0, none⟩) hg.z _).setCell (p := ⟨g, 1, none⟩) hg.z _).setCell (p := ⟨g, 2, none⟩) hg.z _).setCell (p := ⟨g, 3, none⟩) hg.z _).setCell (p := ⟨g, 4, none⟩) hg.z _).setCell (p := ⟨g, 5, none⟩) hg.z _
end
/-! ### the number of a link, as it is reckoned -/
theorem mulK {x q X Q : Int} (h : 0 ≤ x ∧ x ≤ X) (hq : 0 ≤ q ∧ q ≤ Q) : 0 ≤ x * q ∧ x * q ≤ X * Q :=
  ⟨Int.mul_nonneg h.1 hq.1, Int.le_trans (Int.mul_le_mul_of_nonneg_right h.2 hq.1) (Int.mul_le_mul_of_nonneg_left hq.2 (by omega))⟩
theorem natK {x : Int} (h : 0 ≤ x) : ((x.toNat : Nat) : Int) = x := Int.toNat_of_nonneg h
theorem sco_any {n a k m : Int} (hp : vpB ⟨n, a, k, m⟩ = true) {l : Lk} (hi : Inv ⟨n, a, k, m⟩ l) (w : World) :
    Calls Try.prog 41 #[.agg #[.int .i64 n, .int .i64 a, .int .i64 k, .int .i64 m], .agg #[.int .i64 l.kn, .int .i64 l.s, .int .i64 l.d, .int .i64 l.h, .int .i64 l.da, .int .i64 l.wo]] w fun e w' => e = .returned (.int .i64 (codeK ⟨n, a, k, m⟩ l : Nat)) ∧ Below w.heap.size w w' := by
  have hs := inv_smallK hp hi
  have hb := plan_bd hp
  obtain ⟨K, rfl⟩ : ∃ K : Nat, k = (K : Int) := ⟨k.toNat, by omega⟩
  have hq : ((qK ⟨n, a, K, m⟩ : Nat) : Int) = m + 2 := by unfold qK; simp; omega
  have hP : ((pK ⟨n, a, K, m⟩ : Nat) : Int) = 2 ^ K := by unfold pK; simp
  obtain ⟨⟨q1, q2⟩, ⟨p1, p2⟩, ⟨a1, a2⟩, ⟨b1, b2⟩, ⟨c1, c2⟩, ⟨d1, d2⟩, ⟨e1, e2⟩, ⟨f1, f2⟩⟩ := hs
  generalize hQ : ((qK ⟨n, a, K, m⟩ : Nat) : Int) = q at hq
  generalize hPP : ((pK ⟨n, a, K, m⟩ : Nat) : Int) = P at hP
  have B1 := mulK (x := l.kn) (q := q) (X := 7) (Q := 7) (by omega) (by omega)
  have B3 := mulK (x := l.kn * q + l.s) (q := q) (X := 100) (Q := 7) (by omega) (by omega)
  have B5 := mulK (x := (l.kn * q + l.s) * q + l.d) (q := P) (X := 1000) (Q := 16) (by omega) (by omega)
  have B7 := mulK (x := ((l.kn * q + l.s) * q + l.d) * P + l.h) (q := q) (X := 20000) (Q := 7) (by omega) (by omega)
  have B10 := mulK (x := (((l.kn * q + l.s) * q + l.d) * P + l.h) * q + l.da + 1) (q := q) (X := 200000) (Q := 7) (by omega) (by omega)
  have hw : ∀ x : Int, 0 ≤ x + 1 ∧ x ≤ 10000000 → IntKind.i64.wrap x = x := fun x hx => IntWalk.i64_in _ (by omega)
  refine calls_congr ?_ (scode_at n a m l.kn l.s l.d l.h l.da l.wo K (by omega) q P _ _ _ _ _ _ _ _ _ _ _ _ hP.symm (by rw [hw _ (by omega)]; exact hq.symm)
    (hw _ (by omega)) (hw _ (by omega)) (hw _ (by omega)) (hw _ (by omega)) (hw _ (by omega)) (hw _ (by omega)) (hw _ (by omega)) (hw _ (by omega)) (hw _ (by omega)) (hw _ (by omega)) (hw _ (by omega)) (hw _ (by omega)) w)
  congr 1
  unfold codeK
  simp only [Int.natCast_add, Int.natCast_mul, natK a1, natK b1, natK c1, natK d1, hQ, hPP]
  rw [natK (show 0 ≤ l.da + 1 by omega), natK (show 0 ≤ l.wo + 1 by omega)]
  simp only [Int.add_assoc]
/-! ### how many numbers there are, the first row, the acts -/
theorem sizeK_eq {n a k m : Int} (hp : vpB ⟨n, a, k, m⟩ = true) : ∃ N : Nat, N = sizeK ⟨n, a, k, m⟩ ∧ N ≤ 300000 ∧ ((m + 2) * (m + 2) * (m + 2) * 2 ^ k.toNat * (m + 2) * (m + 2)) = (N : Int) := by
  have hb := plan_bd hp
  refine ⟨_, rfl, ?_, ?_⟩
  · unfold sizeK qK pK
    dsimp only
    rcases (show m = 1 ∨ m = 2 ∨ m = 3 ∨ m = 4 ∨ m = 5 from by omega) with e | e | e | e | e <;> rcases (show k = 1 ∨ k = 2 ∨ k = 3 ∨ k = 4 from by omega) with e' | e' | e' | e' <;> rw [e, e'] <;> decide
  · unfold sizeK qK pK
    dsimp only
    rcases (show m = 1 ∨ m = 2 ∨ m = 3 ∨ m = 4 ∨ m = 5 from by omega) with e | e | e | e | e <;> rcases (show k = 1 ∨ k = 2 ∨ k = 3 ∨ k = 4 from by omega) with e' | e' | e' | e' <;> rw [e, e'] <;> decide
theorem SrW.start {w w1 w2 : World} {P : Array Value} {N : Nat} {bl : List Value} (hg1 : (w.alloc (.cells P 25)).grownBy w1 none) (ho : w1.ownsRow (w.heap.size + 1) 4 1 (.slice (some ⟨w.heap.size + 1, 0, none⟩) N N) N bl) (hbl : bl = blsN N fun _ => false) (hb2 : Below w1.heap.size w1 w2) :
    SrW w (w2.alloc (.cells #[.int .i64 newL.kn, .int .i64 newL.s, .int .i64 newL.d, .int .i64 newL.h, .int .i64 newL.da, .int .i64 newL.wo] 35)) P N (fun _ => false) (.slice (some ⟨w2.heap.size, 0, none⟩) 1 1) [newL] := by
  subst hbl
  have hz := World.ownsRow.lt ho _ rfl
  have hz2 := hb2.size
  have p0 : Blk (w.alloc (.cells P 25)) w.heap.size 25 P := Blk.new _ _ _
  have p1 : Blk w1 w.heap.size 25 P := by
    unfold Blk at p0 ⊢
    rw [hg1.block _ (by simp) (fun e => by cases e)]
    exact p0
  have b1 : Below w.heap.size w w1 := ((Below.refl _ _).alloc (Nat.le_refl _) _).grown hg1 (by simp) (fun k hk => by cases hk)
  have h2 : Below w1.heap.size w1 (w2.alloc (.cells #[.int .i64 newL.kn, .int .i64 newL.s, .int .i64 newL.d, .int .i64 newL.h, .int .i64 newL.da, .int .i64 newL.wo] 35)) := hb2.alloc hz2 _
  refine ⟨p1.below h2 p1.lt, own_belowK ho h2 (Nat.le_refl _), ⟨by simp [flat, lv, Value.cells], .inr ⟨w2.heap.size, 1, _, rfl, by omega, heap_alloc_new w2 _, Nat.le_refl _, by unfold maxLen; omega, by simp, by simp [flat, lv, Value.cells]⟩⟩, b1.trans (h2.mono (Nat.le_of_lt p1.lt))⟩
theorem actsS : ∀ k : Fin 9, ∃ h : k.val < (ByteArray.mk #[115, 48, 49, 50, 51, 100, 120, 97, 121]).size, actsM[k.val]? = some (((ByteArray.mk #[115, 48, 49, 50, 51, 100, 120, 97, 121])[k.val].toNat : Nat) : Int) := by
  intro k
  obtain ⟨k, hk⟩ := k
  rcases (show k = 0 ∨ k = 1 ∨ k = 2 ∨ k = 3 ∨ k = 4 ∨ k = 5 ∨ k = 6 ∨ k = 7 ∨ k = 8 from by omega) with rfl | rfl | rfl | rfl | rfl | rfl | rfl | rfl | rfl <;> exact ⟨hk, rfl⟩
theorem new6K (w : World) (x : Lk) (t : TypeId) : ∀ j u, ((lv x).cells.toList)[j]? = some u → (w.alloc (.cells #[.int .i64 x.kn, .int .i64 x.s, .int .i64 x.d, .int .i64 x.h, .int .i64 x.da, .int .i64 x.wo] t)).cell? ((⟨w.heap.size, 0, none⟩ : Addr).add j) = some u := by
  intro j u hj
  have hB := Blk.new w t #[.int .i64 x.kn, .int .i64 x.s, .int .i64 x.d, .int .i64 x.h, .int .i64 x.da, .int .i64 x.wo]
  have e : (⟨w.heap.size, 0, none⟩ : Addr).add j = ⟨w.heap.size, j, none⟩ := by unfold Addr.add; split <;> simp_all
  rw [e, hB.cell j, ← hj]
  simp [lv, Value.cells]
theorem one6K (x : Lk) : ∀ u ∈ (lv x).cells.toList, u.oneCell' = true := by
  intro u hu
  simp [lv, Value.cells] at hu
  rcases hu with rfl | rfl | rfl | rfl | rfl | rfl <;> rfl
theorem SrW.drew {w w1 : World} {P : Array Value} {N : Nat} {f : Nat → Bool} {v : Value} {ls : List Lk} (h : SrW w w1 P N f v ls) : SrW w w1.drew P N f v ls := h.more (belowDr (Below.refl _ _))
theorem SrW.moreD {w w1 w2 : World} {P : Array Value} {N : Nat} {f : Nat → Bool} {v : Value} {ls : List Lk} (h : SrW w w1 P N f v ls) (hb : Below w1.drew.heap.size w1.drew w2) : SrW w w2 P N f v ls := h.drew.more hb
/-- What lies in a cell. -/
def cellK (g c : Nat) (w : World) : Value := (w.cell? ⟨g, c, none⟩).getD undef
theorem SrW.cellS {w w1 : World} {P : Array Value} {N : Nat} {f : Nat → Bool} {v : Value} {ls : List Lk} (h : SrW w w1 P N f v ls) {j : Nat} (hj : j < N) : w1.cell? ⟨w.heap.size + 1, j, none⟩ = some (.bool (f j)) := by
  rw [World.ownsRow.cellAt h.s j (by omega), blsN_get N f j hj]
theorem SrW.cellE {w w1 : World} {P : Array Value} {N : Nat} {f : Nat → Bool} {v : Value} {ls : List Lk} (h : SrW w w1 P N f v ls) {j : Nat} (hj : j < N) : w1.cell? ⟨w.heap.size + 1, j, none⟩ = some (cellK (w.heap.size + 1) j w1) := by
  unfold cellK
  rw [h.cellS hj]
  rfl
theorem sr_S0 {w W : World} {n a k m : Int} {N : Nat} {f : Nat → Bool} {g c ln c0 : Nat} {ls : List Lk} {l : Lk} (h : SrW w W #[.int .i64 n, .int .i64 a, .int .i64 k, .int .i64 m] N f (.slice (some ⟨g, 0, none⟩) ln c) (l :: ls)) (hc0 : c0 < N) :
    (fun w' => w'.cell? ⟨w.heap.size, 0, none⟩ = some (.int .i64 n) ∧ w'.cell? ⟨w.heap.size, 1, none⟩ = some (.int .i64 a) ∧ w'.cell? ⟨w.heap.size, 2, none⟩ = some (.int .i64 k) ∧ w'.cell? ⟨w.heap.size, 3, none⟩ = some (.int .i64 m) ∧ w'.cell? ⟨g, 0, none⟩ = some (.int .i64 l.kn) ∧ w'.cell? ⟨g, 1, none⟩ = some (.int .i64 l.s) ∧ w'.cell? ⟨g, 2, none⟩ = some (.int .i64 l.d) ∧ w'.cell? ⟨g, 3, none⟩ = some (.int .i64 l.h) ∧ w'.cell? ⟨g, 4, none⟩ = some (.int .i64 l.da) ∧ w'.cell? ⟨g, 5, none⟩ = some (.int .i64 l.wo) ∧ w'.frozen? ⟨w.heap.size + 1, c0, none⟩ = false ∧ w'.cell? ⟨w.heap.size + 1, c0, none⟩ = some (cellK (w.heap.size + 1) c0 w')) W := by
  have c := h.cells (i := 0) (l := l) rfl
  have p := h.p.c4
  simp only [Nat.zero_mul, Nat.zero_add] at c
  exact ⟨p.1, p.2.1, p.2.2.1, p.2.2.2, c 0 (by omega), c 1 (by omega), c 2 (by omega), c 3 (by omega), c 4 (by omega), c 5 (by omega), World.ownsRow.frozenAt h.s c0, h.cellE hc0⟩
end Go.Proofs.Ytnbgfffcialfkaa
