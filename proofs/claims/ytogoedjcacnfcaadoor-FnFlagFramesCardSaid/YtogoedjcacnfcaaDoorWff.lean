/-
  The walk of the program's FindFrames. Conditions: the text is one that can be, and a variable of the library's own holds a number.
-/
import Derived.Test.YtogoedjcacnfcaaDoorFfm
import Derived.Test.YtogoedjcacnfcaaDoorWunsI
import Derived.Test.YtogoedjcacnfcaaDoorSrow
import Derived.Test.YtogoedjcacnfcaaDoorShelf
import Derived.Lib.SplitLaws
namespace Go.Proofs.YtogoedjcacnfcaaDoor
open Go.RowKit Go.Lib
set_option linter.unusedVariables false

/-- What UnstuffBits makes of some bits. -/
def uL (t : List UInt8) : ByteArray := ⟨((unsR t).getD []).toArray⟩
/-- The parts of a text. -/
def prt (s : ByteArray) : List ByteArray := splitB flB 0 (countB s flB) s
def neB (x : ByteArray) : Bool := x.size != 0
/-- The frames among the first k parts. -/
def ffk (xs : List ByteArray) (k : Nat) : List ByteArray := (((xs.dropLast.take k).drop 1).filter neB).map fun x => uL x.data.toList
def ffr (s : ByteArray) : List ByteArray := ((((prt s).dropLast).drop 1).filter neB).map fun x => uL x.data.toList
/-- What FindFrames answers. -/
def FF (s : ByteArray) : List ByteArray := if bitsB 300 s.data.toList = true then (fnd s.data.toList).map uL else []
theorem ffr_eq (s : ByteArray) : ffr s = (fnd s.data.toList).map uL := by
  unfold ffr prt
  have h := split_ps (s.size + 1) s (Nat.lt_succ_self _)
  rw [← fnd_ps, ← h]
  generalize splitB flB 0 (countB s flB) s = xs
  rw [← List.map_dropLast, ← List.map_drop, List.filter_map, List.map_map]
  have e : neB = ((fun x : List UInt8 => !x.isEmpty) ∘ fun x : ByteArray => x.data.toList) := by
    funext x
    show (x.size != 0) = !(x.data.toList).isEmpty
    obtain ⟨⟨l⟩⟩ := x
    cases l <;> rfl
  rw [e]; rfl
theorem prt_len (s : ByteArray) : (prt s).length = countB s flB + 1 := splitB_all flB (by decide) 0 _ s rfl
theorem ffk_same {xs : List ByteArray} {k : Nat} (hk : k < xs.length) (h : k = 0 ∨ k + 1 = xs.length ∨ neB (xs.getD k ByteArray.empty) = false) : ffk xs (k + 1) = ffk xs k := by
  unfold ffk
  by_cases h1 : k + 1 = xs.length
  · have hl : xs.dropLast.length = k := by rw [List.length_dropLast]; omega
    rw [List.take_of_length_le (by omega), List.take_of_length_le (by omega)]
  · have hkd : k < xs.dropLast.length := by rw [List.length_dropLast]; omega
    rw [List.take_add_one, List.getElem?_eq_getElem hkd]
    simp only [Option.toList_some]
    rcases h with h0 | h0 | h0
    · subst h0; simp
    · exact absurd h0 h1
    · by_cases h2 : k = 0
      · subst h2; simp
      · have hl : 1 ≤ (xs.dropLast.take k).length := by rw [List.length_take]; omega
        rw [List.drop_append_of_le_length hl, List.filter_append]
        have e : neB (xs.dropLast[k]) = false := by
          rw [List.getElem_dropLast]
          rw [List.getD_eq_getElem?_getD, List.getElem?_eq_getElem hk] at h0
          exact h0
        have e2 : List.filter neB [xs.dropLast[k]] = [] := by rw [List.filter_cons, if_neg (by rw [e]; simp)]; rfl
        rw [e2, List.append_nil]
theorem ffk_more {xs : List ByteArray} {k : Nat} (hk : k < xs.length) (h0 : k ≠ 0) (h1 : k + 1 ≠ xs.length) (h : neB (xs.getD k ByteArray.empty) = true) : ffk xs (k + 1) = ffk xs k ++ [uL (xs.getD k ByteArray.empty).data.toList] := by
  unfold ffk
  have hkd : k < xs.dropLast.length := by rw [List.length_dropLast]; omega
  have hl : 1 ≤ (xs.dropLast.take k).length := by rw [List.length_take]; omega
  have eg : xs.getD k ByteArray.empty = xs.dropLast[k] := by
    rw [List.getElem_dropLast, List.getD_eq_getElem?_getD, List.getElem?_eq_getElem hk]; rfl
  rw [List.take_add_one, List.getElem?_eq_getElem hkd]
  simp only [Option.toList_some]
  rw [List.drop_append_of_le_length hl, List.filter_append, List.map_append, eg]
  rw [eg] at h
  have e2 : List.filter neB [xs.dropLast[k]] = [xs.dropLast[k]] := by rw [List.filter_cons, if_pos h]; rfl
  rw [e2]; rfl
theorem ffk_end (xs : List ByteArray) (k : Nat) (h : xs.length ≤ k) : ffk xs k = ((xs.dropLast.drop 1).filter neB).map fun x => uL x.data.toList := by
  unfold ffk
  rw [List.take_of_length_le (by rw [List.length_dropLast]; omega)]
theorem ffk_len (xs : List ByteArray) (k : Nat) : (ffk xs k).length ≤ k := by
  unfold ffk
  rw [List.length_map]
  refine Nat.le_trans (List.length_filter_le _ _) ?_
  rw [List.length_drop, List.length_take]; omega
theorem prt_size : ∀ (n : Nat) (s : ByteArray), s.size < n → ∀ x ∈ prt s, x.size ≤ s.size := by
  intro n s _ x hx
  have : ∀ (k : Nat) (s : ByteArray), ∀ x ∈ splitB flB 0 k s, x.size ≤ s.size := by
    intro k
    induction k with
    | zero => intro s x hx; rw [splitB_zero] at hx; simp only [List.mem_singleton] at hx; rw [hx]; exact Nat.le_refl _
    | succ k ih =>
      intro s x hx
      by_cases hi : indexB s flB = -1
      · rw [splitB_miss _ _ _ _ hi] at hx; simp only [List.mem_singleton] at hx; rw [hx]; exact Nat.le_refl _
      · have hge := index_ge s.data.toList flB.data.toList
        have he : indexB s flB = ((indexB s flB).toNat : Int) := by have : -1 ≤ indexB s flB := hge; omega
        rw [splitB_hit _ _ _ _ _ he] at hx
        rcases List.mem_cons.1 hx with rfl | hx
        · rw [ByteArray.size_extract]; omega
        · have := ih _ x hx
          rw [ByteArray.size_extract] at this; omega
  exact this _ s x hx

/-- A row of texts of the call's own. -/
def OwnT (w : World) (B : Nat) (v : Value) (xs : List ByteArray) : Prop := w.ownsRow B 9 1 v xs.length (strv xs)
theorem own_form1 {w : World} {B e n : Nat} {v : Value} {xs : List Value} (h : w.ownsRow B e 1 v n xs) : ∃ a c, v = .slice a n c := by
  rcases h.2 with ⟨rfl, rfl⟩ | ⟨g, cap, cur, rfl, _⟩
  · exact ⟨none, 0, rfl⟩
  · exact ⟨_, _, rfl⟩
theorem OwnT.nil (w : World) (B : Nat) : OwnT w B (.slice none 0 0) [] := World.ownsRow_nil _ _ _ _
theorem new1s (w : World) (x : ByteArray) (t : TypeId) : ∀ j u, (strv [x])[j]? = some u → (w.alloc (.cells #[.string x] t)).cell? ((⟨w.heap.size, 0, none⟩ : Addr).add j) = some u := by
  intro j u hj
  have e : (⟨w.heap.size, 0, none⟩ : Addr).add j = ⟨w.heap.size, j, none⟩ := by unfold Addr.add; split <;> simp_all
  rw [e, cell_of_row _ w.heap.size j _ t (0, 0) (heap_alloc_new w _)]
  match j with
  | 0 => exact hj
  | j + 1 => simp [strv] at hj
theorem one1s (x : ByteArray) : ∀ u ∈ strv [x], u.oneCell' = true := by
  intro u hu
  simp [strv] at hu
  subst hu; rfl
theorem ownT_snoc {w1 : World} {B : Nat} {v : Value} {l : List ByteArray} {x : ByteArray} (h : w1.ownsRow B 9 1 v (l.length + 1) (strv l ++ strv [x])) : OwnT w1 B v (l ++ [x]) := by
  unfold OwnT
  rw [strv_app, List.length_append]; exact h
theorem push1_below {B : Nat} {w W w1 : World} {e n : Nat} {v : Value} {xs : List Value} {o : Obj} (hown : W.ownsRow B e 1 v n xs) (hg : (W.alloc o).grownBy w1 v.ownBlock) (hb : Below B w W) (hB : B ≤ W.heap.size) : Below B w w1 ∧ B ≤ w1.heap.size := by
  have h1 := (hb.alloc hB o).grown hg (by simp; omega) (fun j hj => (World.ownsRow.lt hown j hj).1)
  exact ⟨h1, Nat.le_trans hB (Nat.le_trans (by simp) hg.size)⟩

/-- A variable of the library's own holds a number. -/
def Lax (w : World) : Prop := ∃ m, w.cell? ⟨0, 0, none⟩ = some (.int .i64 m)
theorem Lax.lt {w : World} (h : Lax w) : 0 < w.heap.size := by obtain ⟨m, hm⟩ := h; exact block_lt_of_cell hm
theorem Lax.below {w w' : World} {B : Nat} (h : Lax w) (hb : Below B w w') (hB : 0 < B) : Lax w' := by
  obtain ⟨m, hm⟩ := h
  exact ⟨m, (hb.cell (p := ⟨0, 0, none⟩) hB).trans hm⟩
theorem spl_any (s : ByteArray) (w : World) (hs : s.size ≤ 1000000) (hm : Lax w) :
    Calls Tryd.prog 20 #[.string s, .string flB] w fun e w' => e = .returned (.slice (some ⟨w.heap.size, 0, none⟩) (prt s).length (prt s).length) ∧ w' = w.alloc (.cells (strv (prt s)).toArray 9) := by
  obtain ⟨m, hm⟩ := hm
  have hcon := Any.strings_Split { Tryd.laysSplit with } Tryd.laysSplit.i9 s flB m w (by omega) hm (by decide)
  change Calls Tryd.prog 20 _ _ _ at hcon
  rw [prt_len]
  exact hcon
end Go.Proofs.YtogoedjcacnfcaaDoor
