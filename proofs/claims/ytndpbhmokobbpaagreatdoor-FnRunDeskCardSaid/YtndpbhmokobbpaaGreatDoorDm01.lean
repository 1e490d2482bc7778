/-
  The plain mathematics of texts that are split at a byte: no program is named here. No condition.
  Plain facts on memory: a text's iterator, and a row of the call's own that grows beside it. No condition.
-/
import Derived.Lib.Split
import Derived.Lib.SplitLaws
import Derived.Lib.CountLaws
import Derived.Lib.Index
import Derived.WalkKit
import Derived.WalkSmall
import Derived.Lib.Hide
import Derived.Laws.IdiomStrings
import Derived.Maps.AppendAt
namespace Go.Proofs.YtndpbhmokobbpaaGreatDoor
open Go Go.Lib
set_option linter.unusedVariables false

/-- The parts of a text between the bytes of a kind. -/
def pts (c : UInt8) : List UInt8 → List (List UInt8)
  | [] => [[]]
  | x :: l => if x = c then [] :: pts c l else match pts c l with
    | [] => [[x]]
    | p :: r => (x :: p) :: r
theorem pts_ne (c : UInt8) : ∀ l, pts c l ≠ []
  | [] => by simp [pts]
  | x :: l => by
    unfold pts
    split
    · simp
    · split <;> simp
theorem index_cons (c x : UInt8) (t : List UInt8) : index (x :: t) [c] = if x = c then 0 else if index t [c] = -1 then -1 else index t [c] + 1 := by
  have hp : ([c] : List UInt8).isPrefixOf (x :: t) = (c == x) := by simp [List.isPrefixOf]
  have e : index (x :: t) [c] = if ([c] : List UInt8).isPrefixOf (x :: t) = true then 0 else if (index t [c] == -1) = true then -1 else index t [c] + 1 := rfl
  rw [e, hp]
  by_cases h : x = c
  · subst h
    rw [if_pos rfl, if_pos (by simp)]
  · rw [if_neg h, if_neg (by simpa using fun e => h e.symm)]
    by_cases h1 : index t [c] = -1
    · rw [if_pos h1, if_pos (by rw [h1]; rfl)]
    · rw [if_neg h1, if_neg (by simpa using h1)]
theorem pts_none (c : UInt8) : ∀ l, index l [c] = -1 → pts c l = [l]
  | [], _ => rfl
  | x :: t, h => by
    rw [index_cons] at h
    by_cases hx : x = c
    · rw [if_pos hx] at h; exact absurd h (by decide)
    · rw [if_neg hx] at h
      have ht : index t [c] = -1 := by
        by_cases h1 : index t [c] = -1
        · exact h1
        · rw [if_neg h1] at h
          have := index_ge t [c]
          omega
      unfold pts
      rw [if_neg hx, pts_none c t ht]
theorem pts_some (c : UInt8) : ∀ (l : List UInt8) (i : Nat), index l [c] = (i : Int) → i < l.length ∧ pts c l = l.take i :: pts c (l.drop (i + 1))
  | [], i, h => by
    have : index [] [c] = -1 := by simp [index]
    rw [this] at h; omega
  | x :: t, i, h => by
    rw [index_cons] at h
    by_cases hx : x = c
    · rw [if_pos hx] at h
      have hi : i = 0 := by omega
      subst hi
      refine ⟨by simp, ?_⟩
      show pts c (x :: t) = [] :: pts c t
      unfold pts
      rw [if_pos hx]
      cases t <;> rfl
    · rw [if_neg hx] at h
      by_cases h1 : index t [c] = -1
      · rw [if_pos h1] at h; omega
      · rw [if_neg h1] at h
        obtain ⟨j, rfl⟩ : ∃ j, i = j + 1 := ⟨i - 1, by have := index_ge t [c]; omega⟩
        obtain ⟨p1, p2⟩ := pts_some c t j (by omega)
        refine ⟨by simp; omega, ?_⟩
        show pts c (x :: t) = (x :: t.take j) :: pts c (t.drop (j + 1))
        have e : pts c (x :: t) = match pts c t with | [] => [[x]] | p :: r => (x :: p) :: r := by
          rw [pts.eq_2, if_neg hx]
        rw [e, p2]
theorem ext0p (s : ByteArray) (i : Nat) : (s.extract 0 i).data.toList = s.data.toList.take i := by
  simp [ByteArray.data_extract, Array.toList_extract, List.extract]
theorem ext1p (s : ByteArray) (i : Nat) : (s.extract i s.size).data.toList = s.data.toList.drop i := by
  simp [ByteArray.data_extract, Array.toList_extract, List.extract]
  rw [List.take_of_length_le]
  rw [List.length_drop]
  exact Nat.le_refl _
/-- What the library's function answers. -/
theorem split_pts (c : UInt8) : ∀ (n : Nat) (s : ByteArray), s.size < n → (splitB ⟨#[c]⟩ 0 (countB s ⟨#[c]⟩) s).map (fun x => x.data.toList) = pts c s.data.toList
  | 0, s, h => by omega
  | n + 1, s, h => by
    have hz : (ByteArray.mk #[c]).size = 1 := rfl
    have hsl : s.data.toList.length = s.size := Array.length_toList
    by_cases hi : index s.data.toList [c] = -1
    · have hi' : indexB s ⟨#[c]⟩ = -1 := hi
      rw [countB_miss s ⟨#[c]⟩ hi', splitB_zero, pts_none c _ hi]; rfl
    · obtain ⟨i, he⟩ : ∃ i : Nat, index s.data.toList [c] = (i : Int) := ⟨(index s.data.toList [c]).toNat, by have := index_ge s.data.toList [c]; omega⟩
      have he' : indexB s ⟨#[c]⟩ = (i : Int) := he
      obtain ⟨p1, p2⟩ := pts_some c _ i he
      have h1 := countB_hit s ⟨#[c]⟩ i (by rw [hz]; omega) he'
      rw [hz] at h1
      have h2 := splitB_hit ⟨#[c]⟩ 0 (countB (s.extract (i + 1) s.size) ⟨#[c]⟩) s i he'
      rw [hz] at h2
      rw [Nat.add_comm] at h1
      rw [h1, h2, List.map_cons, Nat.add_zero, ext0p, p2]
      refine congrArg (fun t => s.data.toList.take i :: t) ?_
      have hn : (s.extract (i + 1) s.size).size < n := by rw [ByteArray.size_extract]; omega
      rw [split_pts c n (s.extract (i + 1) s.size) hn, ext1p]
theorem split_len (c : UInt8) (s : ByteArray) : countB s ⟨#[c]⟩ + 1 = (pts c s.data.toList).length := by
  rw [← split_pts c (s.size + 1) s (Nat.lt_succ_self _), List.length_map]
  exact (splitB_all ⟨#[c]⟩ (Nat.le_refl 1) 0 _ s rfl).symm
end Go.Proofs.YtndpbhmokobbpaaGreatDoor

namespace Go.Proofs.YtndpbhmokobbpaaGreatDoor
open Go.RowKit
set_option linter.unusedVariables false

theorem own_iterAt {w : World} {base : Nat} {e : TypeId} {size : Nat} {v : Value} {n : Nat} {xs : List Value} (h : w.ownsRow base e size v n xs) {k p : Nat} {s : ByteArray} (hk : w.heap[k]? = some (.stringIter s p)) (q : Nat) :
    (w.iterAt k s q).ownsRow base e size v n xs := by
  obtain ⟨h1, h2⟩ := h
  refine ⟨h1, ?_⟩
  rcases h2 with h2 | ⟨g, cap, cur, a, b, c, d⟩
  · exact .inl h2
  · refine .inr ⟨g, cap, cur, a, b, ?_, d⟩
    have hne : g ≠ k := by rintro rfl; rw [c] at hk; cases hk
    rw [Lib.iterAt_other _ _ _ _ _ hne]; exact c

/-- Behind an append onto an own row an iterator stands as it stood, and what was there before the call is as it was. -/
theorem push_keep {B IT p : Nat} {s : ByteArray} {w W w1 : World} {e : TypeId} {v : Value} {n : Nat} {xs : List Value} {o : Obj} (hit : W.heap[IT]? = some (.stringIter s p)) (hown : W.ownsRow B e 1 v n xs)
    (hg : (W.alloc o).grownBy w1 v.ownBlock) (hb : Below B w W) (hB : B ≤ W.heap.size) : w1.heap[IT]? = some (.stringIter s p) ∧ Below B w w1 ∧ B ≤ w1.heap.size := by
  have hlt : IT < W.heap.size := (Array.getElem?_eq_some_iff.1 hit).1
  refine ⟨?_, (hb.alloc hB o).grown hg (by simp; omega) (fun j hj => (hown.lt j hj).1), ?_⟩
  · rw [hg.block IT (by simp; omega) ?_, Below.heap_alloc _ _ _ hlt]
    · exact hit
    · intro he
      rcases hown.2 with ⟨rfl, _⟩ | ⟨g, cap, cur, rfl, _, hh, _⟩
      · simp [Value.ownBlock] at he
      · simp [Value.ownBlock] at he
        subst he
        rw [hh] at hit; cases hit
  · have := hg.size
    simp at this; omega

/-- An own row is a slice of its length. -/
theorem own_form {w : World} {B e n : Nat} {v : Value} {xs : List Value} (h : w.ownsRow B e 1 v n xs) : ∃ a c, v = .slice a n c := by
  rcases h.2 with ⟨rfl, rfl⟩ | ⟨g, cap, cur, rfl, _⟩
  · exact ⟨none, 0, rfl⟩
  · exact ⟨_, _, rfl⟩

/-- The text of an own row of bytes. -/
def cellsOf (l : List UInt8) : List Value := l.map fun c => Value.int .u8 (c.toNat : Int)
theorem cellsOf_snoc (l : List UInt8) (c : UInt8) : cellsOf (l ++ [c]) = cellsOf l ++ [.int .u8 (c.toNat : Int)] := by simp [cellsOf]
theorem cellsOf_len (l : List UInt8) : (cellsOf l).length = l.length := by simp [cellsOf]
theorem own_text {P : Program} {w : World} {B : Nat} {e src dst : TypeId} {l : List UInt8} {v : Value} (hs : P.underlying src = some (.slice e)) (he : P.underlying e = some (.int .u8)) (hd : P.underlying dst = some .string)
    (h : w.ownsRow B e 1 v l.length (cellsOf l)) : (convert src dst v).run P w = .ok (.string ⟨l.toArray⟩) w := by
  rcases h.2 with ⟨rfl, h0⟩ | ⟨g, cap, cur, rfl, _, _⟩
  · have : l = [] := List.eq_nil_of_length_eq_zero h0
    subst this
    rw [run_convert_bytes_nil w src e hs he 0 0 dst hd]; rfl
  · refine run_convert_bytes_back w src dst e _ cap l hs he hd fun j hj => ?_
    refine h.cells (g := g) rfl j _ ?_
    simp [cellsOf, List.getElem?_eq_getElem hj]

theorem own_push_u8 {w1 : World} {B e : Nat} {v : Value} {l : List UInt8} {x : Int} (c : UInt8) (hx : x = (c.toNat : Int)) (h : w1.ownsRow B e 1 v (l.length + 1) (cellsOf l ++ [.int .u8 x])) : w1.ownsRow B e 1 v (l ++ [c]).length (cellsOf (l ++ [c])) := by
  rw [cellsOf_snoc, ← hx]; simpa using h
theorem one_cell (x : Value) (h : x.oneCell' = true) : ∀ u ∈ [x], u.oneCell' = true := by
  intro u hu; simp at hu; rw [hu]; exact h
theorem ret_bool {a b : Bool} (h : a = b) : Ending.returned (.bool a) = .returned (.bool b) := by rw [h]
theorem ret_int {k : IntKind} {a b : Int} (h : a = b) : Ending.returned (.int k a) = .returned (.int k b) := by rw [h]
/-- What the walk is told of a list of numbers that came in. -/
def IsRow (k : IntKind) (w : World) (a : Option Addr) (len cap : Nat) (zs : List Int) : Prop :=
  (a = none ∧ len = 0 ∧ cap = 0 ∧ zs = []) ∨
  ∃ x, a = some x ∧ len ≤ cap ∧ cap ≤ maxLen ∧ zs.length = cap ∧ (∀ i, i < zs.length → w.cell? (x.add i) = some (.int k (zs.getD i 0))) ∧ ∀ n ∈ zs, (Lit.int k n).wf = true
end Go.Proofs.YtndpbhmokobbpaaGreatDoor
