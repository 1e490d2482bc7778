/-
  The walks of the program's functions that order pieces. Conditions: where the lists lie, and the lengths that are typed.
-/
import Derived.Test.YteililppbnbfhaaPru
import Derived.Test.YteililppbnbfhaaShelf
import Derived.Laws.CopyRow
import Derived.Laws.CopyOwn
namespace Go.Proofs.Yteililppbnbfhaa
open Go.RowKit Go.Sort Go.Lib
set_option linter.unusedVariables false

instance : Inhabited Pc := ⟨d0⟩
theorem flat_pcs (ts : List Pc) : (flatK Pc.cs 3 ts.toArray).toList = pcs ts := by
  apply List.ext_getElem?
  intro t
  by_cases ht : t < ts.length * 3
  · have h1 : t < (flatK Pc.cs 3 ts.toArray).size := by rw [size_flatK]; simpa using ht
    rw [Array.getElem?_toList, Array.getElem?_eq_getElem h1]
    have h2 := get_flatK Pc.cs 3 ts.toArray t (by simpa using ht)
    rw [getElem!_pos _ t h1] at h2
    rw [h2]
    have hk : t / 3 < ts.length := by omega
    obtain ⟨g0, g1, g2⟩ := pcs_get ts (t / 3) hk
    have e : (ts.toArray)[t / 3]! = ts.getD (t / 3) d0 := by
      rw [getElem!_pos _ _ (by simpa using hk)]
      simp [List.getD_eq_getElem?_getD, List.getElem?_eq_getElem hk]
    rw [e]
    rcases (show t % 3 = 0 ∨ t % 3 = 1 ∨ t % 3 = 2 from by omega) with h | h | h
    · rw [show t = t / 3 * 3 from by omega] 
      rw [g0, show t / 3 * 3 / 3 = t / 3 from by omega, show t / 3 * 3 % 3 = 0 from by omega]; rfl
    · rw [show t = t / 3 * 3 + 1 from by omega]
      rw [show (t / 3 * 3 + 1) / 3 = t / 3 from by omega, show (t / 3 * 3 + 1) % 3 = 1 from by omega, g1]; rfl
    · rw [show t = t / 3 * 3 + 2 from by omega]
      rw [show (t / 3 * 3 + 2) / 3 = t / 3 from by omega, show (t / 3 * 3 + 2) % 3 = 2 from by omega, g2]; rfl
  · rw [List.getElem?_eq_none (by simp; omega), List.getElem?_eq_none (by rw [pcs_len]; omega)]

set_option maxHeartbeats 1000000 in
theorem bp_any (x y : Pc) (W : World) : Calls Try.prog 33 #[.agg (Pc.cs x).toArray, .agg (Pc.cs y).toArray] W fun e w' => e = .returned (.int .i64 (Lib.compareInt x.a y.a)) ∧ ∃ q os', w' = grow (W.drewN q) os' := by
  have hcon := fun W' => AnyG.cmp_Compare_int Try.cmpInt x.a y.a W'
  change ∀ W', Calls Try.prog 45 _ _ _ at hcon
  have HC := Lib.hid hcon
  clear hcon
  obtain ⟨xa, xs, xm⟩ := x
  obtain ⟨ya, ys, ym⟩ := y
  unfold Pc.cs
  simp only at HC ⊢
  generalize Lib.compareInt xa ya = r at HC ⊢
  go_enter Try.func33, Try.ntmps33
  go_wp2_with (go_at_call 45; refine (HC.out _).mono ?_; rintro e w' ⟨rfl, rfl⟩)
  go_ret
  exact ⟨rfl, 0, _, by rw [alloc_eq_grow, alloc_eq_grow, grow_grow]; rfl⟩
theorem bp_lays (blk off size : Nat) (w : World) : CmpLays Try.prog 33 #[] Pc.cs 3 (fun x y => Lib.compareInt x.a y.a) blk off size w :=
  fun _ _ _ _ x y => bp_any x y _
theorem lt_a (x y : Pc) : ltOf (fun x y : Pc => Lib.compareInt x.a y.a) x y = decide (x.a < y.a) := by
  unfold ltOf Lib.compareInt
  by_cases h1 : x.a < y.a
  · simp [h1]
  · by_cases h2 : y.a < x.a <;> simp [h1, h2]
theorem swo_a : SWO (ltOf fun x y : Pc => Lib.compareInt x.a y.a) where
  irrefl x := by rw [lt_a]; simp
  trans x y z h1 h2 := by rw [lt_a] at *; simp at *; omega
  ntrans x y z h1 h2 := by rw [lt_a] at *; simp at *; omega

theorem heap_sorted3 {w : World} {g n : Nat} {os : Array Obj} {cur : Array Value} {e : TypeId} {fr : Nat × Nat} (F : Array Value) (hb : w.heap[g]? = some (.cells cur e fr)) :
    (grow (putRow id (Sort.ahead w n) g 0 F) os).heap[g]? = some (.cells (putCells id 0 F cur) e fr) := by
  have hg : g < w.heap.size := (Array.getElem?_eq_some_iff.1 hb).1
  rw [heap_grow_old _ _ (by simpa using hg)]
  simp [putRow, mapBlock, Sort.ahead, Array.getElem?_modify, hb]
  rfl
theorem grownBy_sorted3 {w : World} {g n : Nat} {os : Array Obj} (F : Array Value) : w.grownBy (grow (putRow id (Sort.ahead w n) g 0 F) os) (some g) := by
  refine ⟨rfl, rfl, rfl, by simp, fun k hk hne => ?_⟩
  rw [heap_grow_old _ _ (by simpa using hk)]
  have : g ≠ k := fun e => hne (by rw [e])
  simp [putRow, mapBlock, Sort.ahead, Array.getElem?_modify, this]
theorem take_putCells3 (cur F : Array Value) (h : F.size ≤ cur.size) : (putCells id 0 F cur).toList.take F.size = F.toList := by
  apply List.ext_getElem?
  intro j
  by_cases hj : j < F.size
  · rw [List.getElem?_take_of_lt hj, Array.getElem?_toList, Array.getElem?_toList]
    simp [putCells, hj, show j < cur.size by omega]
  · rw [List.getElem?_take_eq_none (by omega), List.getElem?_eq_none (by simp; omega)]

/-- Pieces are ordered by their places. -/
theorem sort_any (w : World) (B g cap n : Nat) (ps : List Pc) (hl : ps.length = n) (hn : n ≤ 1000) (h : OwnP w B (.slice (some ⟨g, 0, none⟩) n cap) ps) :
    Calls Try.prog 32 #[.slice (some ⟨g, 0, none⟩) n cap, .func (.func 33) #[] #[]] w
      fun e w' => e = .returned (.tuple #[]) ∧ ∃ ts : List Pc, ts.Perm ps ∧ ts.Pairwise (fun p q => p.a ≤ q.a) ∧ OwnP w' B (.slice (some ⟨g, 0, none⟩) n cap) ts ∧ w.grownBy w' (some g) := by
  subst hl
  have eg : ∀ args w, (callFunc 33 args).run Try.prog w = .ok (.enter 33 args) w := enters_of Try.func33 (by kernel_rfl) rfl
  have hlt := World.ownsRow.lt h g rfl
  have hH : HoldsK Pc.cs 3 w g 0 ps.toArray := by
    intro j hj
    have hj' : j < ps.length * 3 := by simpa using hj
    have e1 : (pcs ps)[j]? = some ((flatK Pc.cs 3 ps.toArray)[j]!) := by
      rw [← flat_pcs, Array.getElem?_toList, getElem!_pos _ j hj, Array.getElem?_eq_getElem hj]
    refine ⟨?_, World.ownsRow.frozenAt h _⟩
    rw [Nat.zero_add, World.ownsRow.cellAt h j hj', e1]; rfl
  have hcon := AnyQ.slices_SortFunc Try.sortP 3 Try.isAgg38 Try.sizeOf38 Pc.cs (fun _ => rfl) (fun x v hv => by simp [Pc.cs] at hv; rcases hv with rfl | rfl | rfl <;> rfl) (fun x y => Lib.compareInt x.a y.a) swo_a 33 #[] g 0 cap ps.toArray w eg (bp_lays g 0 ps.toArray.size w) hH hlt.2 (by simp; omega)
  change Calls Try.prog 32 _ _ _ at hcon
  have hsz : ps.toArray.size = ps.length := by simp
  rw [hsz] at hcon
  refine hcon.mono ?_
  rintro e w' ⟨rfl, d', m, os, ⟨hp1, _, hp3⟩, hs, rfl⟩
  have hd : d'.size = ps.length := by rw [hp1, hsz]
  have hperm : d'.toList.Perm ps := by
    have e1 : (d'.extract 0 ps.length) = d' := by rw [← hd]; simp
    have e2 : (ps.toArray.extract 0 ps.length) = ps.toArray := by simp
    rw [e1, e2] at hp3
    simpa using hp3
  refine ⟨rfl, d'.toList, hperm, ?_, ?_, grownBy_sorted3 _⟩
  · rw [List.pairwise_iff_getElem]
    intro i j hi hj hij
    have hi' : i < d'.size := by simpa using hi
    have hj' : j < d'.size := by simpa using hj
    have := hs i j (Nat.zero_le _) hij (by omega)
    rw [lt_a, getElem!_pos d' j hj', getElem!_pos d' i hi'] at this
    simp only [Array.getElem_toList]
    simpa using this
  · rcases h.2 with ⟨h', _⟩ | ⟨g', cap', cur, h', hb, hg, hnc, hcm, hcs, _⟩
    · simp at h'
    · simp only [Value.slice.injEq, Option.some.injEq, Addr.mk.injEq, and_true, true_and] at h'
      obtain ⟨rfl, rfl⟩ := h'
      have hF : (flatK Pc.cs 3 d').size = ps.length * 3 := by rw [size_flatK, hd]
      have hfl : (flatK Pc.cs 3 d').toList = pcs d'.toList := by
        have := flat_pcs d'.toList
        simpa using this
      unfold OwnP
      rw [show d'.toList.length = ps.length from by simpa using hd]
      refine ⟨by rw [pcs_len]; simp [hd], .inr ⟨g, cap, _, rfl, hb, heap_sorted3 _ hg, hnc, hcm, by simp [putCells, hcs], ?_⟩⟩
      rw [← hF, take_putCells3 _ _ (by rw [hF, hcs]; exact Nat.mul_le_mul_right 3 hnc), hfl]
end Go.Proofs.Yteililppbnbfhaa
