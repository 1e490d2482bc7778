/-
  The walks of the laws' own functions that copy and mark lists of lists of numbers. Conditions: where the lists lie, and the lengths that are typed.
-/
import Derived.Test.YtnghpipkdodgiaaWiss
namespace Go.Proofs.Ytnghpipkdodgiaa
open Go.RowKit
set_option linter.unusedVariables false

/-- The cells U of block b hold k rows of the call's own, one behind the other, all below block T. -/
def RowSS (w : World) (b T : Nat) (U : Array Value) (L : List (List Int)) (k : Nat) : Prop :=
  ∀ j, j < k → ∃ g, U[j]? = some (.slice (some ⟨g, 0, none⟩) (L.getD j []).length (L.getD j []).length) ∧ OwnL w (b + 1) (.slice (some ⟨g, 0, none⟩) (L.getD j []).length (L.getD j []).length) (L.getD j []) ∧ g < T ∧
    ∀ i, i < j → ∀ A m c, U[i]? = some (.slice (some A) m c) → A.block < g
/-- A copy of a list of lists, its top in block b, all of it below block T. -/
def OwnSS (w : World) (b T : Nat) (L : List (List Int)) : Prop := ∃ U : Array Value, Blk w b 24 U ∧ U.size = L.length ∧ RowSS w b T U L L.length
theorem RowSS.below {w w' : World} {b T : Nat} {U : Array Value} {L : List (List Int)} {k : Nat} (h : RowSS w b T U L k) (hb : Below w.heap.size w w') : RowSS w' b T U L k := by
  intro j hj
  obtain ⟨g, h1, h2, h3, h4⟩ := h j hj
  exact ⟨g, h1, OwnL.below h2 hb (Nat.le_refl _), h3, h4⟩
theorem OwnSS.below {w w' : World} {b T : Nat} {L : List (List Int)} (h : OwnSS w b T L) (hb : Below w.heap.size w w') : OwnSS w' b T L := by
  obtain ⟨U, h1, h2, h3⟩ := h
  exact ⟨U, h1.below hb h1.lt, h2, h3.below hb⟩
theorem OwnSS.rds {w : World} {b T : Nat} {L : List (List Int)} (h : OwnSS w b T L) : RdsL w (.slice (some ⟨b, 0, none⟩) L.length L.length) L := by
  obtain ⟨U, h1, h2, h3⟩ := h
  refine ⟨_, _, rfl, fun _ => ⟨b, 0, rfl, h1.lt, fun j hj => ?_⟩⟩
  obtain ⟨g, e1, e2, _, _⟩ := h3 j hj
  exact ⟨_, by rw [h1.cell, Nat.zero_add]; exact e1, Rds.of_own e2, e2.proper⟩
theorem OwnSS.cap {w : World} {b T : Nat} {L : List (List Int)} (h : OwnSS w b T L) : CapL w (.slice (some ⟨b, 0, none⟩) L.length L.length) L := by
  obtain ⟨U, h1, h2, h3⟩ := h
  intro b' off c hv j hj A m c' hc
  injection hv with e1 e2 e3
  injection e1 with e1
  injection e1 with e4 e5
  subst e4; subst e5
  obtain ⟨g, e1, _⟩ := h3 j hj
  rw [h1.cell, Nat.zero_add, e1] at hc
  injection hc with hc
  injection hc with _ a2 a3
  omega
theorem RowSS.step {w w' : World} {b T k g : Nat} {U : Array Value} {L : List (List Int)} (h : RowSS w b T U L k) (hb : Below w.heap.size w w') (hk : k < U.size) (hg : T ≤ g) (hT : T ≤ w'.heap.size) (hgs : g < w'.heap.size) (ho : OwnL w' (b + 1) (.slice (some ⟨g, 0, none⟩) (L.getD k []).length (L.getD k []).length) (L.getD k [])) :
    RowSS w' b w'.heap.size (U.setIfInBounds k (.slice (some ⟨g, 0, none⟩) (L.getD k []).length (L.getD k []).length)) L (k + 1) := by
  intro j hj
  rcases (show j < k ∨ j = k from by omega) with hjk | rfl
  · obtain ⟨g', e1, e2, e3, e4⟩ := h j hjk
    refine ⟨g', by rw [Array.getElem?_setIfInBounds_ne (by omega)]; exact e1, OwnL.below e2 hb (Nat.le_refl _), by omega, fun i hi A m c hc => ?_⟩
    rw [Array.getElem?_setIfInBounds_ne (by omega)] at hc
    exact e4 i hi A m c hc
  · refine ⟨g, Array.getElem?_setIfInBounds_self_of_lt hk, ho, hgs, fun i hi A m c hc => ?_⟩
    rw [Array.getElem?_setIfInBounds_ne (by omega)] at hc
    obtain ⟨g', e1, _, e3, _⟩ := h i hi
    rw [e1] at hc
    injection hc with hc
    injection hc with a1 _ _
    injection a1 with a1
    subst a1
    show g' < g
    omega
theorem RowSS.mono {w : World} {b T T' k : Nat} {U : Array Value} {L : List (List Int)} (h : RowSS w b T U L k) (hT : T ≤ T') : RowSS w b T' U L k := by
  intro j hj
  obtain ⟨g, e1, e2, e3, e4⟩ := h j hj
  exact ⟨g, e1, e2, by omega, e4⟩
theorem made_top {w1 : World} {g n : Nat} (h : w1.ownsRow g 24 1 (.slice (some ⟨g, 0, none⟩) n n) n (madeCells (Value.slice none 0 0).cells (n * 1)).toList) : ∃ U : Array Value, Blk w1 g 24 U ∧ U.size = n := by
  rcases h.2 with ⟨h0, _⟩ | ⟨g', cap, cur, hv, hB, hg, hn, hcap, hcs, htk⟩
  · cases h0
  · simp only [Value.slice.injEq, Option.some.injEq, Addr.mk.injEq, and_true, true_and] at hv
    obtain ⟨rfl, rfl⟩ := hv
    exact ⟨cur, hg, by omega⟩
theorem RowSS.set {w : World} {b T k i : Nat} {U : Array Value} {L : List (List Int)} {u : Value} (h : RowSS w b T U L k) : RowSS (w.setCell ⟨b, i, none⟩ u) b T U L k := by
  intro j hj
  obtain ⟨g, e1, e2, e3, e4⟩ := h j hj
  exact ⟨g, e1, World.ownsRow.kept e2 (grown_set7 (g := b) (World.grownBy.refl w (some b))) (.inr (by have := (World.ownsRow.lt e2 g rfl).1; simp [Value.ownBlock]; omega)), e3, e4⟩

set_option maxHeartbeats 1600000 in
theorem toSS_any (w : World) (v : Value) (L : List (List Int)) (hv : RdsL w v L) (hL : L.length ≤ 1048576) (hn : ∀ k, (L.getD k []).length ≤ 1048576) :
    Calls Try.prog 7 #[v] w
      fun e w' => e = .returned (.slice (some ⟨w.heap.size, 0, none⟩) L.length L.length) ∧ OwnSS w' w.heap.size w'.heap.size L ∧ Below w.heap.size w w' := by
  have HVB := Lib.hid (fun wr (hb : Below w.heap.size w wr) => hv.more hb)
  obtain ⟨A, c, hvf⟩ := hv.form
  subst hvf
  have HN := Lib.hid hn
  obtain ⟨i0, hi, hz0, hz1, hz2⟩ := info_parts infoS
  have HI := Lib.hid hi
  have HZ0 := Lib.hid hz0
  have HZ1 := Lib.hid hz1
  have HZ2 := Lib.hid hz2
  clear hv hn hi hz0 hz1 hz2
  go_enter Try.func7, Try.ntmps7
  go_wp2_with (at_make; refine wpList_make_full _ rfl _ _ 22 rfl w.heap.size 24 i0 (.slice none 0 0) 1 Try.underlying22 HI.out HZ0.out HZ1.out _ _ _ _ L.length rfl rfl rfl rfl (by rw [HZ2.out]; omega) (by unfold maxLen; omega) (Nat.le_refl _) ?_; intro w1 hown1 hg1)
  have hz1 : w.heap.size < w1.heap.size := (World.ownsRow.lt hown1 _ rfl).2
  have HB1 := Lib.hid ((Below.refl w.heap.size w).grown hg1 (Nat.le_refl _) (fun k hk => by cases hk))
  obtain ⟨U0, hU0, hU0s⟩ := made_top hown1
  have HU0 := Lib.hid hU0
  clear hown1 hg1 HI HZ0 HZ1 HZ2 hU0
  go_loopw [4] (fun iv wr => ∃ (k : Nat) (U : Array Value), k ≤ L.length ∧ iv = .int .i64 k ∧ Blk wr w.heap.size 24 U ∧ U.size = L.length ∧ RowSS wr w.heap.size wr.heap.size U L k ∧ Below w.heap.size w wr ∧ w.heap.size < wr.heap.size) (fun iv _ => L.length - (intOf iv).toNat)
  case atStart => exact ⟨0, U0, Nat.zero_le _, rfl, HU0.out, hU0s, fun j hj => absurd hj (by omega), HB1.out, hz1⟩
  case round =>
    obtain ⟨k, U, hk, rfl, hblk, hus, hrow, hbel, hzr⟩ := hrel
    clear HU0 HB1 hz1
    by_cases hlt : k < L.length
    · obtain ⟨b, off, hb, hat⟩ := (HVB.out wr hbel).cells (by omega)
      subst hb
      obtain ⟨x, hx, hxr, _⟩ := hat.2 k hlt
      have HT := Lib.hid (toI_any wr x (L.getD k []) hxr (HN.out k))
      have HK := Lib.hid hblk
      have HR := Lib.hid hrow
      have HBE := Lib.hid hbel
      obtain ⟨wn, hwn⟩ : ∃ wn, wn = wr := ⟨_, rfl⟩
      subst hwn
      clear hat hxr hblk hrow hbel
      go_wp2_with fail
      refine HT.out.mono ?_
      rintro e w3 ⟨rfl, ho3, hb3⟩
      have hz3 := hb3.size
      have hg3 : wn.heap.size < w3.heap.size := (World.ownsRow.lt ho3 _ rfl).2
      have hk3 := HK.out.below hb3 (by omega)
      have HR3 := Lib.hid (HR.out.step hb3 (by omega) (Nat.le_refl _) hz3 hg3 (own_base7 (B := wn.heap.size) ho3 (by omega)))
      have HK3 := Lib.hid (hk3.set_ k (.slice (some ⟨wn.heap.size, 0, none⟩) (L.getD k []).length (L.getD k []).length))
      have HB3 := Lib.hid (below_grown (HBE.out.trans (hb3.mono (by omega))) (grown_set7 (g := w.heap.size) (i := k) (u := .slice (some ⟨wn.heap.size, 0, none⟩) (L.getD k []).length (L.getD k []).length) (World.grownBy.refl w3 (some w.heap.size))) (Nat.le_refl _) (by omega))
      have hco : w3.cell? ⟨w.heap.size, k, none⟩ = some (U[k]'(by omega)) := by rw [hk3.cell]; exact Array.getElem?_eq_getElem (by omega)
      have hfo := hk3.frozen k
      generalize (U[k]'(by omega)) = uo at hco
      generalize (L.getD k []).length = m at *
      clear ho3 hb3 hk3 HT HK HR HBE
      go_wp2
      go_roundw
      case rel => exact ⟨k + 1, _, by omega, by go_num, HK3.out, by rw [Array.size_setIfInBounds]; exact hus, (HR3.out.set).mono (by simp [World.setCell]), HB3.out, by simp [World.setCell]; omega⟩
      case measure => simp [intOf]; omega
    · obtain rfl : k = L.length := by omega
      have HF : Hid (OwnSS wr w.heap.size wr.heap.size L) := Lib.hid ⟨U, hblk, hus, hrow⟩
      have HBE := Lib.hid hbel
      clear hblk hrow hbel
      go_wp2
      go_ret
      exact ⟨rfl, HF.out, HBE.out⟩

/-- Only blocks from B on and below T have changed. -/
structure Within (B T : Nat) (w w' : World) : Prop where
  os : w'.os = w.os
  tape : w'.tape = w.tape
  output : w'.output = w.output
  size : w.heap.size ≤ w'.heap.size
  block : ∀ j, j < w.heap.size → (j < B ∨ T ≤ j) → w'.heap[j]? = w.heap[j]?
theorem Within.refl (B T : Nat) (w : World) : Within B T w w := ⟨rfl, rfl, rfl, Nat.le_refl _, fun _ _ _ => rfl⟩
theorem Within.grown {B T g : Nat} {w w1 w2 : World} (h : Within B T w w1) (hg : w1.grownBy w2 (some g)) (h1 : B ≤ g) (h2 : g < T) : Within B T w w2 :=
  ⟨hg.os.trans h.os, hg.tape.trans h.tape, hg.output.trans h.output, Nat.le_trans h.size hg.size, fun j hj hc => (hg.block j (Nat.lt_of_lt_of_le hj h.size) (fun e => by injection e with e; omega)).trans (h.block j hj hc)⟩
theorem Within.below {B T A : Nat} {w0 w w' : World} (hb : Below A w0 w) (h : Within B T w w') (hA : A ≤ B) (hs : A ≤ w.heap.size) : Below A w0 w' :=
  ⟨h.os.trans hb.os, h.tape.trans hb.tape, h.output.trans hb.output, Nat.le_trans hb.size h.size, fun j hj => (h.block j (by omega) (.inl (by omega))).trans (hb.block j hj)⟩
theorem Within.own {B T A : Nat} {w w' : World} {v : Value} {l : List Int} (h : Within B T w w') (ho : OwnL w A v l) (hg : ∀ g, v.ownBlock = some g → g < B ∨ T ≤ g) : OwnL w' A v l := by
  obtain ⟨h1, h2⟩ := ho
  refine ⟨h1, ?_⟩
  rcases h2 with h2 | ⟨g, cap, cur, e1, e2, e3, e4⟩
  · exact .inl h2
  · have hT := hg g (by rw [e1]; rfl)
    have hlt : g < w.heap.size := (Array.getElem?_eq_some_iff.1 e3).1
    exact .inr ⟨g, cap, cur, e1, e2, (h.block g hlt hT).trans e3, e4⟩

/-- The rows of a copy, whatever stands in them. -/
def RowAny (w : World) (b T : Nat) (U : Array Value) (L : List (List Int)) : Prop :=
  ∀ j, j < L.length → ∃ g xs, U[j]? = some (.slice (some ⟨g, 0, none⟩) (L.getD j []).length (L.getD j []).length) ∧ xs.length = (L.getD j []).length ∧ OwnL w (b + 1) (.slice (some ⟨g, 0, none⟩) (L.getD j []).length (L.getD j []).length) xs ∧ g < T ∧
    ∀ i, i < j → ∀ A m c, U[i]? = some (.slice (some A) m c) → A.block < g
theorem RowAny.next {w w' : World} {b T k g : Nat} {U : Array Value} {L : List (List Int)} {xs : List Int} (h : RowAny w b T U L) (hk : k < L.length) (hU : U[k]? = some (.slice (some ⟨g, 0, none⟩) (L.getD k []).length (L.getD k []).length)) (hx : xs.length = (L.getD k []).length) (ho : OwnL w' (b + 1) (.slice (some ⟨g, 0, none⟩) (L.getD k []).length (L.getD k []).length) xs) (hg : w.grownBy w' (some g)) : RowAny w' b T U L := by
  intro j hj
  obtain ⟨g', ys, e1, e2, e3, e4, e5⟩ := h j hj
  obtain ⟨gk, _, k1, _, _, k4, k5⟩ := h k hk
  rw [hU] at k1
  injection k1 with k1
  injection k1 with k1 _ _
  injection k1 with k1
  injection k1 with k1 _ _
  subst k1
  by_cases hjk : j = k
  · subst hjk
    exact ⟨g, xs, hU, hx, ho, k4, k5⟩
  · refine ⟨g', ys, e1, e2, World.ownsRow.kept e3 hg (.inr ?_), e4, e5⟩
    have : g' ≠ g := by
      rcases (show j < k ∨ k < j from by omega) with h' | h'
      · have : g' < g := k5 j h' _ _ _ e1
        omega
      · have : g < g' := e5 k h' _ _ _ hU
        omega
    show (some g' : Option Nat) ≠ some g
    simpa using this

set_option maxHeartbeats 1600000 in
theorem markSS_any (w : World) (b T : Nat) (L : List (List Int)) (h : OwnSS w b T L) (hL : L.length ≤ 1048576) (hn : allP L ≤ 1048576) :
    Calls Try.prog 11 #[.slice (some ⟨b, 0, none⟩) L.length L.length, .int .i64 1] w fun e w' => e = .returned (.int .i64 (1 + (allP L : Nat))) ∧ Within (b + 1) T w w' := by
  obtain ⟨U, hblk, hus, hrow⟩ := h
  have HK := Lib.hid hblk
  have HR : Hid (RowAny w b T U L) := Lib.hid (fun j hj => by
    obtain ⟨g, e1, e2, e3, e4⟩ := hrow j hj
    exact ⟨g, L.getD j [], e1, rfl, e2, e3, e4⟩)
  clear hblk hrow
  go_enter Try.func11, Try.ntmps11
  go_wp2
  go_loopw [1, 5] (fun cv iv wr => ∃ k : Nat, k ≤ L.length ∧ iv = .int .i64 k ∧ cv = .int .i64 (1 + (allP (L.take k) : Nat)) ∧ Blk wr b 24 U ∧ RowAny wr b T U L ∧ Within (b + 1) T w wr) (fun _ iv _ => L.length - (intOf iv).toNat)
  case atStart => exact ⟨0, Nat.zero_le _, rfl, rfl, HK.out, HR.out, Within.refl _ _ _⟩
  case round =>
    obtain ⟨k, hk, rfl, rfl, hblk, hrow, hwi⟩ := hrel
    clear HK HR
    by_cases hlt : k < L.length
    · obtain ⟨g, xs, e1, e2, e3, e4, e5⟩ := hrow k hlt
      have hle := allP_take_le L k hlt
      have HS := Lib.hid (allP_snoc6 L k hlt)
      have hgb := (World.ownsRow.lt e3 g rfl).1
      have hcu : wr.cell? ⟨b, k, none⟩ = some (.slice (some ⟨g, 0, none⟩) (L.getD k []).length (L.getD k []).length) := by rw [hblk.cell]; exact e1
      have hm := markI_any wr (b + 1) (.slice (some ⟨g, 0, none⟩) (L.getD k []).length (L.getD k []).length) xs (1 + (allP (L.take k) : Nat)) (by omega) (by omega) (by omega) e3
      rw [e2] at hm
      have HM := Lib.hid hm
      have HNX := Lib.hid (fun (w' : World) (ys : List Int) hx ho hg => hrow.next (w' := w') (xs := ys) hlt e1 hx ho hg)
      have HK2 := Lib.hid hblk
      have HWI := Lib.hid hwi
      obtain ⟨wn, hwn⟩ : ∃ wn, wn = wr := ⟨_, rfl⟩
      subst hwn
      clear hm hrow hblk hwi e3 e5 e1
      generalize hmm : (L.getD k []).length = m at *
      generalize allP (L.take k) = t at *
      go_wp2_with fail
      refine HM.out.mono ?_
      rintro e w3 ⟨rfl, ho3, hg3⟩
      have hg3' : wn.grownBy w3 (some g) := hg3
      have HR3 := Lib.hid (HNX.out w3 (seqI (1 + (t : Int)) m) (by rw [seqI_len]) (by unfold OwnL; rw [seqI_len]; exact ho3) hg3')
      have HK3 : Hid (Blk w3 b 24 U) := Lib.hid ((hg3'.block b HK2.out.lt (by simp; omega)).trans HK2.out)
      have HW3 := Lib.hid (HWI.out.grown hg3' hgb e4)
      clear ho3 hg3 hg3' HM HNX HK2 HWI
      go_wp2
      go_roundw
      case rel => exact ⟨k + 1, by omega, by go_num, by rw [HS.out]; go_num, HK3.out, HR3.out, HW3.out⟩
      case measure => simp [intOf]; omega
    · obtain rfl : k = L.length := by omega
      have HW := Lib.hid hwi
      rw [List.take_length]
      clear hblk hrow hwi
      go_wp2
      go_ret
      exact ⟨rfl, HW.out⟩
end Go.Proofs.Ytnghpipkdodgiaa
