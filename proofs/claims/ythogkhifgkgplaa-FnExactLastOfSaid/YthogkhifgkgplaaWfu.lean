/-
  The walks of the laws' functions that copy and mark lists of fields. Conditions: where the lists lie, and the lengths that are typed.
-/
import Derived.Test.YthogkhifgkgplaaWft
namespace Go.Proofs.Ythogkhifgkgplaa
open Go.RowKit
set_option linter.unusedVariables false

theorem infoF : (Try.prog.info? 40).map (fun i => (i.zero, i.size, i.bytes)) = some (some (.agg #[.int .i64 0, .slice none 0 0]), 2, 32) := by kernel_rfl

/-- The cells U of block b hold k fields, their bytes in rows of the call's own, one behind the other, all below block T. -/
def RowFS (w : World) (b T : Nat) (U : Array Value) (L : List Fd) (k : Nat) : Prop :=
  ∀ j, j < k → ∃ g, U[j * 2]? = some (.int .i64 (L.getD j f0).t) ∧ U[j * 2 + 1]? = some (.slice (some ⟨g, 0, none⟩) (L.getD j f0).b.length (L.getD j f0).b.length) ∧ OwnL w (b + 1) (.slice (some ⟨g, 0, none⟩) (L.getD j f0).b.length (L.getD j f0).b.length) (L.getD j f0).b ∧ g < T ∧
    ∀ i, i < j → ∀ A m c, U[i * 2 + 1]? = some (.slice (some A) m c) → A.block < g
/-- A copy of a list of fields, its top in block b, all of it below block T. -/
def OwnFS (w : World) (b T : Nat) (L : List Fd) : Prop := ∃ U : Array Value, Blk w b 40 U ∧ U.size = L.length * 2 ∧ RowFS w b T U L L.length
theorem RowFS.below {w w' : World} {b T : Nat} {U : Array Value} {L : List Fd} {k : Nat} (h : RowFS w b T U L k) (hb : Below w.heap.size w w') : RowFS w' b T U L k := by
  intro j hj
  obtain ⟨g, h0, h1, h2, h3, h4⟩ := h j hj
  exact ⟨g, h0, h1, OwnL.below h2 hb (Nat.le_refl _), h3, h4⟩
theorem OwnFS.below {w w' : World} {b T : Nat} {L : List Fd} (h : OwnFS w b T L) (hb : Below w.heap.size w w') : OwnFS w' b T L := by
  obtain ⟨U, h1, h2, h3⟩ := h
  exact ⟨U, h1.below hb h1.lt, h2, h3.below hb⟩
theorem OwnFS.rds {w : World} {b T : Nat} {L : List Fd} (h : OwnFS w b T L) : FRds w (.slice (some ⟨b, 0, none⟩) L.length L.length) L := by
  obtain ⟨U, h1, h2, h3⟩ := h
  refine ⟨_, _, rfl, fun _ => ⟨b, 0, rfl, h1.lt, fun j hj => ?_⟩⟩
  obtain ⟨g, e0, e1, e2, _, _⟩ := h3 j hj
  exact ⟨by rw [h1.cell, Nat.zero_add]; exact e0, _, by rw [h1.cell, Nat.zero_add]; exact e1, OwnL.rds e2, OwnL.proper e2⟩
theorem RowFS.step {w w' : World} {b T k g : Nat} {U : Array Value} {L : List Fd} (h : RowFS w b T U L k) (hb : Below w.heap.size w w') (hk : k * 2 + 1 < U.size) (hg : T ≤ g) (hT : T ≤ w'.heap.size) (hgs : g < w'.heap.size) (ho : OwnL w' (b + 1) (.slice (some ⟨g, 0, none⟩) (L.getD k f0).b.length (L.getD k f0).b.length) (L.getD k f0).b) :
    RowFS w' b w'.heap.size ((U.setIfInBounds (k * 2) (.int .i64 (L.getD k f0).t)).setIfInBounds (k * 2 + 1) (.slice (some ⟨g, 0, none⟩) (L.getD k f0).b.length (L.getD k f0).b.length)) L (k + 1) := by
  intro j hj
  rcases (show j < k ∨ j = k from by omega) with hjk | rfl
  · obtain ⟨g', e0, e1, e2, e3, e4⟩ := h j hjk
    refine ⟨g', ?_, ?_, OwnL.below e2 hb (Nat.le_refl _), by omega, fun i hi A m c hc => ?_⟩
    · rw [Array.getElem?_setIfInBounds_ne (by omega), Array.getElem?_setIfInBounds_ne (by omega)]; exact e0
    · rw [Array.getElem?_setIfInBounds_ne (by omega), Array.getElem?_setIfInBounds_ne (by omega)]; exact e1
    · rw [Array.getElem?_setIfInBounds_ne (by omega), Array.getElem?_setIfInBounds_ne (by omega)] at hc
      exact e4 i hi A m c hc
  · refine ⟨g, ?_, Array.getElem?_setIfInBounds_self_of_lt (by rw [Array.size_setIfInBounds]; omega), ho, hgs, fun i hi A m c hc => ?_⟩
    · rw [Array.getElem?_setIfInBounds_ne (by omega)]; exact Array.getElem?_setIfInBounds_self_of_lt (by omega)
    · rw [Array.getElem?_setIfInBounds_ne (by omega), Array.getElem?_setIfInBounds_ne (by omega)] at hc
      obtain ⟨g', _, e1, _, e3, _⟩ := h i hi
      rw [e1] at hc
      injection hc with hc
      injection hc with a1 _ _
      injection a1 with a1
      subst a1
      show g' < g
      omega
theorem RowFS.mono {w : World} {b T T' k : Nat} {U : Array Value} {L : List Fd} (h : RowFS w b T U L k) (hT : T ≤ T') : RowFS w b T' U L k := by
  intro j hj
  obtain ⟨g, e0, e1, e2, e3, e4⟩ := h j hj
  exact ⟨g, e0, e1, e2, by omega, e4⟩
theorem made_topF {w1 : World} {g n : Nat} (h : w1.ownsRow g 40 2 (.slice (some ⟨g, 0, none⟩) n n) n (madeCells (Value.agg #[.int .i64 0, .slice none 0 0]).cells (n * 2)).toList) : ∃ U : Array Value, Blk w1 g 40 U ∧ U.size = n * 2 := by
  rcases h.2 with ⟨h0, _⟩ | ⟨g', cap, cur, hv, hB, hg, hn, hcap, hcs, htk⟩
  · cases h0
  · simp only [Value.slice.injEq, Option.some.injEq, Addr.mk.injEq, and_true, true_and] at hv
    obtain ⟨rfl, rfl⟩ := hv
    exact ⟨cur, hg, by omega⟩
theorem RowFS.set {w : World} {b T k i : Nat} {U : Array Value} {L : List Fd} {u : Value} (h : RowFS w b T U L k) : RowFS (w.setCell ⟨b, i, none⟩ u) b T U L k := by
  intro j hj
  obtain ⟨g, e0, e1, e2, e3, e4⟩ := h j hj
  exact ⟨g, e0, e1, World.ownsRow.kept e2 (grown_set7 (g := b) (World.grownBy.refl w (some b))) (.inr (by have := (World.ownsRow.lt e2 g rfl).1; simp [Value.ownBlock]; omega)), e3, e4⟩

set_option maxHeartbeats 3200000 in
theorem toFS_any (w : World) (v : Value) (L : List Fd) (hv : FRds w v L) (hL : L.length ≤ 1048576) (hn : ∀ k, (L.getD k f0).b.length ≤ 1048576) :
    Calls Try.prog 8 #[v] w
      fun e w' => e = .returned (.slice (some ⟨w.heap.size, 0, none⟩) L.length L.length) ∧ OwnFS w' w.heap.size w'.heap.size L ∧ Below w.heap.size w w' ∧ w.heap.size < w'.heap.size := by
  have HVB := Lib.hid (fun wr (hb : Below w.heap.size w wr) => hv.more hb)
  obtain ⟨A, c, hvf⟩ := hv.form
  subst hvf
  have HN := Lib.hid hn
  obtain ⟨i0, hi, hz0, hz1, hz2⟩ := info_parts infoF
  have HI := Lib.hid hi
  have HZ0 := Lib.hid hz0
  have HZ1 := Lib.hid hz1
  have HZ2 := Lib.hid hz2
  clear hv hn hi hz0 hz1 hz2
  go_enter Try.func8, Try.ntmps8
  go_wp2_with (at_make; refine wpList_make_full _ rfl _ _ 26 rfl w.heap.size 40 i0 (.agg #[.int .i64 0, .slice none 0 0]) 2 Try.underlying26 HI.out HZ0.out HZ1.out _ _ _ _ L.length rfl rfl rfl rfl (by rw [HZ2.out]; omega) (by unfold maxLen; omega) (Nat.le_refl _) ?_; intro w1 hown1 hg1)
  have hz1 : w.heap.size < w1.heap.size := (World.ownsRow.lt hown1 _ rfl).2
  have HB1 := Lib.hid ((Below.refl w.heap.size w).grown hg1 (Nat.le_refl _) (fun k hk => by cases hk))
  obtain ⟨U0, hU0, hU0s⟩ := made_topF hown1
  have HU0 := Lib.hid hU0
  clear hown1 hg1 HI HZ0 HZ1 HZ2 hU0
  go_loopw [4] (fun iv wr => ∃ (k : Nat) (U : Array Value), k ≤ L.length ∧ iv = .int .i64 k ∧ Blk wr w.heap.size 40 U ∧ U.size = L.length * 2 ∧ RowFS wr w.heap.size wr.heap.size U L k ∧ Below w.heap.size w wr ∧ w.heap.size < wr.heap.size) (fun iv _ => L.length - (intOf iv).toNat)
  case atStart => exact ⟨0, U0, Nat.zero_le _, rfl, HU0.out, hU0s, fun j hj => absurd hj (by omega), HB1.out, hz1⟩
  case round =>
    obtain ⟨k, U, hk, rfl, hblk, hus, hrow, hbel, hzr⟩ := hrel
    clear HU0 HB1 hz1
    by_cases hlt : k < L.length
    · obtain ⟨b, off, hb, hat⟩ := (HVB.out wr hbel).cells (by omega)
      subst hb
      obtain ⟨x0, u, x1, hu, _⟩ := hat.2 k hlt
      have hnk := HN.out k
      have HT0 := Lib.hid (fun t bs (h : Rds wr u bs) (hn : bs.length ≤ 1048576) => toF_any t bs u wr h hn)
      have HT := Lib.hid (HT0.out (L.getD k f0).t (L.getD k f0).b hu hnk)
      obtain ⟨Au, cu, rfl, _⟩ := id hu
      clear HT0
      have HK := Lib.hid hblk
      have HR := Lib.hid (fun w' g h1 h2 h3 h4 h5 => RowFS.step (w' := w') (g := g) hrow h1 (by omega) h2 h3 h4 h5)
      have HBE := Lib.hid hbel
      clear hat hu hblk hrow hbel HVB
      generalize (L.getD k f0).b = bs at *
      generalize (L.getD k f0).t = t at *
      obtain ⟨wn, hwn⟩ : ∃ wn, wn = wr := ⟨_, rfl⟩
      subst hwn
      go_wp2_with fail
      refine HT.out.mono ?_
      rintro e w3 ⟨g, rfl, hge, hgl, ho3, hb3⟩
      have hz3 := hb3.size
      have hk3 := HK.out.below hb3 (by omega)
      have HR3 := Lib.hid (HR.out w3 g hb3 hge hz3 hgl (ho3.base (by omega)))
      have HK3 := Lib.hid ((hk3.set_ (k * 2) (.int .i64 t)).set_ (k * 2 + 1) (.slice (some ⟨g, 0, none⟩) bs.length bs.length))
      have HB3 := Lib.hid (below_grown (HBE.out.trans (hb3.mono (by omega))) (grown_set7 (g := w.heap.size) (i := k * 2 + 1) (u := .slice (some ⟨g, 0, none⟩) bs.length bs.length) (grown_set7 (g := w.heap.size) (i := k * 2) (u := .int .i64 t) (World.grownBy.refl w3 (some w.heap.size)))) (Nat.le_refl _) (by omega))
      have hco : w3.cell? ⟨w.heap.size, k * 2, none⟩ = some (U[k * 2]'(by omega)) := by rw [hk3.cell]; exact Array.getElem?_eq_getElem (by omega)
      have hcp : w3.cell? ⟨w.heap.size, k * 2 + 1, none⟩ = some (U[k * 2 + 1]'(by omega)) := by rw [hk3.cell]; exact Array.getElem?_eq_getElem (by omega)
      have hfo := hk3.frozen (k * 2)
      have hfp := hk3.frozen (k * 2 + 1)
      generalize (U[k * 2]'(by omega)) = uo at hco
      generalize (U[k * 2 + 1]'(by omega)) = up at hcp
      generalize bs.length = m at *
      clear ho3 hb3 hk3 HT HK HR HBE
      go_wp2
      go_roundw
      case rel => exact ⟨k + 1, _, by omega, by go_num, HK3.out, by rw [Array.size_setIfInBounds, Array.size_setIfInBounds]; exact hus, ((HR3.out.set).set).mono (by simp [World.setCell]), HB3.out, by simp [World.setCell]; omega⟩
      case measure => simp [intOf]; omega
    · obtain rfl : k = L.length := by omega
      have HF : Hid (OwnFS wr w.heap.size wr.heap.size L) := Lib.hid ⟨U, hblk, hus, hrow⟩
      have HBE := Lib.hid hbel
      clear hblk hrow hbel
      go_wp2
      go_ret
      exact ⟨rfl, HF.out, HBE.out, hzr⟩
end Go.Proofs.Ythogkhifgkgplaa
