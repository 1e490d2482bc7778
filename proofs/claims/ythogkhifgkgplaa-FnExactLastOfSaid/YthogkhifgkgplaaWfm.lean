/-
  The walk of the laws' function that marks lists of fields. Conditions: where the lists lie, and the lengths that are typed.
-/
import Derived.Test.YthogkhifgkgplaaWfu
namespace Go.Proofs.Ythogkhifgkgplaa
open Go.RowKit
set_option linter.unusedVariables false

/-- Only blocks from B on and below T have changed. -/
structure Within (B T : Nat) (w w' : World) : Prop where
  os : w'.os = w.os
  tape : w'.tape = w.tape
  output : w'.output = w.output
  size : w.heap.size ≤ w'.heap.size
  block : ∀ j, j < w.heap.size → (j < B ∨ T ≤ j) → w'.heap[j]? = w.heap[j]?
theorem Within.refl (B T : Nat) (w : World) : Within B T w w := ⟨rfl, rfl, rfl, Nat.le_refl _, fun _ _ _ => rfl⟩
theorem Within.grown {B T g : Nat} {w w1 w2 : World} (h : Within B T w w1) (hg : w1.grownBy w2 (some g)) (h1 : B ≤ g) (h2 : g < T) : Within B T w w2 :=
  ⟨hg.os.trans h.os, hg.tape.trans h.tape, hg.output.trans h.output, Nat.le_trans h.size hg.size, fun j hj hc => (hg.block j (Nat.lt_of_lt_of_le hj h.size) (fun e => by injection e with e; omega)).trans (h.block j hj hc)⟩
theorem Within.below {B T A : Nat} {w0 w w' : World} (hb : Below A w0 w) (h : Within B T w w') (hA : A ≤ B) (hs : A ≤ w.heap.size) : Below A w0 w' :=
  ⟨h.os.trans hb.os, h.tape.trans hb.tape, h.output.trans hb.output, Nat.le_trans hb.size h.size, fun j hj => (h.block j (by omega) (.inl (by omega))).trans (hb.block j hj)⟩
theorem Within.own {B T A : Nat} {w w' : World} {v : Value} {l : List Int} (h : Within B T w w') (ho : OwnL w A v l) (hg : ∀ g, v.ownBlock = some g → g < B ∨ T ≤ g) : OwnL w' A v l := by
  obtain ⟨h1, h2⟩ := ho
  refine ⟨h1, ?_⟩
  rcases h2 with h2 | ⟨g, cap, cur, e1, e2, e3, e4⟩
  · exact .inl h2
  · have hT := hg g (by rw [e1]; rfl)
    have hlt : g < w.heap.size := (Array.getElem?_eq_some_iff.1 e3).1
    exact .inr ⟨g, cap, cur, e1, e2, (h.block g hlt hT).trans e3, e4⟩

/-- The bytes of a copy's fields, whatever stands in them. -/
def FowAny (w : World) (b T : Nat) (U : Array Value) (L : List Fd) : Prop :=
  ∀ j, j < L.length → ∃ g xs, U[j * 2 + 1]? = some (.slice (some ⟨g, 0, none⟩) (L.getD j f0).b.length (L.getD j f0).b.length) ∧ xs.length = (L.getD j f0).b.length ∧ OwnL w (b + 1) (.slice (some ⟨g, 0, none⟩) (L.getD j f0).b.length (L.getD j f0).b.length) xs ∧ g < T ∧
    ∀ i, i < j → ∀ A m c, U[i * 2 + 1]? = some (.slice (some A) m c) → A.block < g
theorem FowAny.next {w w' : World} {b T k g : Nat} {U : Array Value} {L : List Fd} {xs : List Int} (h : FowAny w b T U L) (hk : k < L.length) (hU : U[k * 2 + 1]? = some (.slice (some ⟨g, 0, none⟩) (L.getD k f0).b.length (L.getD k f0).b.length)) (hx : xs.length = (L.getD k f0).b.length) (ho : OwnL w' (b + 1) (.slice (some ⟨g, 0, none⟩) (L.getD k f0).b.length (L.getD k f0).b.length) xs) (hg : w.grownBy w' (some g)) : FowAny w' b T U L := by
  intro j hj
  obtain ⟨g', ys, e1, e2, e3, e4, e5⟩ := h j hj
  obtain ⟨gk, _, k1, _, _, k4, k5⟩ := h k hk
  rw [hU] at k1
  injection k1 with k1
  injection k1 with k1 _ _
  injection k1 with k1
  injection k1 with k1 _ _
  subst k1
  by_cases hjk : j = k
  · subst hjk
    exact ⟨g, xs, hU, hx, ho, k4, k5⟩
  · refine ⟨g', ys, e1, e2, World.ownsRow.kept e3 hg (.inr ?_), e4, e5⟩
    have : g' ≠ g := by
      rcases (show j < k ∨ k < j from by omega) with h' | h'
      · have : g' < g := k5 j h' _ _ _ e1
        omega
      · have : g < g' := e5 k h' _ _ _ hU
        omega
    show (some g' : Option Nat) ≠ some g
    simpa using this
theorem FowAny.tag {w : World} {b T i : Nat} {U : Array Value} {L : List Fd} {u : Value} (h : FowAny w b T U L) : FowAny (w.setCell ⟨b, i * 2, none⟩ u) b T (U.setIfInBounds (i * 2) u) L := by
  intro j hj
  obtain ⟨g, xs, e1, e2, e3, e4, e5⟩ := h j hj
  refine ⟨g, xs, by rw [Array.getElem?_setIfInBounds_ne (by omega)]; exact e1, e2, World.ownsRow.kept e3 (grown_set7 (g := b) (World.grownBy.refl w (some b))) (.inr (by have := (World.ownsRow.lt e3 g rfl).1; simp [Value.ownBlock]; omega)), e4, fun i' hi A m c hc => ?_⟩
  rw [Array.getElem?_setIfInBounds_ne (by omega)] at hc
  exact e5 i' hi A m c hc

set_option maxHeartbeats 3200000 in
theorem markFS_any (w : World) (b T : Nat) (L : List Fd) (h : OwnFS w b T L) (hbT : b < T) (hL : L.length + allF L ≤ 1048576) :
    Calls Try.prog 12 #[.slice (some ⟨b, 0, none⟩) L.length L.length, .int .i64 1] w fun e w' => e = .returned (.int .i64 (1 + (L.length : Nat) + (allF L : Nat))) ∧ Within b T w w' := by
  obtain ⟨U0, hblk, hus0, hrow⟩ := h
  have HK := Lib.hid hblk
  have HR : Hid (FowAny w b T U0 L) := Lib.hid (fun j hj => by
    obtain ⟨g, e0, e1, e2, e3, e4⟩ := hrow j hj
    exact ⟨g, (L.getD j f0).b, e1, rfl, e2, e3, e4⟩)
  clear hblk hrow
  go_enter Try.func12, Try.ntmps12
  go_wp2
  go_loopw [1, 5] (fun cv iv wr => ∃ (k : Nat) (U : Array Value), k ≤ L.length ∧ iv = .int .i64 k ∧ cv = .int .i64 (1 + (k : Nat) + (allF (L.take k) : Nat)) ∧ Blk wr b 40 U ∧ U.size = L.length * 2 ∧ FowAny wr b T U L ∧ Within b T w wr) (fun _ iv _ => L.length - (intOf iv).toNat)
  case atStart => exact ⟨0, U0, Nat.zero_le _, rfl, by simp [allF], HK.out, hus0, HR.out, Within.refl _ _ _⟩
  case round =>
    obtain ⟨k, U, hk, rfl, rfl, hblk, hus, hrow, hwi⟩ := hrel
    clear HK HR
    by_cases hlt : k < L.length
    · have hrow' : FowAny (wr.setCell ⟨b, k * 2, none⟩ (.int .i64 (1 + (k : Nat) + (allF (L.take k) : Nat)))) b T (U.setIfInBounds (k * 2) (.int .i64 (1 + (k : Nat) + (allF (L.take k) : Nat)))) L := hrow.tag
      have hblk' := hblk.set_ (k * 2) (.int .i64 (1 + (k : Nat) + (allF (L.take k) : Nat)))
      have hwi' := hwi.grown (grown_set7 (g := b) (i := k * 2) (u := .int .i64 (1 + (k : Nat) + (allF (L.take k) : Nat))) (World.grownBy.refl wr (some b))) (Nat.le_refl _) hbT
      have hus' : (U.setIfInBounds (k * 2) (.int .i64 (1 + (k : Nat) + (allF (L.take k) : Nat)))).size = L.length * 2 := by rw [Array.size_setIfInBounds]; exact hus
      have hco : wr.cell? ⟨b, k * 2, none⟩ = some (U[k * 2]'(by omega)) := by rw [hblk.cell]; exact Array.getElem?_eq_getElem (by omega)
      have hfo := hblk.frozen (k * 2)
      generalize (U[k * 2]'(by omega)) = uo at hco
      generalize U.setIfInBounds (k * 2) (.int .i64 (1 + (k : Nat) + (allF (L.take k) : Nat))) = U2 at *
      have hle := allF_take_le L k hlt
      have HS := Lib.hid (allF_snoc L k hlt)
      clear hrow hblk hwi hus
      generalize hw2 : wr.setCell ⟨b, k * 2, none⟩ (.int .i64 (1 + (k : Nat) + (allF (L.take k) : Nat))) = w2 at *
      obtain ⟨g, xs, e1, e2, e3, e4, e5⟩ := hrow' k hlt
      have hgb := (World.ownsRow.lt e3 g rfl).1
      have hcu : w2.cell? ⟨b, k * 2 + 1, none⟩ = some (.slice (some ⟨g, 0, none⟩) (L.getD k f0).b.length (L.getD k f0).b.length) := by rw [hblk'.cell]; exact e1
      have hm := markI_any w2 (b + 1) (.slice (some ⟨g, 0, none⟩) (L.getD k f0).b.length (L.getD k f0).b.length) xs (1 + (k : Nat) + (allF (L.take k) : Nat) + 1) (by omega) (by omega) (by omega) e3
      rw [e2] at hm
      have HM := Lib.hid hm
      have HNX := Lib.hid (fun (w' : World) (ys : List Int) hx ho hg => hrow'.next (w' := w') (xs := ys) hlt e1 hx ho hg)
      have HK2 := Lib.hid hblk'
      have HWI := Lib.hid hwi'
      have HW2 := Lib.hid hw2
      clear hm hrow' hblk' hwi' e3 e5 e1 hw2
      generalize hmm : (L.getD k f0).b.length = m at *
      generalize allF (L.take k) = t at *
      obtain ⟨wn, hwn⟩ : ∃ wn, wn = wr := ⟨_, rfl⟩
      subst hwn
      go_upto_region 5 with fail
      rw [HW2.out]
      go_wp2_with fail
      refine HM.out.mono ?_
      rintro e w3 ⟨rfl, ho3, hg3⟩
      have hg3' : w2.grownBy w3 (some g) := hg3
      have HR3 := Lib.hid (HNX.out w3 (seqI (1 + (k : Nat) + (t : Nat) + 1) m) (by rw [seqI_len]) (by unfold OwnL; rw [seqI_len]; exact ho3) hg3')
      have HK3 : Hid (Blk w3 b 40 U2) := Lib.hid ((hg3'.block b HK2.out.lt (by simp; omega)).trans HK2.out)
      have HW3 := Lib.hid (HWI.out.grown hg3' (by omega) e4)
      clear ho3 hg3 hg3' HM HNX HK2 HWI
      go_wp2
      go_roundw
      case rel => exact ⟨k + 1, U2, by omega, by go_num, by rw [HS.out]; go_num, HK3.out, hus', HR3.out, HW3.out⟩
      case measure => simp [intOf]; omega
    · obtain rfl : k = L.length := by omega
      have HW := Lib.hid hwi
      rw [List.take_length]
      clear hblk hrow hwi
      go_wp2
      go_ret
      exact ⟨rfl, HW.out⟩
end Go.Proofs.Ythogkhifgkgplaa
