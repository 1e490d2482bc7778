/-
  The walk of what draws fields. Conditions: where the reader lies, and the bounds that are typed.
-/
import Derived.Test.YthogkhifgkgplaaDoorWsof
namespace Go.Proofs.YthogkhifgkgplaaDoor
open Go.RowKit
set_option linter.unusedVariables false

def lenOf : Value → Nat
  | .slice _ m _ => m
  | _ => 0
theorem FOwn.setTag {w : World} {B b n c : Nat} {f : Fd} {u : Value} {Q : List (Fd × Value)} (h : FOwn w B (.slice (some ⟨b, 0, none⟩) n c) ((f, u) :: Q)) (t : Int) :
    FOwn (w.setCell ⟨b, 0, none⟩ (.int .i64 t)) B (.slice (some ⟨b, 0, none⟩) n c) ((⟨t, f.b⟩, u) :: Q) := by
  have step : ∀ (p2 : Value) (l : List Int), OwnL w B p2 l → (∀ g, p2.ownBlock = some g → (Value.slice (some ⟨b, 0, none⟩) n c).ownBlock ≠ some g) → OwnL (w.setCell ⟨b, 0, none⟩ (.int .i64 t)) B p2 l :=
    fun p2 l h1 h2 => ownsRow_setCell_other (a := ⟨b, 0, none⟩) h1 (fun e => h2 b e rfl) _
  refine ⟨?_, fun p hp => ?_⟩
  · obtain ⟨h1, h2⟩ := h.top
    rcases h2 with ⟨hv, _⟩ | ⟨g, cap, cur, hv, hB, hg, hn, hc, hcs, htk⟩
    · cases hv
    · injection hv with e1 e2 e3
      injection e1 with e1
      injection e1 with e1 _ _
      subst e1; subst e2; subst e3
      refine ⟨by simp [flQ_len], .inr ⟨b, c, cur.setIfInBounds 0 (.int .i64 t), rfl, hB, Blk.set_ hg 0 _, hn, hc, by rw [Array.size_setIfInBounds]; exact hcs, ?_⟩⟩
      rw [Array.toList_setIfInBounds]
      simp only [List.length_cons] at htk ⊢
      rw [show (Q.length + 1) * 2 = Q.length * 2 + 1 + 1 from by omega] at htk ⊢
      cases hcl : cur.toList with
      | nil => rw [hcl] at htk; simp [flQ] at htk
      | cons a l =>
        rw [hcl] at htk
        simp only [flQ, List.take_succ_cons, List.set_cons_zero] at htk ⊢
        injection htk with _ htk
        rw [htk]
  · rcases List.mem_cons.1 hp with rfl | hp
    · obtain ⟨a1, a2⟩ := h.each (f, u) (List.mem_cons_self)
      exact ⟨step _ _ a1 a2, a2⟩
    · obtain ⟨a1, a2⟩ := h.each p (List.mem_cons_of_mem _ hp)
      exact ⟨step _ _ a1 a2, a2⟩
theorem grown_set6 {w w' : World} {g i : Nat} {u : Value} (h : w.grownBy w' (some g)) : w.grownBy (w'.setCell ⟨g, i, none⟩ u) (some g) :=
  ⟨h.os, h.tape, h.output, by simpa [World.setCell] using h.size, fun j hj hn => (Below.heap_setCell w' ⟨g, i, none⟩ u j (fun e => hn (by rw [e]))).trans (h.block j hj hn)⟩

set_option maxRecDepth 50000 in
set_option maxHeartbeats 6400000 in
theorem sof_any {B : Nat} {w : World} {g p : Nat} (h : Rd B w g p) (hp : p ≤ 800000) :
    Calls Tryd.prog 26 #[.pointer (some ⟨g, 0, none⟩)] w (SofPost B w.heap.size w g p) := by
  have hgl := h.lt
  have hBg := h.1
  obtain ⟨i0, hi, hz0, hz1, hz2⟩ := info_parts infoF
  have HI := Lib.hid hi
  have HZ0 := Lib.hid hz0
  have HZ1 := Lib.hid hz1
  have HZ2 := Lib.hid hz2
  have HM := Lib.hid (World.ownsRow_made (base := w.heap.size) (e := 48) (size := 2) w #[] 0 (Nat.le_refl _) (by unfold maxLen; omega) rfl)
  clear hi hz0 hz1 hz2
  go_enter Tryd.func26, Tryd.ntmps26
  go_wp2_with fail
  refine (one_any ((h.alloc (.cells #[] 48)).alloc _) (by omega) (w.heap.size + 1) 6 6 [2, 3, 1, 5, 0, 6] rfl (by omega) (by omega) (by omega) (by have e := new_ints (w.alloc (.cells #[] 48)) [2, 3, 1, 5, 0, 6] 3; rw [World.size_alloc] at e; exact e)).mono ?_
  rintro e w1 ⟨x, m, rfl, hx, hw1⟩
  have hr1 : Rd B w1 g (p + 1) := by rw [hw1]; exact ((h.alloc _).alloc _).picked m
  have hb1 : BK B g w w1 := by rw [hw1]; exact (((BK.refl g (by omega)).alloc _).alloc _).picked ((h.alloc _).alloc _) m
  have ho1 : FOwn w1 w.heap.size (.slice (some ⟨w.heap.size, 0, none⟩) 0 0) [] := by
    rw [hw1]
    exact FOwn.nil _ _ _ (own_keeps2 HM.out (((Keeps.refl g (w.alloc (.cells #[] 48))).alloc _).picked) hgl)
  have hz1 : w.heap.size ≤ w1.heap.size := hb1.k.z
  clear hw1
  obtain ⟨n, rfl, hn⟩ : ∃ n : Nat, x = n ∧ n ≤ 6 := by
    simp only [List.mem_cons, List.not_mem_nil, or_false] at hx
    exact ⟨x.toNat, by omega, by omega⟩
  clear hx
  go_wp2
  go_loopw [3] (fun sv wr => ∃ (Q : List (Fd × Value)) (p' : Nat), FOwn wr w.heap.size sv Q ∧ Q.length ≤ n ∧ Hid (∀ q ∈ Q, q.1.b.length ≤ 40) ∧ Rd B wr g p' ∧ p' ≤ p + 1 + 210 * Q.length ∧ BK B g w wr ∧ w.heap.size ≤ wr.heap.size) (fun sv _ => n - lenOf sv)
  case atStart => exact ⟨[], p + 1, ho1, Nat.zero_le _, Lib.hid (fun q hq => absurd hq List.not_mem_nil), hr1, by simp, hb1, hz1⟩
  case round =>
    clear hr1 hb1 ho1 hz1
    obtain ⟨Q, p', hown, hQn, hQb, hr, hpk, hb, hz⟩ := hrel
    have HOW := Lib.hid hown
    have HR := Lib.hid hr
    have hgr := hr.lt
    obtain ⟨A, cp, rfl⟩ := hown.form
    clear hown hr
    by_cases hlt : Q.length < n
    · go_wp2_with fail
      refine (pick_any HR.out (by omega) 4 (by omega) (by omega)).mono ?_
      rintro e w2 ⟨x1, m, rfl, _, hw2⟩
      have HR2 : Hid (Rd B w2 g (p' + 1)) := Lib.hid (by rw [hw2]; exact HR.out.picked m)
      have HB2 : Hid (BK B g w w2) := Lib.hid (by rw [hw2]; exact hb.picked HR.out m)
      have HK2 : Hid (Keeps g wr w2) := Lib.hid (by rw [hw2]; exact (Keeps.refl g wr).picked)
      clear hw2
      go_wp2_with fail
      refine (pick_any HR2.out (by omega) 256 (by omega) (by omega)).mono ?_
      rintro e w3 ⟨x2, m, rfl, _, hw3⟩
      have HR3 : Hid (Rd B w3 g (p' + 1 + 1)) := Lib.hid (by rw [hw3]; exact HR2.out.picked m)
      have HB3 : Hid (BK B g w w3) := Lib.hid (by rw [hw3]; exact HB2.out.picked HR2.out m)
      have HK3 : Hid (Keeps g wr w3) := Lib.hid (by rw [hw3]; exact HK2.out.picked)
      have hg3 := HR3.out.lt
      clear hw3 HR2 HB2 HK2
      go_wp2_with fail
      refine (one_any (HR3.out.alloc _) (by omega) w3.heap.size 4 4 [(x1 : Int), (x2 : Int), 300, 128] rfl (by omega) (by omega) (by omega) (new_ints w3 [(x1 : Int), (x2 : Int), 300, 128] _)).mono ?_
      rintro e w4 ⟨x, m, rfl, _, hw4⟩
      have HR4 : Hid (Rd B w4 g (p' + 1 + 1 + 1)) := Lib.hid (by rw [hw4]; exact (HR3.out.alloc _).picked m)
      have HB4 : Hid (BK B g w w4) := Lib.hid (by rw [hw4]; exact (HB3.out.alloc _).picked (HR3.out.alloc _) m)
      have HK4 : Hid (Keeps g wr w4) := Lib.hid (by rw [hw4]; exact (HK3.out.alloc _).picked)
      clear hw4 HR3 HB3 HK3 hg3
      go_wp2_with fail
      refine (syM_any 6 (by omega) HR4.out (by omega)).mono ?_
      rintro e w5 ⟨u, l, p5, rfl, hu, hl, hr5, hp5, hb5⟩
      have HU5 : Hid (OwnL w5 w4.heap.size u l) := Lib.hid hu
      have HR5 := Lib.hid hr5
      have HB5 := Lib.hid (HB4.out.trans hb5)
      have HK5 := Lib.hid (HK4.out.trans hb5.k)
      have HO5 := Lib.hid (HOW.out.keeps HK5.out hgl)
      have hz4 : wr.heap.size ≤ w4.heap.size := HK4.out.z
      have hz5 : w4.heap.size ≤ w5.heap.size := hb5.k.z
      have hg5 := hr5.lt
      have HNE : Hid (∀ k, u.ownBlock = some k → (Value.slice A Q.length cp).ownBlock ≠ some k) := Lib.hid (fun k hk e => by
        have := (World.ownsRow.lt hu k hk).1
        have := (World.ownsRow.lt HOW.out.top k e).2
        omega)
      obtain ⟨Au, cu, rfl⟩ := own_form hu
      clear hu hr5 hb5 HR4 HB4 HK4
      go_wp2_with (at_builtin; refine wpList_append_own_at _ rfl (.tmp 13) (.tmp 24) 23 rfl w.heap.size 48 i0 (.agg #[.int .i64 0, .slice none 0 0]) 2 32 Tryd.underlying23 HI.out HZ0.out HZ1.out HZ2.out rfl (by decide) _ _ _ rfl (HO5.out.keeps ((Keeps.refl g w5).alloc _) hgl).top ⟨w5.heap.size, 0, none⟩ 1 1 [.int .i64 x, .slice Au l.length cu] rfl rfl (cell_two_new _ _ _ _) (two_cells _ _ rfl rfl) (by rw [mx]; omega) (by omega) (by simp; omega) ?_; intro v9 w9 hown9 hg9 hnil hat9; clear hnil)
      have HF9 := Lib.hid (FOwn.push (f := ⟨x, l⟩) (HO5.out.keeps ((Keeps.refl g w5).alloc _) hgl) hg9 hat9 hown9 ((HU5.out.keeps ((Keeps.refl g w5).alloc _) (by omega)).base (by omega)) HNE.out)
      have R := (HB5.out.alloc (.cells #[.int .i64 x, .slice Au l.length cu] 48)).grown hg9 (fun j hj => (World.ownsRow.lt HO5.out.top j hj).1)
      have hr9 : Rd B w9 g p5 := (HR5.out.alloc _).keep ((Below.refl B (w5.alloc _)).grown hg9 (by simp; omega) (fun j hj => by have := (World.ownsRow.lt HO5.out.top j hj).1; omega)) (hg9.block g (by simp; omega) (fun e => by have := (World.ownsRow.lt HO5.out.top g e.symm).1; omega))
      have hz9 : w.heap.size ≤ w9.heap.size := R.k.z
      have hl9 : (Q ++ [((⟨x, l⟩ : Fd), Value.slice Au l.length cu)]).length = Q.length + 1 := by simp
      obtain ⟨A9, c9, hf9⟩ := HF9.out.form
      rw [hl9] at hf9
      subst hf9
      clear hown9 hg9 hat9
      go_roundw
      case rel => exact ⟨Q ++ [(⟨x, l⟩, .slice Au l.length cu)], p5, HF9.out, by omega, Lib.hid (fun q hq => by
        rcases List.mem_append.1 hq with hq | hq
        · exact hQb.out q hq
        · have : q = (⟨x, l⟩, Value.slice Au l.length cu) := by simpa using hq
          subst this; exact hl), hr9, by omega, R, hz9⟩
      case measure => simp [lenOf]; omega
    · have HQB := Lib.hid hQb.out
      have HB := Lib.hid hb
      clear hQb hb
      cases hQ : Q with
      | nil =>
        subst hQ
        have hp2 : p' ≤ p + 2000 := by simp at hpk; omega
        have hd : ¬ 0 < n := by simpa using hlt
        clear hpk hlt hQn hz
        simp only [List.length_nil] at HOW ⊢
        go_wp2
        go_ret
        exact ⟨_, [], p', rfl, HOW.out, Nat.zero_le _, fun q hq => absurd hq List.not_mem_nil, HR.out, hp2, HB.out⟩
      | cons q Q' =>
        subst hQ
        have hb := HB.out
        obtain ⟨b, hA⟩ : ∃ b, A = some ⟨b, 0, none⟩ := by
          rcases HOW.out.top.2 with ⟨_, h0⟩ | ⟨k, cap, cur, hv, _⟩
          · simp at h0
          · injection hv with e1; exact ⟨k, e1⟩
        subst hA
        have hq1 : 1 ≤ (q :: Q').length := by simp
        have hq6 : (q :: Q').length ≤ 6 := by omega
        have hp2 : p' ≤ p + 1500 := by omega
        have HL : Hid (Q'.length ≤ 5) := Lib.hid (by simp at hq6; omega)
        obtain ⟨N, HN⟩ : ∃ N, Hid ((q :: Q').length = N) := ⟨_, Lib.hid rfl⟩
        rw [HN.out] at HOW hq1 hq6 hlt ⊢
        have hq0 : 0 < N := by omega
        clear hpk hQn hq1
        go_wp2_with fail
        refine (pick_any HR.out (by omega) 24 (by omega) (by omega)).mono ?_
        rintro e w2 ⟨x1, m, rfl, _, hw2⟩
        have HR2 : Hid (Rd B w2 g (p' + 1)) := Lib.hid (by rw [hw2]; exact HR.out.picked m)
        have HB2 : Hid (BK B g w w2) := Lib.hid (by rw [hw2]; exact hb.picked HR.out m)
        have HO2 : Hid (FOwn w2 w.heap.size (.slice (some ⟨b, 0, none⟩) N cp) (q :: Q')) := Lib.hid (by rw [hw2]; exact HOW.out.keeps (Keeps.refl g wr).picked hgl)
        have hg2 := HR2.out.lt
        clear hw2 HOW HR hb hgr hz
        by_cases hx0 : x1 = 0
        · subst hx0
          go_wp2_with fail
          refine (one_any (HR2.out.alloc _) (by omega) w2.heap.size 2 2 [301, -1] rfl (by omega) (by omega) (by omega) (new_ints w2 [301, -1] _)).mono ?_
          rintro e w3 ⟨x, m, rfl, _, hw3⟩
          have HR3 : Hid (Rd B w3 g (p' + 1 + 1)) := Lib.hid (by rw [hw3]; exact (HR2.out.alloc _).picked m)
          have HB3 : Hid (BK B g w w3) := Lib.hid (by rw [hw3]; exact (HB2.out.alloc _).picked (HR2.out.alloc _) m)
          have HO3 : Hid (FOwn w3 w.heap.size (.slice (some ⟨b, 0, none⟩) N cp) (q :: Q')) := Lib.hid (by rw [hw3]; exact HO2.out.keeps ((Keeps.refl g w2).alloc _).picked hgl)
          have hbb := World.ownsRow.lt HO3.out.top b rfl
          have hc0 : w3.cell? ⟨b, 0, none⟩ = some (.int .i64 q.1.t) := by
            have := HO3.out.top.cells (g := b) rfl 0 (.int .i64 q.1.t) (by simp [flQ])
            simpa [Addr.add] using this
          have hf0 : w3.frozen? ⟨b, 0, none⟩ = false := by
            rcases HO3.out.top.2 with ⟨hv, _⟩ | ⟨k, cap, cur, hv, _, hk, _⟩
            · cases hv
            · injection hv with e1 _ _
              injection e1 with e1
              injection e1 with e1 _ _
              subst e1
              exact Blk.frozen hk 0
          have HS := Lib.hid (FOwn.setTag (f := q.1) (u := q.2) HO3.out x)
          have HB4 := Lib.hid (HB3.out.grown (grown_set6 (g := b) (i := 0) (u := .int .i64 x) (World.grownBy.refl w3 (some b))) (fun j hj => by injection hj with hj; omega))
          have HR4 : Hid (Rd B (w3.setCell ⟨b, 0, none⟩ (.int .i64 x)) g (p' + 1 + 1)) := Lib.hid (rd_grown HR3.out (grown_set6 (g := b) (i := 0) (u := .int .i64 x) (World.grownBy.refl w3 (some b))) ((Below.refl B w3).setCell (p := ⟨b, 0, none⟩) (by show B ≤ b; omega) _) (fun j hj => by injection hj with hj; omega))
          clear hw3 HR3 HB3 HO2 HO3 HB2 HR2
          generalize q.1.t = qt at *
          go_wp2
          go_ret
          exact ⟨_, (⟨x, q.1.b⟩, q.2) :: Q', p' + 1 + 1, rfl, HS.out, by simp only [List.length_cons]; have := HL.out; omega, fun r hr => by
            rcases List.mem_cons.1 hr with rfl | hr
            · exact HQB.out q List.mem_cons_self
            · exact HQB.out r (List.mem_cons_of_mem _ hr), HR4.out, by omega, HB4.out⟩
        · have hxe : ((x1 : Int) == 0) = false := by simp; omega
          go_wp2
          go_ret
          exact ⟨_, q :: Q', p' + 1, rfl, HO2.out, by simp only [List.length_cons]; have := HL.out; omega, HQB.out, HR2.out, by omega, HB2.out⟩
end Go.Proofs.YthogkhifgkgplaaDoor
