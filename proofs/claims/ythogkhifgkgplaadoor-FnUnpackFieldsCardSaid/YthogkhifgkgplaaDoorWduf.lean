/-
  The walk of the draw of UnpackFields. Conditions: the list is one that can be.
-/
import Derived.Test.YthogkhifgkgplaaDoorWsog
import Derived.Test.YthogkhifgkgplaaDoorWpf
import Derived.Test.YthogkhifgkgplaaDoorWjg
namespace Go.Proofs.YthogkhifgkgplaaDoor
open Go.RowKit
set_option linter.unusedVariables false

/-- What the draw of bytes of fields leaves. -/
def DufPost (w : World) (e : Ending) (w' : World) : Prop :=
  ∃ (A : Option Addr) (n c : Nat) (xs : List Int), e = .returned (.slice A n c) ∧ Rdc w' (.slice A n c) xs ∧ xs.length ≤ 110 ∧ Below w.heap.size w w'
theorem rdc_take1 {w : World} {B b n c M : Nat} {ys : List Int} (h : OwnL w B (.slice (some ⟨b, 0, none⟩) n c) ys) (hy : ys.length = n) (hM : (n : Int) - 1 = (M : Int)) : Rdc w (.slice (some ⟨b, 0, none⟩) M c) (ys.take M) ∧ (ys.take M).length ≤ n := by
  have hl : (ys.take M).length = M := by rw [List.length_take]; omega
  obtain ⟨A, c', hv, hc, h1⟩ := Rdc.of_own h
  injection hv with e1 e2 e3
  subst e3
  refine ⟨⟨_, _, by rw [hl], by rw [hl]; omega, fun h0 => ?_⟩, by rw [hl]; omega⟩
  obtain ⟨b2, off, e4, ha⟩ := h1 (by omega)
  rw [e4] at e1
  injection e1 with e1
  injection e1 with e5 e6
  subst e5; subst e6
  have := at_mid ha 0 M
  rw [List.drop_zero] at this
  exact ⟨b, 0, rfl, this⟩
theorem fds_len6 {Q : List (Fd × Value)} {n : Nat} (h : ∀ q ∈ Q, q.1.b.length ≤ n) (k : Nat) : ((Q.map (·.1)).getD k f0).b.length ≤ n := by
  by_cases hk : k < Q.length
  · have : (Q.map (·.1)).getD k f0 = (Q[k]).1 := by simp [List.getD_eq_getElem?_getD, hk]
    rw [this]
    exact h _ (List.getElem_mem hk)
  · rw [List.getD_eq_getElem?_getD, List.getElem?_eq_none (by simp; omega)]; simp [f0]

set_option maxRecDepth 50000 in
set_option maxHeartbeats 3200000 in
theorem duf_any (w : World) (a : Option Addr) (len cap : Nat) (zs : List Int) (h : IsRow .u8 w a len cap zs) :
    Calls Tryd.prog 19 #[.slice a len cap] w (DufPost w) := by
  have H := Lib.hid (nr_any w a len cap zs h)
  clear h
  go_enter Tryd.func19, Tryd.ntmps19
  go_wp2_with fail
  refine H.out.mono ?_
  rintro e w0 ⟨rfl, hr0, hb0, hsz⟩
  have HR0 := Lib.hid hr0
  have HB0 := Lib.hid hb0
  have HSZ := Lib.hid hsz
  clear hr0 hb0 hsz H
  go_wp2_with fail
  refine (sof_any HR0.out (by omega)).mono ?_
  rintro e w1 ⟨v, Q, p1, rfl, hv, hQ, hQb, hr1, hp1, hb1⟩
  have hg1 : w.heap.size < w1.heap.size := by have := HSZ.out; have := hb1.k.z; omega
  have HB1 := Lib.hid (HB0.out.trans hb1.b)
  have HR1 := Lib.hid hr1
  have hs := sPK_any w1 v (Q.map (·.1)) hv.rds (by rw [List.length_map]; omega) (fun k => by have := fds_len6 hQb k; omega)
  have hRl := pkR_len (Q.map (·.1))
  generalize pkR (Q.map (·.1)) = R at hs hRl
  have HS := Lib.hid hs
  obtain ⟨A1, c1, hvf⟩ := hv.form
  subst hvf
  clear hr1 hv hb1 HR0 HB0 HSZ hQb hs
  go_wp2_with fail
  refine HS.out.mono ?_
  rintro e w2 ⟨s, rfl, hso, hb2⟩
  have HB := Lib.hid (HB1.out.trans (hb2.mono HB1.out.size))
  have HR : Hid (Rd w.heap.size w2 w.heap.size p1) := Lib.hid (HR1.out.keep (hb2.mono HB1.out.size) (hb2.block _ hg1))
  have HOO := Lib.hid (show OwnL w2 w1.heap.size s R from hso)
  by_cases h0 : R.length = 0
  · obtain ⟨A, c, hsf⟩ := own_form hso
    subst hsf
    have hd : decide ((0 : Int) < (R.length : Int)) = false := decide_eq_false (by omega)
    have HP := Lib.hid (Rdc.of_own HOO.out)
    have hn0 : ¬ 0 < R.length := by omega
    clear hso hb2 h0 HS HB1 HR1
    go_wp2
    go_ret
    exact ⟨_, _, _, R, rfl, HP.out, hRl, HB.out⟩
  · obtain ⟨b, c, hsf⟩ := own_form_some hso (by omega)
    subst hsf
    have hd : decide ((0 : Int) < (R.length : Int)) = true := decide_eq_true (by omega)
    have hpos : (1 : Int) ≤ (R.length : Int) := by omega
    obtain ⟨M, hM⟩ : ∃ M : Nat, (R.length : Int) - 1 = (M : Int) := ⟨R.length - 1, by omega⟩
    have hwr : IntKind.i64.wrap ((R.length : Int) - 1) = (M : Int) := by rw [hM]; exact IntWalk.i64_in _ (by omega)
    have hRc := (Rdc.of_own HOO.out).choose_spec.choose_spec
    have hMc : (M : Int) ≤ (c : Int) := by
      obtain ⟨e1, e2, _⟩ := hRc
      injection e1 with _ _ e3
      omega
    clear hRc
    clear hso hb2 h0 HS HB1 HR1
    go_wp2_with fail
    refine (pick_any HR.out (by omega) 4 (by omega) (by omega)).mono ?_
    rintro e w3 ⟨x3, m3, rfl, hx3, hw3⟩
    have HB3 : Hid (Below w.heap.size w w3) := Lib.hid (by rw [hw3]; exact HB.out.trans (picked_below HR.out m3))
    have HR3 : Hid (Rd w.heap.size w3 w.heap.size (p1 + 1)) := Lib.hid (by rw [hw3]; exact HR.out.picked m3)
    have HO3 : Hid (OwnL w3 w1.heap.size (.slice (some ⟨b, 0, none⟩) R.length c) R) := Lib.hid (by rw [hw3]; exact HOO.out.keeps (Keeps.refl w.heap.size w2).picked hg1)
    clear hw3 HR HB HOO
    by_cases hz3 : x3 = 0
    · subst hz3
      go_wp2_with fail
      refine (pick_any HR3.out (by omega) (R.length : Int) hpos (by omega)).mono ?_
      rintro e w4 ⟨i, m4, rfl, hi, hw4⟩
      have HB4 : Hid (Below w.heap.size w w4) := Lib.hid (by rw [hw4]; exact HB3.out.trans (picked_below HR3.out m4))
      have HR4 : Hid (Rd w.heap.size w4 w.heap.size (p1 + 1 + 1)) := Lib.hid (by rw [hw4]; exact HR3.out.picked m4)
      have HO4 : Hid (OwnL w4 w1.heap.size (.slice (some ⟨b, 0, none⟩) R.length c) R) := Lib.hid (by rw [hw4]; exact HO3.out.keeps (Keeps.refl w.heap.size w3).picked hg1)
      have hz4 : w.heap.size < w4.heap.size := HR4.out.lt
      clear hw4 HR3 HB3 HO3
      go_wp2_with fail
      refine (one_any (HR4.out.alloc _) (by omega) w4.heap.size 7 7 [0, 1, 2, 128, 255, 5, 256] rfl (by omega) (by omega) (by omega) (new_ints w4 [0, 1, 2, 128, 255, 5, 256] _)).mono ?_
      rintro e w5 ⟨x, m5, rfl, _, hw5⟩
      have HB5 : Hid (Below w.heap.size w w5) := Lib.hid (by rw [hw5]; exact (HB4.out.alloc HB4.out.size _).trans (picked_below (HR4.out.alloc _) m5))
      have HR5 : Hid (Rd w.heap.size w5 w.heap.size (p1 + 1 + 1 + 1)) := Lib.hid (by rw [hw5]; exact (HR4.out.alloc _).picked m5)
      have HO5 : Hid (OwnL w5 w1.heap.size (.slice (some ⟨b, 0, none⟩) R.length c) R) := Lib.hid (by rw [hw5]; exact (HO4.out.keeps ((Keeps.refl w.heap.size w4).alloc _) hg1).keeps (Keeps.refl w.heap.size _).picked hg1)
      have hil : i < R.length := by omega
      have hc5 : w5.cell? ⟨b, i, none⟩ = some (.int .i64 (R.getD i 0)) := by rw [World.ownsRow.cellAt HO5.out i (by omega), ints_get R i hil]
      have hf5 := World.ownsRow.frozenAt HO5.out i
      have hst := World.ownsRow.stored HO5.out i (.int .i64 x)
      rw [ints_set] at hst
      have hbB := World.ownsRow.lt HO5.out b rfl
      have HY : Hid ((R.set i x).length = R.length) := Lib.hid List.length_set
      have HO : Hid (OwnL (w5.setCell ⟨b, i, none⟩ (.int .i64 x)) w1.heap.size (.slice (some ⟨b, 0, none⟩) R.length c) (R.set i x)) := Lib.hid (by unfold OwnL; rw [HY.out]; exact hst.1)
      have HB : Hid (Below w.heap.size w (w5.setCell ⟨b, i, none⟩ (.int .i64 x))) := Lib.hid (HB5.out.setCell (p := ⟨b, i, none⟩) (by show w.heap.size ≤ b; omega) _)
      have HR : Hid (Rd w.heap.size (w5.setCell ⟨b, i, none⟩ (.int .i64 x)) w.heap.size (p1 + 1 + 1 + 1)) := Lib.hid (HR5.out.keep ((Below.refl w.heap.size w5).setCell (p := ⟨b, i, none⟩) (by show w.heap.size ≤ b; omega) _) (Below.heap_setCell w5 ⟨b, i, none⟩ _ w.heap.size (by show w.heap.size ≠ b; omega)))
      generalize R.getD i 0 = yo at *
      clear hw5 HR4 HB4 HO4 HB5 HR5 HO5 hst
      go_upto_region 5 with fail
      generalize w5.setCell ⟨b, i, none⟩ (.int .i64 x) = w6 at *
      go_wp2_with fail
      refine (pick_any HR.out (by omega) 8 (by omega) (by omega)).mono ?_
      rintro e w8 ⟨x8, m8, rfl, hx8, hw8⟩
      have HB8 : Hid (Below w.heap.size w w8) := Lib.hid (by rw [hw8]; exact HB.out.trans (picked_below HR.out m8))
      have HO8 : Hid (OwnL w8 w1.heap.size (.slice (some ⟨b, 0, none⟩) R.length c) (R.set i x)) := Lib.hid (by rw [hw8]; exact HO.out.keeps (Keeps.refl w.heap.size w6).picked hg1)
      clear hw8 HR HB HO
      by_cases hz8 : x8 = 0
      · subst hz8
        have HP := Lib.hid (rdc_take1 HO8.out HY.out hM)
        go_wp2
        go_ret
        exact ⟨_, _, _, (R.set i x).take M, rfl, HP.out.1, Nat.le_trans HP.out.2 hRl, HB8.out⟩
      · have hz8' : ((x8 : Int) == 0) = false := by simp; omega
        have HP := Lib.hid (Rdc.of_own HO8.out)
        go_wp2
        go_ret
        exact ⟨_, R.length, _, (R.set i x), rfl, (by have := HP.out; exact this), (Nat.le_trans (Nat.le_of_eq (HY.out)) hRl), HB8.out⟩
    · have hz3' : ((x3 : Int) == 0) = false := by simp; omega
      have HB := HB3
      have HR := HR3
      have HO := HO3
      clear HB3 HR3 HO3
      go_wp2_with fail
      refine (pick_any HR.out (by omega) 8 (by omega) (by omega)).mono ?_
      rintro e w8 ⟨x8, m8, rfl, hx8, hw8⟩
      have HB8 : Hid (Below w.heap.size w w8) := Lib.hid (by rw [hw8]; exact HB.out.trans (picked_below HR.out m8))
      have HO8 : Hid (OwnL w8 w1.heap.size (.slice (some ⟨b, 0, none⟩) R.length c) (R)) := Lib.hid (by rw [hw8]; exact HO.out.keeps (Keeps.refl w.heap.size w3).picked hg1)
      clear hw8 HR HB HO
      by_cases hz8 : x8 = 0
      · subst hz8
        have HP := Lib.hid (rdc_take1 HO8.out rfl hM)
        go_wp2
        go_ret
        exact ⟨_, _, _, (R).take M, rfl, HP.out.1, Nat.le_trans HP.out.2 hRl, HB8.out⟩
      · have hz8' : ((x8 : Int) == 0) = false := by simp; omega
        have HP := Lib.hid (Rdc.of_own HO8.out)
        go_wp2
        go_ret
        exact ⟨_, R.length, _, (R), rfl, (by have := HP.out; exact this), (Nat.le_trans (Nat.le_of_eq (rfl)) hRl), HB8.out⟩
end Go.Proofs.YthogkhifgkgplaaDoor

