/-
  The walk of what draws bytes with a number ahead. Conditions: the list is one that can be.
-/
import Derived.Test.YtkmnijpiaofdmaaDoorWsoy
import Derived.Test.YtkmnijpiaofdmaaDoorWapr
import Derived.Test.YtkmnijpiaofdmaaDoorWgr
namespace Go.Proofs.YtkmnijpiaofdmaaDoor
open Go.RowKit
set_option linter.unusedVariables false

/-- What a draw of numbers leaves. -/
def DnaPost (w : World) (e : Ending) (w' : World) : Prop :=
  ∃ (v : Value) (l : List Int) (B : Nat), e = .returned v ∧ OwnL w' B v l ∧ l.length ≤ 60 ∧ w.heap.size ≤ B ∧ Below w.heap.size w w'

set_option maxHeartbeats 3200000 in
theorem dna_any (w : World) (a : Option Addr) (len cap : Nat) (zs : List Int) (h : IsRow .u8 w a len cap zs) :
    Calls Tryd.prog 14 #[.slice a len cap] w (DnaPost w) := by
  have H := Lib.hid (nr_any w a len cap zs h)
  clear h
  go_enter Tryd.func14, Tryd.ntmps14
  go_wp2_with fail
  refine H.out.mono ?_
  rintro e w0 ⟨rfl, hr0, hb0, hsz⟩
  have hs0 : w.heap.size < w0.heap.size := by omega
  clear hsz
  have HR0 := Lib.hid (hr0.alloc (.cells #[] 3))
  have HO0 := Lib.hid (OwnL.empty w0 w0.heap.size (Nat.le_refl _))
  have HB0 := Lib.hid (hb0.alloc (by omega) (.cells #[] 3))
  have z0 : w0.heap.size ≤ (w0.alloc (.cells #[] 3)).heap.size := by rw [World.size_alloc]; omega
  clear hr0 H hb0
  go_wp2_with fail
  refine (pick_any HR0.out (by omega) 256 (by omega) (by omega)).mono ?_
  rintro e w1 ⟨r, m, rfl, hr, hw⟩
  have HR1 : Hid (Rd w.heap.size w1 w.heap.size 1) := Lib.hid (by rw [hw]; exact HR0.out.picked m)
  have HB1 : Hid (Below w.heap.size w w1) := Lib.hid (by rw [hw]; exact HB0.out.trans (picked_below HR0.out m))
  have HO1 : Hid (OwnL w1 w0.heap.size _ []) := Lib.hid (by rw [hw]; exact own_picked HO0.out hs0)
  have z1 : w0.heap.size ≤ w1.heap.size := by rw [hw, picked_size]; exact z0
  clear hw HR0 HO0 HB0 z0
  go_wp2_with fail
  refine (pick_any HR1.out (by omega) 256 (by omega) (by omega)).mono ?_
  rintro e w2 ⟨s, m, rfl, hs, hw⟩
  have HR2 : Hid (Rd w.heap.size w2 w.heap.size 2) := Lib.hid (by rw [hw]; exact HR1.out.picked m)
  have HB2 : Hid (Below w.heap.size w w2) := Lib.hid (by rw [hw]; exact HB1.out.trans (picked_below HR1.out m))
  have HO2 : Hid (OwnL w2 w0.heap.size _ []) := Lib.hid (by rw [hw]; exact own_picked HO1.out hs0)
  have z2 : w0.heap.size ≤ w2.heap.size := by rw [hw, picked_size]; exact z1
  clear hw HR1 HO1 HB1 z1
  go_wp2_with fail
  refine (pick_any HR2.out (by omega) 100 (by omega) (by omega)).mono ?_
  rintro e w3 ⟨q, m, rfl, hq, hw⟩
  have HR3 : Hid (Rd w.heap.size w3 w.heap.size 3) := Lib.hid (by rw [hw]; exact HR2.out.picked m)
  have HB3 : Hid (Below w.heap.size w w3) := Lib.hid (by rw [hw]; exact HB2.out.trans (picked_below HR2.out m))
  have HO3 : Hid (OwnL w3 w0.heap.size _ []) := Lib.hid (by rw [hw]; exact own_picked HO2.out hs0)
  have z3 : w0.heap.size ≤ w3.heap.size := by rw [hw, picked_size]; exact z2
  clear hw HR2 HO2 HB2 z2
  go_wp2_with fail
  refine (one_any (HR3.out.alloc _) (by omega) w3.heap.size 5 5 [(r : Int), 128 * (s : Int), 16384 + (q : Int), 1000000, 2000000] rfl (by omega) (by omega) (by omega) (new_ints w3 [(r : Int), 128 * (s : Int), 16384 + (q : Int), 1000000, 2000000] _)).mono ?_
  rintro e w4 ⟨x, m, rfl, hx, hw⟩
  have HR4 : Hid (Rd w.heap.size w4 w.heap.size 4) := Lib.hid (by rw [hw]; exact (HR3.out.alloc _).picked m)
  have HB4 : Hid (Below w.heap.size w w4) := Lib.hid (by rw [hw]; exact (HB3.out.alloc (by omega) _).trans (picked_below (HR3.out.alloc _) m))
  have HO4 : Hid (OwnL w4 w0.heap.size _ []) := Lib.hid (by rw [hw]; exact own_picked (HO3.out.alloc _) hs0)
  have z4 : w0.heap.size ≤ w4.heap.size := by rw [hw, picked_size, World.size_alloc]; omega
  clear hw HR3 HO3 HB3 z3
  obtain ⟨n, rfl, hn⟩ : ∃ n : Nat, x = n ∧ n < 2097152 := by
    simp only [List.mem_cons, List.not_mem_nil, or_false] at hx
    exact ⟨x.toNat, by omega, by omega⟩
  clear hx
  go_wp2_with fail
  refine (sgr_any n w4 hn).mono ?_
  rintro e w5 ⟨u, rfl, hu, hb5⟩
  have hgl := gr_len3 hn
  have HR5 : Hid (Rd w.heap.size w5 w.heap.size 4) := Lib.hid (HR4.out.keep (hb5.mono (by omega)) (hb5.block _ (by omega)))
  have HB5 := Lib.hid (HB4.out.trans (hb5.mono (by omega)))
  have HO5 : Hid (OwnL w5 w0.heap.size _ []) := Lib.hid (OwnL.below HO4.out hb5 (Nat.le_refl _))
  have z5 : w0.heap.size ≤ w5.heap.size := Nat.le_trans z4 hb5.size
  have HU5 := Lib.hid hu
  have HP5 := Lib.hid (OwnL.proper hu)
  generalize gr n = G at *
  clear HR4 HO4 HB4 z4 hu hb5
  go_wp2_with (at_builtin; refine append_rowV rfl (.tmp 7) (.tmp 19) rfl w0.heap.size _ _ [] G rfl rfl HO5.out (OwnL.rds HU5.out) HP5.out (by simp; omega) z5 ?_; intro v6 w6 hown6 hg6 hb6 hz6; refine Hid.out ?_)
  refine Lib.hid ?_
  have HO6 : Hid (OwnL w6 w0.heap.size v6 G) := Lib.hid hown6
  have HR6 : Hid (Rd w.heap.size w6 w.heap.size 4) := Lib.hid (HR5.out.keep (hb6.mono (by omega)) (hb6.block _ hs0))
  have HB6 := Lib.hid (HB5.out.trans (hb6.mono (by omega)))
  have z6 : w0.heap.size ≤ w6.heap.size := by omega
  obtain ⟨A6, c6, rfl⟩ := HO6.out.form
  clear HR5 HO5 HB5 z5 HU5 HP5 hown6 hg6 hb6 hz6
  go_wp2_with fail
  refine (syM_any 6 (by omega) HR6.out (by omega)).mono ?_
  rintro e w7 ⟨u7, l7, p7, rfl, hu7, hl7, hr7, hp7, hb7⟩
  have HO7 : Hid (OwnL w7 w0.heap.size _ G) := Lib.hid (OwnL.keeps HO6.out hb7.k hs0)
  have HU7 : Hid (OwnL w7 w6.heap.size u7 l7) := Lib.hid hu7
  have HP7 := Lib.hid (OwnL.proper HU7.out)
  have HR7 := Lib.hid hr7
  have HB7 := Lib.hid (HB6.out.trans hb7.b)
  have z7 : w0.heap.size ≤ w7.heap.size := Nat.le_trans z6 hb7.k.z
  clear HO6 HR6 HB6 z6 hu7 hr7 hb7
  go_wp2_with (at_builtin; refine append_rowV rfl (.tmp 21) (.tmp 23) rfl w0.heap.size _ _ G l7 rfl rfl HO7.out (OwnL.rds HU7.out) HP7.out (by omega) z7 ?_; intro v8 w8 hown8 hg8 hb8 hz8; refine Hid.out ?_)
  refine Lib.hid ?_
  have hL8 : (G ++ l7).length ≤ 60 := by rw [List.length_append]; omega
  generalize G ++ l7 = L8 at *
  have HO8 : Hid (OwnL w8 w0.heap.size v8 L8) := Lib.hid hown8
  have HR8 : Hid (Rd w.heap.size w8 w.heap.size p7) := Lib.hid (HR7.out.keep (hb8.mono (by omega)) (hb8.block _ hs0))
  have HB8 := Lib.hid (HB7.out.trans (hb8.mono (by omega)))
  have z8 : w0.heap.size ≤ w8.heap.size := by omega
  obtain ⟨A8, c8, rfl⟩ := HO8.out.form
  clear HR7 HO7 HB7 z7 HU7 HP7 hown8 hg8 hb8 hz8
  go_wp2_with fail
  refine (pick_any HR8.out (by omega) 6 (by omega) (by omega)).mono ?_
  rintro e w9 ⟨c, m, rfl, hc, hw⟩
  have HR9 : Hid (Rd w.heap.size w9 w.heap.size (p7 + 1)) := Lib.hid (by rw [hw]; exact HR8.out.picked m)
  have HB9 : Hid (Below w.heap.size w w9) := Lib.hid (by rw [hw]; exact HB8.out.trans (picked_below HR8.out m))
  have HO9 : Hid (OwnL w9 w0.heap.size _ L8) := Lib.hid (by rw [hw]; exact own_picked HO8.out hs0)
  have z9 : w0.heap.size ≤ w9.heap.size := by rw [hw, picked_size]; exact z8
  clear hw HR8 HO8 HB8 z8
  rcases (show c = 0 ∨ c = 1 ∨ (2 ≤ c ∧ c < 6) from by omega) with rfl | rfl | ⟨h2, h6⟩
  · go_wp2_with fail
    refine (syM_any 6 (by omega) HR9.out (by omega)).mono ?_
    rintro e w10 ⟨u, l, p9, rfl, hu, hl, _, _, hb⟩
    have HU := Lib.hid hu
    have HB := Lib.hid (HB9.out.trans hb.b)
    clear hu hb
    go_wp2
    go_ret
    exact ⟨u, l, w9.heap.size, rfl, HU.out, by omega, by omega, HB.out⟩
  · go_wp2_with fail
    refine (pick_any HR9.out (by omega) 2 (by omega) (by omega)).mono ?_
    rintro e w10 ⟨t, m, rfl, ht, hw⟩
    have HB10 : Hid (Below w.heap.size w w10) := Lib.hid (by rw [hw]; exact HB9.out.trans (picked_below HR9.out m))
    have z10 : w0.heap.size ≤ w10.heap.size := by rw [hw, picked_size]; exact z9
    clear hw
    go_wp2
    go_ret
    exact ⟨_, [128, (t : Int), 128, 0], w10.heap.size, rfl, OwnL.lits w10 w10.heap.size [128, (t : Int), 128, 0] (Nat.le_refl _) (by simp), by simp, by omega, HB10.out.alloc (by omega) _⟩
  · have q0 : ((c : Int) == 0) = false := by simp; omega
    have q1 : ((c : Int) == 1) = false := by simp; omega
    go_wp2
    go_ret
    exact ⟨_, L8, w0.heap.size, rfl, HO9.out, hL8, by omega, HB9.out⟩
end Go.Proofs.YtkmnijpiaofdmaaDoor
