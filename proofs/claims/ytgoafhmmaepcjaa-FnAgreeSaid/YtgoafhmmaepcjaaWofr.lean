/-
  The walks of the functions that say whether an offer is valid. Conditions: where the list of needs lies, and its length.
-/
import Derived.Test.YtgoafhmmaepcjaaWpw
import Derived.Test.YtgoafhmmaepcjaaFag
import Derived.BigQuiet
import Derived.Deep.Cut
namespace Go.Proofs.Ytgoafhmmaepcjaa
open Go.RowKit
set_option linter.unusedVariables false

/-- An offer: low, high, can. Its needs are a list beside. -/
structure Ofr where
  lo : Int
  hi : Int
  ca : Int
  nd : List Int
/-- Its value, where the needs are the value v. -/
def ofv (o : Ofr) (v : Value) : Value := .agg #[.int .i64 o.lo, .int .i64 o.hi, .int .i64 o.ca, v]
def skB (x : Int) : Bool := btw x 0 31
def voT (o : Ofr) : Bool := btw o.ca 0 31 && (btw o.lo 0 20 && btw o.hi o.lo 20)
/-- Whether an offer is valid. -/
def voB (o : Ofr) : Bool := o.nd.all skB && (decide (o.nd.length = 5) && voT o)
theorem voB_bad {o : Ofr} (h : o.nd.all skB = false) : voB o = false := by unfold voB; rw [h]; rfl
theorem voB_all {o : Ofr} (h : o.nd.all skB = true) : voB o = (decide (o.nd.length = 5) && voT o) := by unfold voB; rw [h]; rfl
theorem take_snoc6 (xs : List Int) (k : Nat) (h : k < xs.length) : xs.take (k + 1) = xs.take k ++ [xs.getD k 0] := by
  rw [List.take_add_one, List.getElem?_eq_getElem h]
  simp [List.getD_eq_getElem?_getD, List.getElem?_eq_getElem h]
theorem all_snoc6 (p : Int → Bool) (xs : List Int) (k : Nat) (h : k < xs.length) (ha : (xs.take k).all p = true) (hb : p (xs.getD k 0) = true) : (xs.take (k + 1)).all p = true := by
  rw [take_snoc6 xs k h, List.all_append, ha]; simpa using hb
theorem all_bad6 (p : Int → Bool) (xs : List Int) (k : Nat) (h : k < xs.length) (hb : p (xs.getD k 0) = false) : xs.all p = false := by
  rw [List.all_eq_false]
  exact ⟨xs.getD k 0, by rw [List.getD_eq_getElem?_getD, List.getElem?_eq_getElem h]; exact List.getElem_mem h, by rw [hb]; simp⟩
theorem all_end6 (p : Int → Bool) (xs : List Int) (k : Nat) (h : ¬ k < xs.length) (ha : (xs.take k).all p = true) : xs.all p = true := by
  rwa [List.take_of_length_le (by omega)] at ha

/-- The block that holds an offer. -/
def OBlk (w : World) (g : Nat) (o : Ofr) (v : Value) : Prop := w.cell? ⟨g, 0, none⟩ = some (.int .i64 o.lo) ∧ w.cell? ⟨g, 1, none⟩ = some (.int .i64 o.hi) ∧ w.cell? ⟨g, 2, none⟩ = some (.int .i64 o.ca) ∧ w.cell? ⟨g, 3, none⟩ = some v
theorem OBlk.new (w : World) (o : Ofr) (v : Value) (t : TypeId) : OBlk (w.alloc (.cells #[.int .i64 o.lo, .int .i64 o.hi, .int .i64 o.ca, v] t)) w.heap.size o v :=
  ⟨cell_of_row _ _ 0 _ _ (0, 0) (heap_alloc_new w _), cell_of_row _ _ 1 _ _ (0, 0) (heap_alloc_new w _), cell_of_row _ _ 2 _ _ (0, 0) (heap_alloc_new w _), cell_of_row _ _ 3 _ _ (0, 0) (heap_alloc_new w _)⟩
theorem OBlk.below {w w' : World} {g B : Nat} {o : Ofr} {v : Value} (h : OBlk w g o v) (hb : Below B w w') (hg : g < B) : OBlk w' g o v :=
  ⟨(hb.cell (p := ⟨g, 0, none⟩) hg).trans h.1, (hb.cell (p := ⟨g, 1, none⟩) hg).trans h.2.1, (hb.cell (p := ⟨g, 2, none⟩) hg).trans h.2.2.1, (hb.cell (p := ⟨g, 3, none⟩) hg).trans h.2.2.2⟩
theorem Rds.lies6 {w : World} {v : Value} {l : List Int} (h : Rds w v l) : Lies w.heap.size v l := by
  obtain ⟨A, c, rfl, h1⟩ := h
  intro h0 g hg
  obtain ⟨b, off, rfl, hat⟩ := h1 h0
  have e : b = g := by simpa [Value.ownBlock] using hg
  subst e; exact hat.1
theorem Rds.more6 {w w' : World} {v : Value} {l : List Int} (h : Rds w v l) (hb : Below w.heap.size w w') : Rds w' v l := h.below hb h.lies6

set_option maxHeartbeats 400000 in
theorem vsk_any (x : Int) (w : World) : Calls Try.prog 36 #[.int .i64 x] w fun e w' => e = .returned (.bool (skB x)) ∧ w = w' := by
  have H := Lib.hid (win_any x 0 31 w)
  unfold skB
  generalize btw x 0 31 = b at *
  go_enter Try.func36, Try.ntmps36
  go_wp2_with (go_at_call 29; refine H.out.mono ?_; rintro e w' ⟨rfl, rfl⟩)
  go_ret
  exact ⟨rfl, rfl⟩

set_option maxHeartbeats 1600000 in
theorem iVO_any (o : Ofr) (v : Value) (w : World) (h : Rds w v o.nd) (hn : o.nd.length ≤ 1048576) :
    Calls Try.prog 20 #[ofv o v] w fun e w' => e = .returned (.bool (voB o)) ∧ Below w.heap.size w w' := by
  have hb0 := (Below.refl w.heap.size w).alloc (Nat.le_refl _) (.cells #[.int .i64 o.lo, .int .i64 o.hi, .int .i64 o.ca, v] 34)
  have hr := h.more6 hb0
  obtain ⟨c0, c1, c2, c3⟩ := OBlk.new w o v 34
  have HBAD := fun h => Lib.hid (voB_bad (o := o) h)
  have HALL := fun h => Lib.hid (voB_all (o := o) h)
  obtain ⟨lo, hi, ca, nd⟩ := o
  simp only at hb0 hr c0 c1 c2 c3 hn HBAD HALL
  have HBL := Lib.hid hb0
  generalize hR : voB ⟨lo, hi, ca, nd⟩ = R at *
  have HT : Hid (voT ⟨lo, hi, ca, nd⟩ = (btw ca 0 31 && (btw lo 0 20 && btw hi lo 20))) := Lib.hid rfl
  generalize voT ⟨lo, hi, ca, nd⟩ = T at *
  unfold ofv
  simp only
  obtain ⟨A, c, rfl, hA⟩ := hr
  have HA := Lib.hid hA
  clear hA h hb0 hR
  go_enter Try.func20, Try.ntmps20
  go_upto_region 1 with fail
  generalize w.alloc (.cells #[.int .i64 lo, .int .i64 hi, .int .i64 ca, .slice A nd.length c] 34) = w1 at *
  go_wp2
  go_loop [4, 8] (fun _ iv => ∃ k : Nat, k ≤ nd.length ∧ iv = .int .i64 k ∧ (nd.take k).all skB = true) (fun _ iv => nd.length - (intOf iv).toNat)
  case atStart => exact ⟨0, Nat.zero_le _, rfl, by simp⟩
  case round =>
    obtain ⟨k, hk, rfl, hall⟩ := hrel
    have HAL := Lib.hid hall
    clear hall
    by_cases hlt : k < nd.length
    · obtain ⟨b, off, rfl, hat⟩ := HA.out (by omega)
      have hc1 := hat.2 k hlt
      have HSN := fun h => Lib.hid (all_snoc6 skB nd k hlt HAL.out h)
      have HBB := fun h => HBAD (all_bad6 skB nd k hlt h)
      have HS := Lib.hid (vsk_any (nd.getD k 0) w1)
      clear hat
      generalize nd.getD k 0 = x at *
      cases hs : skB x
      · rw [hs] at HS
        have HX := HBB hs
        clear hs HSN HBB
        go_wp2_with (go_at_call 36; refine HS.out.mono ?_; rintro e w' ⟨rfl, rfl⟩)
        go_ret
        exact ⟨ret_bool HX.out.symm, HBL.out⟩
      · rw [hs] at HS
        have HX := HSN hs
        clear hs HSN HBB
        go_wp2_with (go_at_call 36; refine HS.out.mono ?_; rintro e w' ⟨rfl, rfl⟩)
        go_round
        case rel => exact ⟨k + 1, by omega, by go_num, HX.out⟩
        case measure => simp [intOf]; omega
    · have HX := HALL (all_end6 skB nd k hlt HAL.out)
      clear HBAD HALL
      by_cases h5 : nd.length = 5
      · have hd5 : ((nd.length : Int) == 5) = true := by simp; omega
        have HD : Hid (decide (nd.length = 5) = true) := Lib.hid (decide_eq_true h5)
        have HS := Lib.hid (vsk_any ca w1)
        have HW1 := Lib.hid (win_any lo 0 20 w1)
        have HW2 := Lib.hid (win_any hi lo 20 w1)
        have hk5 : k = nd.length := by omega
        clear h5
        subst hk5
        have HTT := Lib.hid HT.out
        clear HT
        unfold skB at HS
        cases hb1 : btw ca 0 31
        · rw [hb1] at HS HTT
          clear hb1
          go_wp2_with (go_at_call 36; refine HS.out.mono ?_; rintro e w' ⟨rfl, rfl⟩)
          go_ret
          exact ⟨ret_bool (by rw [HX.out, HD.out, HTT.out]; rfl), HBL.out⟩
        · rw [hb1] at HS HTT
          clear hb1
          cases hb2 : btw lo 0 20
          · rw [hb2] at HW1 HTT
            clear hb2
            go_wp2_with (first | (go_at_call 36; refine HS.out.mono ?_; rintro e w' ⟨rfl, rfl⟩) | (go_at_call 29; refine HW1.out.mono ?_; rintro e w' ⟨rfl, rfl⟩))
            go_ret
            exact ⟨ret_bool (by rw [HX.out, HD.out, HTT.out]; rfl), HBL.out⟩
          · rw [hb2] at HW1 HTT
            clear hb2
            generalize btw hi lo 20 = b3 at *
            go_wp2_with (go_at_call 36; refine HS.out.mono ?_; rintro e w' ⟨rfl, rfl⟩; refine Hid.out ?_)
            refine Lib.hid ?_
            go_wp2_with (go_at_call 29; refine HW1.out.mono ?_; rintro e w' ⟨rfl, rfl⟩; refine Hid.out ?_)
            refine Lib.hid ?_
            go_wp2_with (go_at_call 29; refine HW2.out.mono ?_; rintro e w' ⟨rfl, rfl⟩)
            go_ret
            exact ⟨ret_bool (by rw [HX.out, HD.out, HTT.out]; rfl), HBL.out⟩
      · have hd5 : ((nd.length : Int) == 5) = false := by simp; omega
        have HD : Hid (decide (nd.length = 5) = false) := Lib.hid (decide_eq_false h5)
        go_wp2
        go_ret
        exact ⟨ret_bool (by rw [HX.out, HD.out]; rfl), HBL.out⟩
end Go.Proofs.Ytgoafhmmaepcjaa
