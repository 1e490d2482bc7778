/-
  The walks of the functions that say whether numbers are bytes. Conditions: where the lists lie, and the lengths that are typed.
  The walk of the program's PointBytes. Conditions: where the list lies, and the lengths that are typed.
-/
import Derived.Test.YtndpbhmokobbpaaGreatDoorDm03
import Derived.Test.YtndpbhmokobbpaaGreatDoorDm17
namespace Go.Proofs.YtndpbhmokobbpaaGreatDoor
open Go.RowKit
set_option linter.unusedVariables false

theorem isByte_yes {x : Int} (h : isByte x = true) : 0 ≤ x ∧ x ≤ 255 := by simpa [isByte] using h
theorem isByte_no {x : Int} (h : isByte x = false) : x < 0 ∨ (0 ≤ x ∧ 255 < x) := by
  by_cases h0 : x < 0
  · exact .inl h0
  · have : ¬ (0 ≤ x ∧ x ≤ 255) := by intro h1; simp [isByte, h1] at h
    omega
theorem takeI_snoc (xs : List Int) (k : Nat) (h : k < xs.length) : xs.take (k + 1) = xs.take k ++ [xs.getD k 0] := by
  rw [List.take_add_one, List.getElem?_eq_getElem h]
  simp [List.getD_eq_getElem?_getD, List.getElem?_eq_getElem h]
theorem allB_snoc (xs : List Int) (k : Nat) (h : k < xs.length) (ha : (xs.take k).all isByte = true) (hb : isByte (xs.getD k 0) = true) : (xs.take (k + 1)).all isByte = true := by
  rw [takeI_snoc xs k h, List.all_append, ha]; simpa using hb
theorem allB_bad (xs : List Int) (k : Nat) (h : k < xs.length) (hb : isByte (xs.getD k 0) = false) : xs.all isByte = false := by
  rw [List.all_eq_false]
  exact ⟨xs.getD k 0, by rw [List.getD_eq_getElem?_getD, List.getElem?_eq_getElem h]; exact List.getElem_mem h, by rw [hb]; simp⟩
theorem allB_end (xs : List Int) (k : Nat) (h : ¬ k < xs.length) (ha : (xs.take k).all isByte = true) : xs.all isByte = true := by
  rwa [List.take_of_length_le (by omega)] at ha

set_option maxHeartbeats 400000 in
theorem ivb_at (w : World) (b off c n : Nat) (xs : List Int) (hn : xs.length = n) (hn2 : n ≤ 1048576) (h : At w b off xs) : Calls Tryz.prog 66 #[.slice (some ⟨b, off, none⟩) n c] w fun e w' => e = .returned (.bool (bytesB 16 xs)) ∧ w = w' := by
  by_cases hg : (16 : Int) < (n : Int)
  · go_enter Tryz.func66, Tryz.ntmps66
    go_wp2
    go_ret
    exact ⟨ret_bool (by symm; simp [bytesB]; omega), rfl⟩
  · have hres : xs.all isByte = true → bytesB 16 xs = true := by intro ha; simp only [bytesB, ha, Bool.and_true, decide_eq_true_eq]; omega
    have HR := fun h => Lib.hid (hres h)
    have HN := Lib.hid hn
    have HC := Lib.hid h.2
    clear h hn hres
    go_enter Tryz.func66, Tryz.ntmps66
    go_wp2
    go_loop [10] (fun i => ∃ k : Nat, k ≤ n ∧ i = .int .i64 k ∧ (xs.take k).all isByte = true) (fun i => n - (intOf i).toNat)
    case atStart => exact ⟨0, Nat.zero_le _, rfl, by simp⟩
    case round =>
      obtain ⟨k, hk, rfl, hall⟩ := hrel
      have HA := Lib.hid hall
      clear hall
      by_cases hlt : k < n
      · have hkx : k < xs.length := by have := HN.out; omega
        have hc1 := HC.out k hkx
        have HS := fun h => Lib.hid (allB_snoc xs k hkx HA.out h)
        have HB := fun h => Lib.hid (allB_bad xs k hkx h)
        clear hkx
        generalize xs.getD k 0 = x at *
        cases hb : isByte x
        · have HX := Lib.hid (HB hb).out
          rcases isByte_no hb with h0 | ⟨h0, h1⟩
          all_goals
            clear hb
            go_wp2
            go_ret
            exact ⟨ret_bool (by symm; simp [bytesB, HX.out]), rfl⟩
        · have HX := HS hb
          obtain ⟨h0, h1⟩ := isByte_yes hb
          have h2 : ((x < 0 : Bool) || (255 < x : Bool)) = false := by simp; omega
          have h3 : decide (x < 0) = false := by simp; omega
          have h4 : decide (255 < x) = false := by simp; omega
          clear hb
          go_wp2
          go_round
          case rel => exact ⟨k + 1, by omega, by go_num, HX.out⟩
          case measure => simp [intOf]; omega
      · have ha := allB_end xs k (by have := HN.out; omega) HA.out
        have HX := HR ha
        clear ha
        go_wp2
        go_ret
        exact ⟨ret_bool HX.out.symm, rfl⟩

set_option maxHeartbeats 400000 in
theorem ivb_nil (w : World) (A : Option Addr) (c : Nat) :
    Calls Tryz.prog 66 #[.slice A 0 c] w fun e w' => e = .returned (.bool true) ∧ w = w' := by
  go_enter Tryz.func66, Tryz.ntmps66
  go_wp2
  refine wp_loop_rounds 1 ?_
  rw [rounds_succ]
  go_wp2
  go_ret
  exact ⟨rfl, rfl⟩
theorem ivb_any (w : World) (v : Value) (xs : List Int) (h : Rds w v xs) (hn : xs.length ≤ 1048576) :
    Calls Tryz.prog 66 #[v] w fun e w' => e = .returned (.bool (bytesB 16 xs)) ∧ w = w' := by
  obtain ⟨A, c, rfl, h1⟩ := h
  rcases Nat.eq_zero_or_pos xs.length with h0 | h0
  · obtain rfl : xs = [] := List.eq_nil_of_length_eq_zero h0
    exact ivb_nil w A c
  · obtain ⟨b, off, rfl, ha⟩ := h1 h0
    exact ivb_at w b off c xs.length xs rfl hn ha

set_option maxHeartbeats 400000 in
theorem inr_any (w : World) (x lo hi : Int) :
    Calls Tryz.prog 36 #[.int .i64 x, .int .i64 lo, .int .i64 hi] w fun e w' => e = .returned (.bool (decide (lo ≤ x) && decide (x ≤ hi))) ∧ w = w' := by
  by_cases h1 : lo ≤ x
  · have h2 : decide (lo ≤ x) = true := by simpa using h1
    go_enter Tryz.func36, Tryz.ntmps36
    go_wp2
    go_ret
    exact ⟨ret_bool (by simp [h1]), rfl⟩
  · have h2 : decide (lo ≤ x) = false := by simpa using h1
    go_enter Tryz.func36, Tryz.ntmps36
    go_wp2
    go_ret
    exact ⟨ret_bool (by simp), rfl⟩

set_option maxHeartbeats 400000 in
theorem svy_at (w : World) (b off c n m : Nat) (xs : List Int) (hn : xs.length = n) (hn2 : n ≤ 1048576) (hm : m ≤ 1000) (h : At w b off xs) :
    Calls Tryz.prog 33 #[.slice (some ⟨b, off, none⟩) n c, .int .i64 m] w fun e w' => e = .returned (.bool (bytesB m xs)) ∧ w = w' := by
  have hres : xs.all isByte = true → bytesB m xs = decide (n ≤ m) := by
    intro ha
    simp only [bytesB, ha, Bool.and_true, hn]
  have HR := fun h => Lib.hid (hres h)
  have HN := Lib.hid hn
  have HC := Lib.hid h.2
  have HI := Lib.hid (fun x => inr_any w x 0 255)
  clear h hn hres
  go_enter Tryz.func33, Tryz.ntmps33
  go_wp2
  go_loop [5] (fun i => ∃ k : Nat, k ≤ n ∧ i = .int .i64 k ∧ (xs.take k).all isByte = true) (fun i => n - (intOf i).toNat)
  case atStart => exact ⟨0, Nat.zero_le _, rfl, by simp⟩
  case round =>
    obtain ⟨k, hk, rfl, hall⟩ := hrel
    have HA := Lib.hid hall
    clear hall
    by_cases hlt : k < n
    · have hkx : k < xs.length := by have := HN.out; omega
      have hc1 := HC.out k hkx
      have HS := fun h => Lib.hid (allB_snoc xs k hkx HA.out h)
      have HB := fun h => Lib.hid (allB_bad xs k hkx h)
      clear hkx
      generalize xs.getD k 0 = x at *
      have hi : Calls Tryz.prog 36 #[.int .i64 x, .int .i64 0, .int .i64 255] w fun e w' => e = .returned (.bool (isByte x)) ∧ w = w' := HI.out x
      cases hb : isByte x
      · have HX := Lib.hid (HB hb).out
        rw [hb] at hi
        have H := Lib.hid hi
        clear hi hb
        go_wp2_with (go_at_call 36; refine H.out.mono ?_; rintro e w' ⟨rfl, rfl⟩)
        go_ret
        exact ⟨ret_bool (by symm; simp [bytesB, HX.out]), rfl⟩
      · have HX := HS hb
        rw [hb] at hi
        have H := Lib.hid hi
        clear hi hb
        go_wp2_with (go_at_call 36; refine H.out.mono ?_; rintro e w' ⟨rfl, rfl⟩)
        go_round
        case rel => exact ⟨k + 1, by omega, by go_num, HX.out⟩
        case measure => simp [intOf]; omega
    · have ha := allB_end xs k (by have := HN.out; omega) HA.out
      have HX := HR ha
      clear ha
      go_wp2
      go_ret
      exact ⟨ret_bool HX.out.symm, rfl⟩
set_option maxHeartbeats 400000 in
theorem svy_nil (w : World) (A : Option Addr) (c m : Nat) :
    Calls Tryz.prog 33 #[.slice A 0 c, .int .i64 m] w fun e w' => e = .returned (.bool true) ∧ w = w' := by
  go_enter Tryz.func33, Tryz.ntmps33
  go_wp2
  refine wp_loop_rounds 1 ?_
  rw [rounds_succ]
  go_wp2
  go_ret
  exact ⟨rfl, rfl⟩
theorem svy_any (w : World) (v : Value) (xs : List Int) (m : Nat) (h : Rds w v xs) (hn : xs.length ≤ 1048576) (hm : m ≤ 1000) :
    Calls Tryz.prog 33 #[v, .int .i64 m] w fun e w' => e = .returned (.bool (bytesB m xs)) ∧ w = w' := by
  obtain ⟨A, c, rfl, h1⟩ := h
  rcases Nat.eq_zero_or_pos xs.length with h0 | h0
  · obtain rfl : xs = [] := List.eq_nil_of_length_eq_zero h0
    exact svy_nil w A c m
  · obtain ⟨b, off, rfl, ha⟩ := h1 h0
    exact svy_at w b off c xs.length m xs rfl hn hm ha
end Go.Proofs.YtndpbhmokobbpaaGreatDoor

namespace Go.Proofs.YtndpbhmokobbpaaGreatDoor
open Go.RowKit
set_option linter.unusedVariables false

/-- What PointBytes gives. -/
def pntR' (l : List Int) : List Int := if bytesB 16 l = true then pnt l else []
theorem pnt_zero (l : List Int) : pnt (l ++ [0]) = pnt l ++ [1] ∧ (pst (l ++ [0])).1.length = (pnt l).length := by
  have e : pst (l ++ [0]) = ((pst l).1 ++ [((pst l).2.length : Int) + 1] ++ (pst l).2, []) := by rw [pst_snoc]; simp [pstp]
  constructor
  · unfold pnt; rw [e]; simp
  · rw [e]; rfl
theorem pnt_more (l : List Int) (b : Int) (hb : b ≠ 0) : pnt (l ++ [b]) = (pnt l ++ [b]).set (pst l).1.length (((pst l).2.length : Int) + 1 + 1) ∧ (pst (l ++ [b])).1.length = (pst l).1.length ∧ (pst (l ++ [b])).2.length = (pst l).2.length + 1 := by
  have e : pst (l ++ [b]) = ((pst l).1, (pst l).2 ++ [b]) := by rw [pst_snoc]; simp [pstp, hb]
  refine ⟨?_, by rw [e], by rw [e]; simp⟩
  unfold pnt
  rw [e]
  simp
theorem pnt_at (l : List Int) (b : Int) : (pnt l ++ [b]).getD (pst l).1.length 0 = ((pst l).2.length : Int) + 1 ∧ (pst l).1.length < (pnt l ++ [b]).length := by
  unfold pnt
  constructor
  · simp [List.getD_eq_getElem?_getD]
  · simp

set_option maxHeartbeats 1600000 in
theorem iPB_yes (w : World) (b off c n : Nat) (xs : List Int) (hn : xs.length = n) (h : At w b off xs) (hv : bytesB 16 xs = true) :
    Calls Tryz.prog 50 #[.slice (some ⟨b, off, none⟩) n c] w
      fun e w' => ∃ v, e = .returned v ∧ w'.ownsRow w.heap.size 3 1 v (pnt xs).length (ints (pnt xs)) ∧ Below w.heap.size w w' := by
  have hlen : xs.length ≤ 16 := by simp [bytesB] at hv; exact hv.1
  have h1 := ivb_at w b off c n xs hn (by omega) h
  rw [hv] at h1
  have H1 := Lib.hid h1
  obtain ⟨i0, hi, hz0, hz1, hz2⟩ := info_parts info3
  have HI := Lib.hid hi
  have HZ0 := Lib.hid hz0
  have HZ1 := Lib.hid hz1
  have HZ2 := Lib.hid hz2
  have HN := Lib.hid hn
  have HC := Lib.hid h.2
  have hb := h.1
  have hn16 : n ≤ 16 := by omega
  have HL := Lib.hid (World.ownsRow_lit (base := w.heap.size) (e := 3) (size := 1) w #[.int .i64 1] 1 (Nat.le_refl _) (by unfold maxLen; omega) rfl)
  clear h hn hv h1 hlen hi hz0 hz1 hz2
  go_enter Tryz.func50, Tryz.ntmps50
  go_wp2_with (go_at_call 66; refine H1.out.mono ?_; rintro e w' ⟨rfl, rfl⟩)
  go_loopw [3, 4, 13] (fun v cv i wr => ∃ k : Nat, k ≤ n ∧ i = .int .i64 k ∧ cv = .int .i64 ((pst (xs.take k)).1.length : Nat) ∧ wr.ownsRow w.heap.size 3 1 v (pnt (xs.take k)).length (ints (pnt (xs.take k))) ∧ Below w.heap.size w wr ∧ w.heap.size ≤ wr.heap.size) (fun _ _ i _ => n - (intOf i).toNat)
  case atStart => exact ⟨0, Nat.zero_le _, rfl, rfl, HL.out, (Below.refl _ _).alloc (Nat.le_refl _) _, by simp⟩
  case round =>
    obtain ⟨k, hk, rfl, rfl, hown, hbel, hsz⟩ := hrel
    have hel := pnt_len (xs.take k)
    have hel2 : (xs.take k).length ≤ k := List.length_take_le _ _
    by_cases hlt : k < n
    · have hkx : k < xs.length := by have := HN.out; omega
      have hc1 := (hbel.cell (p := ⟨b, off + k, none⟩) hb).trans (HC.out k hkx)
      have HT : Hid (xs.take (k + 1) = xs.take k ++ [xs.getD k 0]) := takeI_snoc xs k hkx
      clear hkx
      generalize xs.getD k 0 = x at *
      have hol : (pnt (xs.take k)).length ≤ 17 := by omega
      cases hx0 : (x == 0)
      · have hxn : x ≠ 0 := by simpa using hx0
        have HM := Lib.hid (pnt_more (xs.take k) x hxn)
        have hat := pnt_at (xs.take k) x
        have hpl : (pst (xs.take k)).1.length ≤ 17 ∧ (pst (xs.take k)).2.length ≤ 17 := by
          have h1 := hat.2
          unfold pnt at hol
          simp only [List.length_append] at hol
          omega
        have HAT := Lib.hid hat
        obtain ⟨hp1, hp2⟩ := hpl
        clear hat hxn hel hel2
        generalize (pst (xs.take k)).1.length = d at *
        generalize (pst (xs.take k)).2.length = q at *
        generalize pnt (xs.take k) = P at *
        go_wp2_with (at_builtin; refine wpList_append_own _ rfl (.tmp 24) (.tmp 26) 36 rfl w.heap.size 3 i0 (.int .i64 0) 1 8 Tryz.underlying36 HI.out HZ0.out HZ1.out HZ2.out rfl (by decide) _ _ _ rfl (hown.alloc _) ⟨wr.heap.size, 0, none⟩ 1 1 [.int .i64 x] rfl rfl (cell_one_new _ _ _) (one_cell _ rfl) (by rw [mx]; omega) (by omega) (by simp; omega) ?grow)
        case grow =>
          intro v1 w1 hown1 hg1 hnil
          clear hnil
          have R := push_below hown hg1 hbel hsz
          have ho1 := ownI_snoc hown1
          obtain ⟨gg, c1, rfl⟩ := own_form_some hown1 (by omega)
          have hlen1 : (P ++ [x]).length = P.length + 1 := by simp
          rw [hlen1] at ho1
          have hdl : d < P.length + 1 := by have := HAT.out.2; rw [hlen1] at this; exact this
          have hc2 := ho1.cellAt d (by omega)
          rw [ints_get _ d (by rw [hlen1]; exact hdl), HAT.out.1] at hc2
          have hf2 := ho1.frozenAt d
          have hst := ho1.stored d (.int .i64 ((q : Int) + 1 + 1))
          rw [ints_set] at hst
          have hb3 := R.1.setCell (p := ⟨gg, d, none⟩) (by show w.heap.size ≤ gg; exact (ho1.lt gg rfl).1) (.int .i64 ((q : Int) + 1 + 1))
          have HST := Lib.hid hst.1
          have HLEN := Lib.hid hlen1
          clear hst ho1 hown1 hg1 hlen1
          go_wp2
          go_roundw
          case rel =>
            refine ⟨k + 1, by omega, by go_num, ?_, ?_, hb3, ?_⟩
            · rw [HT.out, HM.out.2.1]
            · rw [HT.out, HM.out.1, List.length_set, HLEN.out]; exact HST.out
            · simpa [World.setCell] using R.2
          case measure => simp [intOf]; omega
      · obtain rfl : x = 0 := by simpa using hx0
        have HM := Lib.hid (pnt_zero (xs.take k))
        have hp1 : 0 < (pnt (xs.take k)).length := by omega
        have hpl : (pst (xs.take k)).1.length ≤ 17 := by
          unfold pnt at hol
          simp only [List.length_append] at hol
          omega
        clear hel hel2
        generalize (pst (xs.take k)).1.length = d at *
        generalize pnt (xs.take k) = P at *
        obtain ⟨g0, c0, rfl⟩ := own_form_some hown hp1
        have HOW := Lib.hid hown
        clear hown
        go_wp2_with (at_builtin; refine wpList_append_own _ rfl (.tmp 21) (.tmp 22) 36 rfl w.heap.size 3 i0 (.int .i64 0) 1 8 Tryz.underlying36 HI.out HZ0.out HZ1.out HZ2.out rfl (by decide) _ _ _ rfl (HOW.out.alloc _) ⟨wr.heap.size, 0, none⟩ 1 1 [.int .i64 1] rfl rfl (cell_one_new _ _ _) (one_cell _ rfl) (by rw [mx]; omega) (by omega) (by simp; omega) ?_; intro v1 w1 hown1 hg1 hnil; clear hnil)
        have R := push_below HOW.out hg1 hbel hsz
        go_roundw
        case rel => exact ⟨k + 1, by omega, by go_num, by rw [HT.out, HM.out.2], by rw [HT.out, HM.out.1]; exact ownI_snoc hown1, R.1, R.2⟩
        case measure => simp [intOf]; omega
    · have e : xs.take k = xs := List.take_of_length_le (by have := HN.out; omega)
      rw [e] at hown
      have HOW := Lib.hid hown
      clear e hel hel2 hown
      go_wp2
      go_ret
      exact ⟨_, rfl, HOW.out, hbel⟩

set_option maxHeartbeats 400000 in
theorem iPB_no (w : World) (b off c n : Nat) (xs : List Int) (hn : xs.length = n) (hn2 : n ≤ 1048576) (h : At w b off xs) (hv : bytesB 16 xs = false) :
    Calls Tryz.prog 50 #[.slice (some ⟨b, off, none⟩) n c] w fun e w' => e = .returned (.slice none 0 0) ∧ w = w' := by
  have h1 := ivb_at w b off c n xs hn hn2 h
  rw [hv] at h1
  have H1 := Lib.hid h1
  clear h1 hv h
  go_enter Tryz.func50, Tryz.ntmps50
  go_wp2_with (go_at_call 66; refine H1.out.mono ?_; rintro e w' ⟨rfl, rfl⟩)
  go_ret
  exact ⟨rfl, rfl⟩
set_option maxHeartbeats 400000 in
theorem iPB_nil (w : World) (A : Option Addr) (c : Nat) :
    Calls Tryz.prog 50 #[.slice A 0 c] w
      fun e w' => ∃ v, e = .returned v ∧ w'.ownsRow w.heap.size 3 1 v 1 (ints [1]) ∧ Below w.heap.size w w' := by
  have H1 := Lib.hid (ivb_nil w A c)
  have HL := Lib.hid (World.ownsRow_lit (base := w.heap.size) (e := 3) (size := 1) w #[.int .i64 1] 1 (Nat.le_refl _) (by unfold maxLen; omega) rfl)
  go_enter Tryz.func50, Tryz.ntmps50
  go_wp2_with (go_at_call 66; refine H1.out.mono ?_; rintro e w' ⟨rfl, rfl⟩)
  refine wp_loop_rounds 1 ?_
  rw [rounds_succ]
  go_wp2
  go_ret
  exact ⟨_, rfl, HL.out, (Below.refl _ _).alloc (Nat.le_refl _) _⟩
theorem iPB_any (w : World) (v : Value) (xs : List Int) (h : Rds w v xs) (hn : xs.length ≤ 1048576) :
    Calls Tryz.prog 50 #[v] w
      fun e w' => ∃ u, e = .returned u ∧ w'.ownsRow w.heap.size 3 1 u (pntR' xs).length (ints (pntR' xs)) ∧ Below w.heap.size w w' := by
  obtain ⟨A, c, rfl, h1⟩ := h
  rcases Nat.eq_zero_or_pos xs.length with h0 | h0
  · obtain rfl : xs = [] := List.eq_nil_of_length_eq_zero h0
    exact iPB_nil w A c
  · obtain ⟨b, off, rfl, ha⟩ := h1 h0
    unfold pntR'
    by_cases hv : bytesB 16 xs = true
    · rw [if_pos hv]; exact iPB_yes w b off c xs.length xs rfl ha hv
    · rw [if_neg hv]
      exact (iPB_no w b off c xs.length xs rfl hn ha (by simpa using hv)).mono fun e w' ⟨he, hw⟩ => ⟨_, he, World.ownsRow_nil _ _ _ _, by rw [hw]; exact Below.refl _ _⟩
theorem pntR'_len (l : List Int) : (pntR' l).length ≤ 33 := by
  unfold pntR'
  split
  · rename_i h
    have h2 : l.length ≤ 16 := by simp [bytesB] at h; exact h.1
    rw [pnt_len]; omega
  · simp
end Go.Proofs.YtndpbhmokobbpaaGreatDoor
