/-
  The walk of the model's PointBytes. Conditions: where the list lies, and the lengths that are typed.
-/
import Derived.Test.YtndpbhmokobbpaaGreatDoorDm18
namespace Go.Proofs.YtndpbhmokobbpaaGreatDoor
open Go.RowKit
set_option linter.unusedVariables false

theorem pst_zero (l : List Int) : pst (l ++ [0]) = ((pst l).1 ++ [((pst l).2.length : Int) + 1] ++ (pst l).2, []) := by rw [pst_snoc]; simp [pstp]
theorem pst_more (l : List Int) (b : Int) (hb : b ≠ 0) : pst (l ++ [b]) = ((pst l).1, (pst l).2 ++ [b]) := by rw [pst_snoc]; simp [pstp, hb]
theorem pst_sum (l : List Int) : (pst l).1.length + (pst l).2.length = l.length := by
  have := pst_len l ([], [])
  simpa [pst] using this

theorem ints_one' (xs : List Int) : ∀ u ∈ ints xs, u.oneCell' = true := by
  intro u hu
  obtain ⟨x, _, rfl⟩ := List.mem_map.1 hu
  rfl

set_option maxHeartbeats 3200000 in
theorem sPB_yes (w : World) (b off c n : Nat) (xs : List Int) (hn : xs.length = n) (h : At w b off xs) (hv : bytesB 16 xs = true) :
    Calls Tryz.prog 34 #[.slice (some ⟨b, off, none⟩) n c] w
      fun e w' => ∃ v, e = .returned v ∧ w'.ownsRow w.heap.size 3 1 v (pnt xs).length (ints (pnt xs)) ∧ Below w.heap.size w w' := by
  have hlen : xs.length ≤ 16 := by simp [bytesB] at hv; exact hv.1
  have h1 := svy_at w b off c n 16 xs hn (by omega) (by omega) h
  rw [hv] at h1
  have H1 : Hid (Calls Tryz.prog 33 #[.slice (some ⟨b, off, none⟩) n c, .int .i64 16] w fun e w' => e = .returned (.bool true) ∧ w = w') := h1
  obtain ⟨i0, hi, hz0, hz1, hz2⟩ := info_parts info3
  have HI := Lib.hid hi
  have HZ0 := Lib.hid hz0
  have HZ1 := Lib.hid hz1
  have HZ2 := Lib.hid hz2
  have HN := Lib.hid hn
  have HC := Lib.hid h.2
  have hb := h.1
  have hn16 : n ≤ 16 := by omega
  have HM1 := Lib.hid (World.ownsRow_made (base := w.heap.size) (e := 3) (size := 1) w #[] 0 (Nat.le_refl _) (by unfold maxLen; omega) rfl)
  have HM2 := Lib.hid (World.ownsRow_made (base := w.heap.size) (e := 3) (size := 1) (w.alloc (.cells #[] 3)) #[] 0 (by simp) (by unfold maxLen; omega) rfl)
  clear h hn hv h1 hlen hi hz0 hz1 hz2
  go_enter Tryz.func34, Tryz.ntmps34
  go_wp2_with (go_at_call 33; refine H1.out.mono ?_; rintro e w' ⟨rfl, rfl⟩)
  go_loopw [3, 4, 5] (fun ov gv i wr => ∃ (k g1 g2 c1 c2 : Nat), k ≤ n ∧ i = .int .i64 k ∧ ov = .slice (some ⟨g1, 0, none⟩) (pst (xs.take k)).1.length c1 ∧ gv = .slice (some ⟨g2, 0, none⟩) (pst (xs.take k)).2.length c2 ∧ g1 ≠ g2 ∧ OwnI wr w.heap.size g1 c1 (pst (xs.take k)).1 ∧ OwnI wr w.heap.size g2 c2 (pst (xs.take k)).2 ∧ Below w.heap.size w wr ∧ w.heap.size ≤ wr.heap.size) (fun _ _ i _ => n - (intOf i).toNat)
  case atStart =>
    refine ⟨0, w.heap.size, w.heap.size + 1, 0, 0, Nat.zero_le _, rfl, rfl, rfl, by omega, HM1.out.alloc _, ?_, ((Below.refl _ _).alloc (Nat.le_refl _) _).alloc (by simp) _, by simp; omega⟩
    have := HM2.out
    rw [World.size_alloc] at this
    exact this
  case round =>
    obtain ⟨k, g1, g2, c1, c2, hk, rfl, rfl, rfl, hne, hown1, hown2, hbel, hsz⟩ := hrel
    have hsum := pst_sum (xs.take k)
    have hel2 : (xs.take k).length ≤ k := List.length_take_le _ _
    have HO1 := Lib.hid hown1
    have HO2 := Lib.hid hown2
    have hlt2 := (hown2.lt g2 rfl).2
    clear hown1 hown2
    by_cases hlt : k < n
    · have hkx : k < xs.length := by have := HN.out; omega
      have hc1 := (hbel.cell (p := ⟨b, off + k, none⟩) hb).trans (HC.out k hkx)
      have HT : Hid (xs.take (k + 1) = xs.take k ++ [xs.getD k 0]) := takeI_snoc xs k hkx
      clear hkx
      generalize xs.getD k 0 = x at *
      cases hx0 : (x == 0)
      · have hxn : x ≠ 0 := by simpa using hx0
        have HP := Lib.hid (pst_more (xs.take k) x hxn)
        clear hxn
        generalize pst (xs.take k) = st at *
        obtain ⟨d, q⟩ := st
        simp only [] at hsum HP
        have hq16 : q.length ≤ 16 := by omega
        have HO1 : Hid (OwnI wr w.heap.size g1 c1 d) := HO1
        have HO2 : Hid (wr.ownsRow w.heap.size 3 1 (.slice (some ⟨g2, 0, none⟩) q.length c2) q.length (ints q)) := HO2
        clear hsum hel2
        go_wp2_with (at_builtin; refine wpList_append_own_at _ rfl (.tmp 31) (.tmp 36) 36 rfl w.heap.size 3 i0 (.int .i64 0) 1 8 Tryz.underlying36 HI.out HZ0.out HZ1.out HZ2.out rfl (by decide) _ _ _ rfl (World.ownsRow.alloc HO2.out _) ⟨wr.heap.size, 0, none⟩ 1 1 [.int .i64 x] rfl rfl (cell_one_new _ _ _) (one_cell _ rfl) (by rw [mx]; omega) (by omega) (by simp; omega) ?grow)
        case grow =>
          intro v1 w1 hw1 hg1 hnil hat
          clear hnil
          have R := push_below HO2.out hg1 hbel hsz
          have ho2 := ownI_snoc hw1
          obtain ⟨g3, c3, rfl⟩ := own_form_some hw1 (by omega)
          have hd1 : OwnI w1 w.heap.size g1 c1 d := World.ownsRow.kept (World.ownsRow.alloc HO1.out (.cells #[.int .i64 x] 3)) hg1 (.inr (by simp [Value.ownBlock]; exact hne))
          have hne3 : g1 ≠ g3 := by
            have hl1 := (HO1.out.lt g1 rfl).2
            rcases hat with hat | hat
            · simp [Value.ownBlock] at hat; omega
            · simp [Value.ownBlock] at hat; omega
          have HD1 := Lib.hid hd1
          have ho3 : OwnI w1 w.heap.size g3 c3 (q ++ [x]) := by simpa [OwnI] using ho2
          have HO3 := Lib.hid ho3
          clear hw1 hg1 ho2 ho3 hd1 hat
          go_wp2
          go_roundw
          case rel => exact ⟨k + 1, g1, g3, c1, c3, by omega, by go_num, by rw [HT.out, HP.out], by rw [HT.out, HP.out]; simp, hne3, by rw [HT.out, HP.out]; exact HD1.out, by rw [HT.out, HP.out]; exact HO3.out, R.1, R.2⟩
          case measure => simp [intOf]; omega
      · obtain rfl : x = 0 := by simpa using hx0
        have HP := Lib.hid (pst_zero (xs.take k))
        generalize pst (xs.take k) = st at *
        obtain ⟨d, q⟩ := st
        simp only [] at hsum HP
        have hq16 : q.length ≤ 16 := by omega
        have hd16 : d.length ≤ 32 := by omega
        have HO1 : Hid (wr.ownsRow w.heap.size 3 1 (.slice (some ⟨g1, 0, none⟩) d.length c1) d.length (ints d)) := HO1
        have HO2 : Hid (wr.ownsRow w.heap.size 3 1 (.slice (some ⟨g2, 0, none⟩) q.length c2) q.length (ints q)) := HO2
        clear hsum hel2
        go_wp2_with (at_builtin; refine wpList_append_own_at _ rfl (.tmp 22) (.tmp 26) 36 rfl w.heap.size 3 i0 (.int .i64 0) 1 8 Tryz.underlying36 HI.out HZ0.out HZ1.out HZ2.out rfl (by decide) _ _ _ rfl (HO1.out.alloc _) ⟨wr.heap.size, 0, none⟩ 1 1 [.int .i64 ((q.length : Int) + 1)] rfl rfl (cell_one_new _ _ _) (one_cell _ rfl) (by rw [mx]; omega) (by omega) (by simp; omega) ?grow)
        case grow =>
          intro v1 w1 hw1 hg1 hnil hat
          clear hnil hat
          have R := push_below HO1.out hg1 hbel hsz
          have ho1 := ownI_snoc hw1
          obtain ⟨g3, c3, rfl⟩ := own_form_some hw1 (by omega)
          have hl3 : (d ++ [(q.length : Int) + 1]).length = d.length + 1 := by simp
          rw [hl3] at ho1
          have hq2 : OwnI w1 w.heap.size g2 c2 q := World.ownsRow.kept (HO2.out.alloc (.cells #[.int .i64 ((q.length : Int) + 1)] 3)) hg1 (.inr (by simp [Value.ownBlock]; exact fun e => hne e.symm))
          have HQ2 := Lib.hid hq2
          have HO3 := Lib.hid ho1
          clear hw1 hg1 ho1 hq2 hl3
          go_wp2_with (at_builtin; refine wpList_append_own_at _ rfl (.tmp 27) (.tmp 28) 36 rfl w.heap.size 3 i0 (.int .i64 0) 1 8 Tryz.underlying36 HI.out HZ0.out HZ1.out HZ2.out rfl (by decide) _ _ _ rfl HO3.out ⟨g2, 0, none⟩ q.length c2 (ints q) rfl (by simp [ints]) (World.ownsRow.cells HQ2.out (g := g2) rfl) (ints_one' _) (by rw [mx]; omega) (by omega) (by omega) ?grow2)
          case grow2 =>
            intro v4 w4 hw4 hg4 hnil hat
            clear hnil hat
            have hb4 := R.1.grown hg4 R.2 (fun j hj => (HO3.out.lt j hj).1)
            have hz4 : w.heap.size ≤ w4.heap.size := Nat.le_trans R.2 hg4.size
            obtain ⟨g4, c4, rfl⟩ := own_form_some hw4 (by omega)
            have e4 : (d ++ [(q.length : Int) + 1] ++ q).length = d.length + 1 + q.length := by simp; omega
            have hown4 : w4.ownsRow w.heap.size 3 1 (.slice (some ⟨g4, 0, none⟩) (d.length + 1 + q.length) c4) (d.length + 1 + q.length) (ints (d ++ [(q.length : Int) + 1] ++ q)) := by rw [ints_app]; exact hw4
            have hl4 := (hown4.lt g4 rfl).2
            have HW4 := Lib.hid hown4
            have HE4 := Lib.hid e4
            clear hw4 hg4 HO3 HQ2 hown4 e4
            go_wp2
            go_roundw
            case rel =>
              refine ⟨k + 1, g4, w4.heap.size, c4, 0, by omega, by go_num, by rw [HT.out, HP.out, HE4.out], by rw [HT.out, HP.out]; rfl, by omega, ?_, ?_, hb4.alloc hz4 _, by simp; omega⟩
              · rw [HT.out, HP.out]; unfold OwnI; rw [HE4.out]; exact HW4.out.alloc _
              · rw [HT.out, HP.out]; exact World.ownsRow_made w4 #[] 0 hz4 (by unfold maxLen; omega) rfl
            case measure => simp [intOf]; omega
    · have e : xs.take k = xs := List.take_of_length_le (by have := HN.out; omega)
      rw [e] at HO1 HO2 hsum
      have hx16 : xs.length ≤ 16 := by have := HN.out; omega
      have HP : Hid (pnt xs = (pst xs).1 ++ [((pst xs).2.length : Int) + 1] ++ (pst xs).2) := rfl
      rw [e]
      clear e hel2
      generalize pst xs = st at *
      obtain ⟨d, q⟩ := st
      simp only [] at hsum HP
      have hq16 : q.length ≤ 16 := by omega
      have hd16 : d.length ≤ 32 := by omega
      have HO1 : Hid (wr.ownsRow w.heap.size 3 1 (.slice (some ⟨g1, 0, none⟩) d.length c1) d.length (ints d)) := HO1
      have HO2 : Hid (wr.ownsRow w.heap.size 3 1 (.slice (some ⟨g2, 0, none⟩) q.length c2) q.length (ints q)) := HO2
      clear hsum hx16
      go_wp2_with (at_builtin; refine wpList_append_own_at _ rfl (.tmp 38) (.tmp 42) 36 rfl w.heap.size 3 i0 (.int .i64 0) 1 8 Tryz.underlying36 HI.out HZ0.out HZ1.out HZ2.out rfl (by decide) _ _ _ rfl (HO1.out.alloc _) ⟨wr.heap.size, 0, none⟩ 1 1 [.int .i64 ((q.length : Int) + 1)] rfl rfl (cell_one_new _ _ _) (one_cell _ rfl) (by rw [mx]; omega) (by omega) (by simp; omega) ?grow)
      case grow =>
        intro v1 w1 hw1 hg1 hnil hat
        clear hnil hat
        have R := push_below HO1.out hg1 hbel hsz
        have ho1 := ownI_snoc hw1
        obtain ⟨g3, c3, rfl⟩ := own_form_some hw1 (by omega)
        have hl3 : (d ++ [(q.length : Int) + 1]).length = d.length + 1 := by simp
        rw [hl3] at ho1
        have hq2 : OwnI w1 w.heap.size g2 c2 q := World.ownsRow.kept (HO2.out.alloc (.cells #[.int .i64 ((q.length : Int) + 1)] 3)) hg1 (.inr (by simp [Value.ownBlock]; exact fun e => hne e.symm))
        have HQ2 := Lib.hid hq2
        have HO3 := Lib.hid ho1
        clear hw1 hg1 ho1 hq2 hl3
        go_wp2_with (at_builtin; refine wpList_append_own_at _ rfl (.tmp 43) (.tmp 44) 36 rfl w.heap.size 3 i0 (.int .i64 0) 1 8 Tryz.underlying36 HI.out HZ0.out HZ1.out HZ2.out rfl (by decide) _ _ _ rfl HO3.out ⟨g2, 0, none⟩ q.length c2 (ints q) rfl (by simp [ints]) (World.ownsRow.cells HQ2.out (g := g2) rfl) (ints_one' _) (by rw [mx]; omega) (by omega) (by omega) ?grow2)
        case grow2 =>
          intro v4 w4 hw4 hg4 hnil hat
          clear hnil hat
          have hb4 := R.1.grown hg4 R.2 (fun j hj => (HO3.out.lt j hj).1)
          have hz4 : w.heap.size ≤ w4.heap.size := Nat.le_trans R.2 hg4.size
          obtain ⟨g4, c4, rfl⟩ := own_form_some hw4 (by omega)
          have e4 : (d ++ [(q.length : Int) + 1] ++ q).length = d.length + 1 + q.length := by simp; omega
          have hown4 : w4.ownsRow w.heap.size 3 1 (.slice (some ⟨g4, 0, none⟩) (d.length + 1 + q.length) c4) (d.length + 1 + q.length) (ints (d ++ [(q.length : Int) + 1] ++ q)) := by rw [ints_app]; exact hw4
          have hl4 := (hown4.lt g4 rfl).2
          have HW4 := Lib.hid hown4
          have HE4 := Lib.hid e4
          clear hw4 hg4 HO3 HQ2 hown4 e4
          go_wp2
          go_ret
          exact ⟨_, rfl, by rw [HP.out, HE4.out]; exact HW4.out, hb4⟩

set_option maxHeartbeats 400000 in
theorem sPB_no (w : World) (b off c n : Nat) (xs : List Int) (hn : xs.length = n) (hn2 : n ≤ 1048576) (h : At w b off xs) (hv : bytesB 16 xs = false) :
    Calls Tryz.prog 34 #[.slice (some ⟨b, off, none⟩) n c] w fun e w' => e = .returned (.slice none 0 0) ∧ w = w' := by
  have h1 := svy_at w b off c n 16 xs hn hn2 (by omega) h
  rw [hv] at h1
  have H1 : Hid (Calls Tryz.prog 33 #[.slice (some ⟨b, off, none⟩) n c, .int .i64 16] w fun e w' => e = .returned (.bool false) ∧ w = w') := h1
  clear h1 hv h
  go_enter Tryz.func34, Tryz.ntmps34
  go_wp2_with (go_at_call 33; refine H1.out.mono ?_; rintro e w' ⟨rfl, rfl⟩)
  go_ret
  exact ⟨rfl, rfl⟩

set_option maxHeartbeats 800000 in
theorem sPB_nil (w : World) (A : Option Addr) (c : Nat) :
    Calls Tryz.prog 34 #[.slice A 0 c] w
      fun e w' => ∃ v, e = .returned v ∧ w'.ownsRow w.heap.size 3 1 v 1 (ints [1]) ∧ Below w.heap.size w w' := by
  have H1 : Hid (Calls Tryz.prog 33 #[.slice A 0 c, .int .i64 16] w fun e w' => e = .returned (.bool true) ∧ w = w') := svy_nil w A c 16
  obtain ⟨i0, hi, hz0, hz1, hz2⟩ := info_parts info3
  have HI := Lib.hid hi
  have HZ0 := Lib.hid hz0
  have HZ1 := Lib.hid hz1
  have HZ2 := Lib.hid hz2
  clear hi hz0 hz1 hz2
  have HM1 : Hid (((w.alloc (.cells #[] 3)).alloc (.cells #[] 3)).ownsRow w.heap.size 3 1 (.slice (some ⟨w.heap.size, 0, none⟩) 0 0) 0 []) := (World.ownsRow_made (base := w.heap.size) (e := 3) (size := 1) w #[] 0 (Nat.le_refl _) (by unfold maxLen; omega) rfl).alloc _
  go_enter Tryz.func34, Tryz.ntmps34
  go_wp2_with (go_at_call 33; refine H1.out.mono ?_; rintro e w' ⟨rfl, rfl⟩)
  refine wp_loop_rounds 1 ?_
  rw [rounds_succ]
  have hcn : ∀ j u, [Value.int .i64 1][j]? = some u → (((w.alloc (.cells #[] 3)).alloc (.cells #[] 3)).alloc (.cells #[.int .i64 1] 3)).cell? ((⟨w.heap.size + 1 + 1, 0, none⟩ : Addr).add j) = some u := by
    have := cell_one_new ((w.alloc (.cells #[] 3)).alloc (.cells #[] 3)) (.int .i64 1) 3
    rw [World.size_alloc, World.size_alloc] at this
    exact this
  have HCN := Lib.hid hcn
  clear hcn
  go_wp2_with (at_builtin; refine wpList_append_own _ rfl (.tmp 38) (.tmp 42) 36 rfl w.heap.size 3 i0 (.int .i64 0) 1 8 Tryz.underlying36 HI.out HZ0.out HZ1.out HZ2.out rfl (by decide) _ _ _ rfl (HM1.out.alloc _) ⟨w.heap.size + 1 + 1, 0, none⟩ 1 1 [.int .i64 1] rfl rfl HCN.out (one_cell _ rfl) (by rw [mx]; omega) (by omega) (by simp; omega) ?grow)
  case grow =>
    intro v1 w1 hw1 hg1 hnil
    clear hnil
    have R := push_below HM1.out hg1 (((Below.refl _ w).alloc (Nat.le_refl _) _).alloc (by simp) _) (by simp; omega)
    obtain ⟨g3, c3, rfl⟩ := own_form_some hw1 (by omega)
    have HW := Lib.hid hw1
    clear hw1 hg1
    go_wp2_with (at_builtin; refine wpList_append_own _ rfl (.tmp 43) (.tmp 44) 36 rfl w.heap.size 3 i0 (.int .i64 0) 1 8 Tryz.underlying36 HI.out HZ0.out HZ1.out HZ2.out rfl (by decide) _ _ _ rfl HW.out ⟨w.heap.size + 1, 0, none⟩ 0 0 [] rfl rfl (fun j u h => by simp at h) (fun u h => by simp at h) (by rw [mx]; omega) (by omega) (by omega) ?grow2)
    case grow2 =>
      intro v4 w4 hw4 hg4 hnil
      clear hnil
      have hb4 := R.1.grown hg4 R.2 (fun j hj => (HW.out.lt j hj).1)
      obtain ⟨g4, c4, rfl⟩ := own_form_some hw4 (by omega)
      have HW4 := Lib.hid hw4
      clear hw4 hg4 HW
      go_wp2
      go_ret
      exact ⟨_, rfl, by simpa [ints] using HW4.out, hb4⟩
theorem sPB_any (w : World) (v : Value) (xs : List Int) (h : Rds w v xs) (hn : xs.length ≤ 1048576) :
    Calls Tryz.prog 34 #[v] w
      fun e w' => ∃ u, e = .returned u ∧ w'.ownsRow w.heap.size 3 1 u (pntR' xs).length (ints (pntR' xs)) ∧ Below w.heap.size w w' := by
  obtain ⟨A, c, rfl, h1⟩ := h
  rcases Nat.eq_zero_or_pos xs.length with h0 | h0
  · obtain rfl : xs = [] := List.eq_nil_of_length_eq_zero h0
    exact sPB_nil w A c
  · obtain ⟨b, off, rfl, ha⟩ := h1 h0
    unfold pntR'
    by_cases hv : bytesB 16 xs = true
    · rw [if_pos hv]; exact sPB_yes w b off c xs.length xs rfl ha hv
    · rw [if_neg hv]
      exact (sPB_no w b off c xs.length xs rfl hn ha (by simpa using hv)).mono fun e w' ⟨he, hw⟩ => ⟨_, he, World.ownsRow_nil _ _ _ _, by rw [hw]; exact Below.refl _ _⟩
end Go.Proofs.YtndpbhmokobbpaaGreatDoor
