/-
  The walk of the program's UnstuffBits. Conditions: the lengths that are typed.
-/
import Derived.Test.YtogoedjcacnfcaaDoorWuns
import Derived.WalkMore
namespace Go.Proofs.YtogoedjcacnfcaaDoor
open Go.RowKit
set_option linter.unusedVariables false

set_option maxHeartbeats 1600000 in
theorem iUB_yes (s : ByteArray) (w : World) (hv : bitsB 48 s.data.toList = true) :
    Calls Tryd.prog 21 #[.string s] w fun e w' => e = .returned (pairU (unsR s.data.toList)) ∧ Below w.heap.size w w' := by
  obtain ⟨hlen, hall⟩ : s.size ≤ 48 ∧ s.data.toList.all isBit = true := by simpa [bitsB] using hv
  have h1 : Calls Tryd.prog 19 #[.string s, .int .i64 48] w fun e w' => e = .returned (.bool (bitsB 48 s.data.toList)) ∧ Below w.heap.size w w' := iob_any s 48 w (by unfold maxLen; omega) (by omega)
  rw [hv] at h1
  have H48 := Lib.hid hv
  have HALL := Lib.hid hall
  clear hv hall
  have H1 := Lib.hid h1
  clear h1
  obtain ⟨i0, hi, hz0, hz1, hz2⟩ := info_parts info5
  have HI := Lib.hid hi
  have HZ0 := Lib.hid hz0
  have HZ1 := Lib.hid hz1
  have HZ2 := Lib.hid hz2
  clear hi hz0 hz1 hz2
  have hmk := mk48
  go_enter Tryd.func21, Tryd.ntmps21
  go_wp2_with fail
  go_step3
  go_wp2_with (go_at_call 19; refine H1.out.mono ?_; rintro e w1 ⟨rfl, hb1⟩)
  go_step3
  go_wp2
  have hsz1 := hb1.size
  go_loopw [4, 5] (fun v n wr => ∃ (k : Nat) (st : List UInt8 × Nat), k ≤ s.size ∧ n = .int .i64 st.2 ∧ wr.heap[w1.heap.size + 1]? = some (.stringIter s k) ∧
      wr.ownsRow w.heap.size 5 1 v st.1.length (cellsOf st.1) ∧ Below w.heap.size w wr ∧ w.heap.size ≤ wr.heap.size ∧ usf (s.data.toList.take k) ([], 0) = some st ∧ st.2 ≤ 5 ∧ st.1.length ≤ k)
    (fun _ _ wr => s.size - wr.iterPos (w1.heap.size + 1))
  case atStart =>
    refine ⟨0, ([], 0), Nat.zero_le _, rfl, ?_, ?_, (hb1.alloc hsz1 _).alloc (by simp; omega) _, ?_, rfl, by simp, by simp⟩
    · have := World.iter_heap (w1.alloc (.cells blk48 5)) s 0
      simpa using this
    · exact (World.ownsRow_made w1 blk48 48 hsz1 (by unfold maxLen; omega) (by rw [blk48_size])).alloc _
    · show w.heap.size ≤ ((w1.alloc (.cells blk48 5)).alloc (.stringIter s 0)).heap.size
      rw [World.size_alloc, World.size_alloc]; omega
  case round =>
    obtain ⟨k, ⟨o, n⟩, hk, rfl, hit, hown, hbel, hsz, hu, hn, hlo⟩ := hrel
    have HU := Lib.hid hu
    clear hu
    simp only [] at hn hlo hown
    by_cases hlt : k < s.size
    · have hbit := all_at k hlt HALL.out
      have HT := Lib.hid (take_snoc s k hlt)
      have HS := Lib.hid (usf_snoc _ s[k] _ _ HU.out)
      have HD := Lib.hid (take_drop s k s[k] HT.out)
      have hnx0 := fun ty => Lib.run_next_ascii_at (P := Tryd.prog) wr (w1.heap.size + 1) s k ty hit hlt (by rcases isBit_cases hbit with e | e <;> rw [e] <;> decide)
      have hit2 := Lib.iterAt_heap wr (w1.heap.size + 1) s k (k + 1) hit
      have hown2 := own_iterAt hown hit (k + 1)
      have hbel2 := Lib.below_iterAt hbel (k := w1.heap.size + 1) (by omega) s (k + 1)
      have hsz2 : w.heap.size ≤ (wr.iterAt (w1.heap.size + 1) s (k + 1)).heap.size := by rw [Lib.iterAt_size]; exact hsz
      have hpos := iterPos_of hit
      clear hown hbel hsz hit
      generalize wr.iterAt (w1.heap.size + 1) s (k + 1) = W2 at *
      generalize s[k] = c at *
      rcases isBit_cases hbit with rfl | rfl
      · have hnx : ∀ ty, (Instr.next (.pointer (some ⟨w1.heap.size + 1, 0, none⟩)) true ty).run Tryd.prog wr = .ok (.tuple #[.bool true, .int .i64 k, .int .i32 48]) W2 := hnx0
        clear hnx0 hbit
        have HP := Lib.hid hpos
        clear hpos
        cases hn5 : ((n : Int) == 5)
        · have hne : n ≠ 5 := by simp at hn5; omega
          have e := usp_zero (o := o) (c := 48) hne (by decide)
          have HE := Lib.hid e
          clear hne e
          go_wp2_with (at_builtin; refine wpList_append_own _ rfl (.tmp 32) (.tmp 35) 27 rfl w.heap.size 5 i0 (.int .u8 0) 1 1 Tryd.underlying27 HI.out HZ0.out HZ1.out HZ2.out rfl (by decide) _ _ _ rfl (hown2.alloc _) ⟨W2.heap.size, 0, none⟩ 1 1 [.int .u8 48] rfl rfl (cell_one_new _ _ _) (one_cell _ rfl) (by unfold maxLen; omega) (by omega) (by simp; omega) ?_; intro v1 W3 hown3 hg3 hnil; clear hnil; have R := push_keep hit2 hown2 hg3 hbel2 hsz2)
          have ho := own_push_u8 48 rfl hown3
          go_roundw
          case rel => exact ⟨k + 1, (o ++ [48], 0), by omega, rfl, R.1, ho, R.2.1, R.2.2, by rw [HT.out, HS.out, HE.out], by simp, by simp; omega⟩
          case measure => rw [iterPos_of R.1, HP.out]; omega
        · have hne : n = 5 := by simp at hn5; omega
          have e := usp_skip (o := o) (c := 48) hne (by decide)
          have HE := Lib.hid e
          clear hne e
          go_wp2
          go_roundw
          case rel => exact ⟨k + 1, (o, 0), by omega, rfl, hit2, hown2, hbel2, hsz2, by rw [HT.out, HS.out, HE.out], by simp, by simp; omega⟩
          case measure => rw [iterPos_of hit2, HP.out]; omega
      · have hnx : ∀ ty, (Instr.next (.pointer (some ⟨w1.heap.size + 1, 0, none⟩)) true ty).run Tryd.prog wr = .ok (.tuple #[.bool true, .int .i64 k, .int .i32 49]) W2 := hnx0
        clear hnx0 hbit
        have HP := Lib.hid hpos
        clear hpos
        cases hn5 : ((n : Int) == 5)
        · have hne : n ≠ 5 := by simp at hn5; omega
          have e := usp_one (o := o) hne
          have hn4 : n ≤ 4 := by omega
          have HE := Lib.hid e
          clear hne e
          go_wp2_with (at_builtin; refine wpList_append_own _ rfl (.tmp 32) (.tmp 35) 27 rfl w.heap.size 5 i0 (.int .u8 0) 1 1 Tryd.underlying27 HI.out HZ0.out HZ1.out HZ2.out rfl (by decide) _ _ _ rfl (hown2.alloc _) ⟨W2.heap.size, 0, none⟩ 1 1 [.int .u8 49] rfl rfl (cell_one_new _ _ _) (one_cell _ rfl) (by unfold maxLen; omega) (by omega) (by simp; omega) ?_; intro v1 W3 hown3 hg3 hnil; clear hnil; have R := push_keep hit2 hown2 hg3 hbel2 hsz2)
          have ho := own_push_u8 49 rfl hown3
          go_roundw
          case rel => exact ⟨k + 1, (o ++ [49], n + 1), by omega, by go_num, R.1, ho, R.2.1, R.2.2, by rw [HT.out, HS.out, HE.out], by simp only []; omega, by simp; omega⟩
          case measure => rw [iterPos_of R.1, HP.out]; omega
        · have hne : n = 5 := by simp at hn5; omega
          have e : uns s.data.toList = none := by
            rw [HD.out]
            exact uns_none _ _ (by rw [HS.out]; exact usp_none hne)
          have HX := Lib.hid (pairU_none (unsR_none e))
          clear hne e
          go_wp2
          try rw [Exit.noGoto_ret]
          go_ret2
          exact ⟨ret_of HX.out, hbel2⟩
    · have hnx : ∀ ty, (Instr.next (.pointer (some ⟨w1.heap.size + 1, 0, none⟩)) true ty).run Tryd.prog wr = _ := fun ty => Lib.run_next_end_at wr (w1.heap.size + 1) s k ty hit hlt
      have e : s.data.toList.take k = s.data.toList := List.take_of_length_le (by simp; omega)
      have he := uns_end _ _ HU.out
      rw [e] at he
      simp only [] at he
      have hcv := own_text (P := Tryd.prog) (src := 27) (dst := 9) Tryd.underlying27 Tryd.underlying5 Tryd.underlying9 hown
      obtain ⟨a, cp, rfl⟩ := own_form hown
      clear hown
      cases hn5 : ((n : Int) == 5)
      · have h5 : n < 5 := by simp at hn5; omega
        rw [if_pos h5] at he
        have hob : o.all isBit = true := uns_bits _ _ HALL.out he
        by_cases h40 : (40 : Int) < (o.length : Int)
        · have HX := Lib.hid (pairU_none (unsR_big he (by simp [bitsB]; omega)))
          clear e he hob hcv
          go_wp2
          try rw [Exit.noGoto_ret]
          go_ret2
          exact ⟨ret_of HX.out, hbel⟩
        · have HX := Lib.hid (pairU_some (unsR_some H48.out he (by simp [bitsB, hob]; omega)))
          clear e he hob
          go_wp2
          try rw [Exit.noGoto_ret]
          go_ret2
          exact ⟨ret_of HX.out, hbel⟩
      · have h5 : ¬ n < 5 := by simp at hn5; omega
        rw [if_neg h5] at he
        have HX := Lib.hid (pairU_none (unsR_none he))
        clear e he
        go_wp2
        try rw [Exit.noGoto_ret]
        go_ret2
        exact ⟨ret_of HX.out, hbel⟩

set_option maxHeartbeats 400000 in
theorem iUB_no (s : ByteArray) (w : World) (hs : s.size ≤ maxLen) (hv : bitsB 48 s.data.toList = false) :
    Calls Tryd.prog 21 #[.string s] w fun e w' => e = .returned (pairU (unsR s.data.toList)) ∧ Below w.heap.size w w' := by
  have HX := Lib.hid (pairU_none (unsR_long hv))
  have h1 : Calls Tryd.prog 19 #[.string s, .int .i64 48] w fun e w' => e = .returned (.bool (bitsB 48 s.data.toList)) ∧ Below w.heap.size w w' := iob_any s 48 w hs (by omega)
  rw [hv] at h1
  clear hv
  have H1 := Lib.hid h1
  clear h1
  go_enter Tryd.func21, Tryd.ntmps21
  go_wp2_with fail
  go_step3
  go_wp2_with (go_at_call 19; refine H1.out.mono ?_; rintro e w1 ⟨rfl, hb1⟩)
  try rw [Exit.noGoto_ret]
  go_ret2
  exact ⟨ret_of HX.out, hb1⟩

theorem iUB_any (s : ByteArray) (w : World) (hs : s.size ≤ maxLen) :
    Calls Tryd.prog 21 #[.string s] w fun e w' => e = .returned (pairU (unsR s.data.toList)) ∧ Below w.heap.size w w' := by
  by_cases hv : bitsB 48 s.data.toList = true
  · exact iUB_yes s w hv
  · exact iUB_no s w hs (by simpa using hv)
end Go.Proofs.YtogoedjcacnfcaaDoor
