/-
  The walks of the program's SealBits and IsSealed. Conditions: the lengths that are typed.
  The walks of the functions that stuff bits. Conditions: the lengths that are typed.
-/
import Derived.Test.YtndpbhmokobbpaaGreatDoorDm23
import Derived.Test.YtndpbhmokobbpaaGreatDoorDm09
namespace Go.Proofs.YtndpbhmokobbpaaGreatDoor
open Go.RowKit
set_option linter.unusedVariables false

set_option maxHeartbeats 1600000 in
theorem iSE_any (p s : ByteArray) (w : World) (hp : p.size ≤ 1048576) (hs : s.size ≤ 1048576) :
    Calls Tryz.prog 55 #[.string p, .string s] w fun e w' => e = .returned (.string ⟨(sealR p.data.toList s.data.toList).toArray⟩) ∧ Below w.heap.size w w' := by
  have h1 := fun W => iVP_any p W (by unfold maxLen; omega)
  cases hv : polyB p.data.toList
  · rw [sealR_1 hv]
    rw [hv] at h1
    have H1 := Lib.hid h1
    clear h1 hv
    go_enter Tryz.func55, Tryz.ntmps55
    go_wp2_with (go_at_call 71; refine (H1.out _).mono ?_; rintro e w1 ⟨rfl, hb1⟩)
    go_ret
    exact ⟨rfl, hb1⟩
  · rw [hv] at h1
    have H1 := Lib.hid h1
    clear h1
    obtain ⟨q1, q2⟩ := poly_len hv
    obtain ⟨m, hpm⟩ : ∃ m, p.size = m + 1 := ⟨p.size - 1, by omega⟩
    have hlp : p.data.toList.length - 1 = m := by simp [hpm]
    have HN := Lib.hid (fun W => nou_any W m (by omega) (by omega))
    have hZ : (ByteArray.mk (List.replicate m (48 : UInt8)).toArray).size ≤ 8 := by rw [mk_size]; simp; omega
    have happ := app_list s (List.replicate m (48 : UInt8))
    have hST : (s ++ ByteArray.mk (List.replicate m (48 : UInt8)).toArray).size ≤ 1048600 := by rw [ByteArray.size_append]; omega
    have hRO := fun W => iRO_any p (s ++ ByteArray.mk (List.replicate m (48 : UInt8)).toArray) W hp hST
    have hdt : (s ++ ByteArray.mk (List.replicate m (48 : UInt8)).toArray).data.toList = s.data.toList ++ List.replicate m 48 := by rw [happ]
    rw [hdt] at hRO
    cases hb : bitsB 40 (s.data.toList ++ List.replicate m (48 : UInt8))
    · rw [sealR_2 (by rw [hlp]; exact hb)]
      rw [restR_2 hb] at hRO
      have HRO := Lib.hid hRO
      clear hRO hv hb hdt happ hlp hST
      go_enter Tryz.func55, Tryz.ntmps55
      go_wp2_with (first | (go_at_call 71; refine (H1.out _).mono ?_; rintro e w1 ⟨rfl, hb1⟩) | (go_at_call 72; refine (HN.out _).mono ?_; rintro e w2 ⟨rfl, ho, hb2⟩; have hbk := own_back (cap := m) (k := m) (off := 0) (OwnB.of_own (by simp) ho) (by simp); rw [List.drop_zero] at hbk; clear ho; generalize ByteArray.mk (List.replicate m (48 : UInt8)).toArray = Z at *))
      refine (HRO.out _).mono ?_
      rintro e w3 ⟨rfl, hb3⟩
      go_wp2
      go_ret
      have hb12 := hb1.trans (hb2.mono hb1.size)
      exact ⟨rfl, hb12.trans (hb3.mono hb12.size)⟩
    · have hl3 : p.data.toList.length - 1 ≤ (s.data.toList ++ List.replicate m (48 : UInt8)).length := by rw [hlp]; simp
      rw [sealR_3 hv (by rw [hlp]; exact hb), hlp]
      rw [restR_4 hv hb hl3] at hRO
      have hrl := remU_len p.data.toList (s.data.toList ++ List.replicate m (48 : UInt8)) (by omega)
      have hne : (remU p.data.toList (s.data.toList ++ List.replicate m (48 : UInt8))).length = m := by rw [hrl, hlp]; simp
      have happ2 := app_list s (remU p.data.toList (s.data.toList ++ List.replicate m (48 : UInt8)))
      rw [← happ2]
      generalize remU p.data.toList (s.data.toList ++ List.replicate m (48 : UInt8)) = R at *
      have hRs : (ByteArray.mk R.toArray).size ≤ 8 := by rw [mk_size]; omega
      have hRe : (ByteArray.mk R.toArray).toList.isEmpty = false := by
        rw [Lib.toList_data]; cases R
        · simp at hne; omega
        · rfl
      have hRe2 : ¬ (ByteArray.mk R.toArray).toList = [] := by
        intro e; rw [e] at hRe; simp at hRe
      generalize ByteArray.mk R.toArray = RB at *
      have HRO := Lib.hid hRO
      clear hRO hv hb hdt happ hlp hST hl3 hrl happ2 hne
      go_enter Tryz.func55, Tryz.ntmps55
      go_wp2_with (first | (go_at_call 71; refine (H1.out _).mono ?_; rintro e w1 ⟨rfl, hb1⟩) | (go_at_call 72; refine (HN.out _).mono ?_; rintro e w2 ⟨rfl, ho, hb2⟩; have hbk := own_back (cap := m) (k := m) (off := 0) (OwnB.of_own (by simp) ho) (by simp); rw [List.drop_zero] at hbk; clear ho; generalize ByteArray.mk (List.replicate m (48 : UInt8)).toArray = Z at *))
      refine (HRO.out _).mono ?_
      rintro e w3 ⟨rfl, hb3⟩
      go_wp2
      go_ret
      have hb12 := hb1.trans (hb2.mono hb1.size)
      exact ⟨rfl, hb12.trans (hb3.mono hb12.size)⟩

set_option maxHeartbeats 1600000 in
theorem iIS_any (p s : ByteArray) (w : World) (hp : p.size ≤ 1048576) (hs : s.size ≤ 1048600) :
    Calls Tryz.prog 58 #[.string p, .string s] w fun e w' => e = .returned (.bool (sealedB p.data.toList s.data.toList)) ∧ Below w.heap.size w w' := by
  have h1 := fun W => iVP_any p W (by unfold maxLen; omega)
  have h2 := fun W => iVB_any s W (by unfold maxLen; omega)
  cases hv : polyB p.data.toList
  · rw [sealedB_1 hv]
    rw [hv] at h1
    have H1 := Lib.hid h1
    clear h1 h2 hv
    go_enter Tryz.func58, Tryz.ntmps58
    go_wp2_with (go_at_call 71; refine (H1.out _).mono ?_; rintro e w1 ⟨rfl, hb1⟩)
    go_ret
    exact ⟨rfl, hb1⟩
  · rw [hv] at h1
    have H1 := Lib.hid h1
    clear h1
    cases hb : bitsB 40 s.data.toList
    · rw [sealedB_2 hb]
      rw [hb] at h2
      have H2 := Lib.hid h2
      clear h2 hv hb
      go_enter Tryz.func58, Tryz.ntmps58
      go_wp2_with (first | (go_at_call 71; refine (H1.out _).mono ?_; rintro e w1 ⟨rfl, hb1⟩) | (go_at_call 47; refine (H2.out _).mono ?_; rintro e w2 ⟨rfl, hb2⟩))
      go_ret
      exact ⟨rfl, hb1.trans (hb2.mono hb1.size)⟩
    · have hp29 := poly_len hv
      have hs40 := bits_len hb
      obtain ⟨Q, hQ, hq1, hq2, hq3⟩ := polyB_of hv
      have hpb : p.data.toList.all isBit = true := by rw [hQ]; exact txt_bits _
      have hsb : s.data.toList.all isBit = true := by
        have : s.size ≤ 40 ∧ s.data.toList.all isBit = true := by simpa [bitsB] using hb
        exact this.2
      rw [hb] at h2
      have H2 := Lib.hid h2
      clear h2 hQ hq1 hq2 hq3
      have hsl : s.data.toList.length = s.size := by simp
      by_cases hl : p.data.toList.length - 1 ≤ s.data.toList.length
      · rw [sealedB_4 hv hb hl]
        have hl' : p.size - 1 ≤ s.size := by simpa using hl
        have hD := fun W g cap hc ho => lvn_any p W g cap s.size s.data.toList hsl hp29.1 hp29.2 hpb hsb (by omega) hl' hc ho
        generalize wholeB p.data.toList s.data.toList = b at *
        have HD := Lib.hid hD
        clear hD hv hb hl hsl hpb hsb
        obtain ⟨q1, q2⟩ := hp29
        cases b
        all_goals
          go_enter Tryz.func58, Tryz.ntmps58
          go_wp2_with (first | (go_at_call 71; refine (H1.out _).mono ?_; rintro e w1 ⟨rfl, hb1⟩) | (go_at_call 47; refine (H2.out _).mono ?_; rintro e w2 ⟨rfl, hb2⟩; obtain ⟨c, w3, hcv, hc, ho, hb3, hz3⟩ := conv_any w2 s; have HO := Lib.hid ho; clear ho))
          refine (HD.out w3 w2.heap.size c hc HO.out).mono ?_
          rintro e w4 ⟨rfl, hg4⟩
          clear hcv
          go_wp2
          go_ret
          have hb12 := hb1.trans (hb2.mono hb1.size)
          have hb13 := hb12.trans (hb3.mono hb12.size)
          exact ⟨rfl, below_grow8 hb13 hg4 hb12.size hb13.size⟩
      · rw [sealedB_3 hl]
        have hl' : ¬ p.size - 1 ≤ s.size := by simpa using hl
        have HD := Lib.hid (fun W A cap => lvn_few p A s.size cap W (by omega) (by omega) (by omega))
        clear hv hb hl hl' hsl hpb hsb
        obtain ⟨q1, q2⟩ := hp29
        go_enter Tryz.func58, Tryz.ntmps58
        go_wp2_with (first | (go_at_call 71; refine (H1.out _).mono ?_; rintro e w1 ⟨rfl, hb1⟩) | (go_at_call 47; refine (H2.out _).mono ?_; rintro e w2 ⟨rfl, hb2⟩; obtain ⟨c, w3, hcv, hc, ho, hb3, hz3⟩ := conv_any w2 s; clear ho) | (go_at_call 74; refine (HD.out _ _ _).mono ?_; rintro e w' ⟨rfl, rfl⟩))
        go_ret
        exact ⟨rfl, (hb1.trans (hb2.mono hb1.size)).trans (hb3.mono (hb1.trans (hb2.mono hb1.size)).size)⟩
end Go.Proofs.YtndpbhmokobbpaaGreatDoor

namespace Go.Proofs.YtndpbhmokobbpaaGreatDoor
open Go.RowKit
set_option linter.unusedVariables false


theorem app_two (o : List UInt8) (s : ByteArray) (k : Nat) (h : k < s.size) : ({ data := o.toArray } : ByteArray) ++ s.extract k (k + 1) ++ { data := #[48] } = ⟨(o ++ [s[k]] ++ [48]).toArray⟩ := by
  rw [app_one o s k h, show (#[48] : Array UInt8) = [48].toArray from rfl, ByteArray.mk_append_mk]
theorem stp_five {o : List UInt8} {n : Nat} {c : UInt8} (h : c = 49) (hn : (((n : Int) + 1) == 5) = true) : stp (o, n) c = (o ++ [c] ++ [48], 0) := by
  have : n + 1 = 5 := by simp at hn; omega
  simp [stp, h, this]
theorem stp_one {o : List UInt8} {n : Nat} {c : UInt8} (h : c = 49) (hn : (((n : Int) + 1) == 5) = false) : stp (o, n) c = (o ++ [c], n + 1) := by
  have : ¬ n + 1 = 5 := by simp at hn; omega
  subst h
  simp [stp]; omega
theorem stp_zero {o : List UInt8} {n : Nat} {c : UInt8} (h : c ≠ 49) : stp (o, n) c = (o ++ [c], 0) := by
  simp [stp, h]

set_option maxHeartbeats 400000 in
theorem sst_any (s : ByteArray) (w : World) (hs : s.size ≤ 1048576) :
    Calls Tryz.prog 30 #[.string s] w fun e w' => e = .returned (.string ⟨(stf s.data.toList).1.toArray⟩) ∧ w = w' := by
  go_enter Tryz.func30, Tryz.ntmps30
  go_wp2
  go_loop [3, 4, 5] (fun o n i => ∃ k : Nat, k ≤ s.size ∧ i = .int .i64 k ∧ o = .string ⟨(stf (s.data.toList.take k)).1.toArray⟩ ∧ n = .int .i64 (stf (s.data.toList.take k)).2) (fun _ _ i => s.size - (intOf i).toNat)
  case atStart => exact ⟨0, Nat.zero_le _, rfl, rfl, rfl⟩
  case round =>
    obtain ⟨k, hk, rfl, rfl, rfl⟩ := hrel
    by_cases hlt : k < s.size
    · have hl := stf_len (s.data.toList.take k)
      have hl2 : (s.data.toList.take k).length ≤ k := List.length_take_le _ _
      have hn := stf_lt (s.data.toList.take k)
      have HS := Lib.hid (stf_snoc (s.data.toList.take k) s[k])
      have HT := Lib.hid (take_snoc s k hlt)
      generalize stf (s.data.toList.take k) = st at *
      obtain ⟨o, n⟩ := st
      have hlo : o.length ≤ 1258291 := by simp only [] at hl; omega
      have hsz : (ByteArray.mk o.toArray).size ≤ 1258291 := by rw [mk_size]; exact hlo
      simp only [] at hn
      clear hl hl2
      go_wp2
      · have e := stp_five (o := o) (n := n) (u8_49 (c := s[k]) (by assumption)) (by assumption)
        go_round
        case rel => exact ⟨k + 1, by omega, by go_num, by rw [HT.out, HS.out, e, app_two o s k hlt], by rw [HT.out, HS.out, e]; rfl⟩
        case measure => simp [intOf]; omega
      · have e := stp_one (o := o) (n := n) (u8_49 (c := s[k]) (by assumption)) (by assumption)
        go_round
        case rel => exact ⟨k + 1, by omega, by go_num, by rw [HT.out, HS.out, e, app_one o s k hlt], by rw [HT.out, HS.out, e]; go_num⟩
        case measure => simp [intOf]; omega
      · have e := stp_zero (o := o) (n := n) (u8_not49 (c := s[k]) (by assumption))
        go_round
        case rel => exact ⟨k + 1, by omega, by go_num, by rw [HT.out, HS.out, e, app_one o s k hlt], by rw [HT.out, HS.out, e]; rfl⟩
        case measure => simp [intOf]; omega
    · go_wp2
      go_ret
      exact ⟨ret_str (by rw [List.take_of_length_le (by simp; omega)]), rfl⟩

/-- What StuffBits gives. -/
def stuffS (l : List UInt8) : List UInt8 := if bitsB 40 l = true then (stf l).1 else []

/-- The cells of a new row of 48 bytes. -/
def blk48 : Array Value := Array.replicate 48 (.int .u8 0)
theorem blk48_size : blk48.size = 48 := by simp [blk48]
theorem mk48 (w : World) : (Instr.makeSlice 28 (.int .i64 0) (.int .i64 48)).run Tryz.prog w = .ok (.slice (some ⟨w.heap.size, 0, none⟩) 0 48) (w.alloc (.cells blk48 5)) := by kernel_rfl
attribute [irreducible] blk48


set_option maxHeartbeats 1600000 in
theorem iSB_yes (s : ByteArray) (w : World) (hv : bitsB 40 s.data.toList = true) :
    Calls Tryz.prog 48 #[.string s] w fun e w' => e = .returned (.string ⟨(stf s.data.toList).1.toArray⟩) ∧ Below w.heap.size w w' := by
  obtain ⟨hlen, hall⟩ : s.size ≤ 40 ∧ s.data.toList.all isBit = true := by simpa [bitsB] using hv
  have h1 := iVB_any s w (by unfold maxLen; omega)
  rw [hv] at h1
  have HALL := Lib.hid hall
  clear hv hall
  have H1 := Lib.hid h1
  clear h1
  obtain ⟨i0, hi, hz0, hz1, hz2⟩ := info_parts info5
  have HI := Lib.hid hi
  have HZ0 := Lib.hid hz0
  have HZ1 := Lib.hid hz1
  have HZ2 := Lib.hid hz2
  clear hi hz0 hz1 hz2
  have hmk := mk48
  go_enter Tryz.func48, Tryz.ntmps48
  go_wp2_with (go_at_call 47; refine H1.out.mono ?_; rintro e w1 ⟨rfl, hb1⟩)
  have hsz1 := hb1.size
  go_loopw [3, 4] (fun v n wr => ∃ k : Nat, k ≤ s.size ∧ n = .int .i64 (stf (s.data.toList.take k)).2 ∧ wr.heap[w1.heap.size + 1]? = some (.stringIter s k) ∧
      wr.ownsRow w.heap.size 5 1 v (stf (s.data.toList.take k)).1.length (cellsOf (stf (s.data.toList.take k)).1) ∧ Below w.heap.size w wr ∧ w.heap.size ≤ wr.heap.size)
    (fun _ _ wr => s.size - wr.iterPos (w1.heap.size + 1))
  case atStart =>
    refine ⟨0, Nat.zero_le _, rfl, ?_, ?_, (hb1.alloc hsz1 _).alloc (by simp; omega) _, ?_⟩
    · have := World.iter_heap (w1.alloc (.cells blk48 5)) s 0
      simpa using this
    · exact (World.ownsRow_made w1 blk48 48 hsz1 (by unfold maxLen; omega) (by rw [blk48_size])).alloc _
    · show w.heap.size ≤ ((w1.alloc (.cells blk48 5)).alloc (.stringIter s 0)).heap.size
      rw [World.size_alloc, World.size_alloc]; omega
  case round =>
    obtain ⟨k, hk, rfl, hit, hown, hbel, hsz⟩ := hrel
    by_cases hlt : k < s.size
    · have hbit := all_at k hlt HALL.out
      have hl := stf_len (s.data.toList.take k)
      have hl2 : (s.data.toList.take k).length ≤ k := List.length_take_le _ _
      have hn := stf_lt (s.data.toList.take k)
      have HS := Lib.hid (stf_snoc (s.data.toList.take k) s[k])
      have HT := Lib.hid (take_snoc s k hlt)
      have hnx0 := fun ty => Lib.run_next_ascii_at (P := Tryz.prog) wr (w1.heap.size + 1) s k ty hit hlt (by rcases isBit_cases hbit with e | e <;> rw [e] <;> decide)
      have hit2 := Lib.iterAt_heap wr (w1.heap.size + 1) s k (k + 1) hit
      have hown2 := own_iterAt hown hit (k + 1)
      have hbel2 := Lib.below_iterAt hbel (k := w1.heap.size + 1) (by omega) s (k + 1)
      have hsz2 : w.heap.size ≤ (wr.iterAt (w1.heap.size + 1) s (k + 1)).heap.size := by rw [Lib.iterAt_size]; exact hsz
      have hpos := iterPos_of hit
      clear hown hbel hsz hit
      generalize wr.iterAt (w1.heap.size + 1) s (k + 1) = W2 at *
      generalize stf (s.data.toList.take k) = st at *
      obtain ⟨o, n⟩ := st
      have hlo : o.length ≤ 48 := by simp only [] at hl; omega
      simp only [] at hn hown2
      clear hl hl2
      generalize s[k] = c at *
      rcases isBit_cases hbit with rfl | rfl
      · have hnx : ∀ ty, (Instr.next (.pointer (some ⟨w1.heap.size + 1, 0, none⟩)) true ty).run Tryz.prog wr = .ok (.tuple #[.bool true, .int .i64 k, .int .i32 48]) W2 := hnx0
        clear hnx0 hbit
        have HP := Lib.hid hpos
        clear hpos
        go_wp2_with (at_builtin; refine wpList_append_own _ rfl (.tmp 16) (.tmp 19) 28 rfl w.heap.size 5 i0 (.int .u8 0) 1 1 Tryz.underlying28 HI.out HZ0.out HZ1.out HZ2.out rfl (by decide) _ _ _ rfl (hown2.alloc _) ⟨W2.heap.size, 0, none⟩ 1 1 [.int .u8 48] rfl rfl (cell_one_new _ _ _) (one_cell _ rfl) (by unfold maxLen; omega) (by omega) (by simp; omega) ?_; intro v1 W3 hown3 hg3 hnil; clear hnil; have R := push_keep hit2 hown2 hg3 hbel2 hsz2)
        have e : stp (o, n) 48 = (o ++ [48], 0) := stp_zero (by decide)
        have ho := own_push_u8 48 rfl hown3
        go_roundw
        case rel => exact ⟨k + 1, by omega, by rw [HT.out, HS.out, e]; rfl, R.1, by rw [HT.out, HS.out, e]; exact ho, R.2.1, R.2.2⟩
        case measure => rw [iterPos_of R.1, HP.out]; omega
      · have hnx : ∀ ty, (Instr.next (.pointer (some ⟨w1.heap.size + 1, 0, none⟩)) true ty).run Tryz.prog wr = .ok (.tuple #[.bool true, .int .i64 k, .int .i32 49]) W2 := hnx0
        clear hnx0 hbit
        have HP := Lib.hid hpos
        clear hpos
        cases hn5 : (((n : Int) + 1) == 5)
        · go_wp2_with (at_builtin; refine wpList_append_own _ rfl (.tmp 16) (.tmp 19) 28 rfl w.heap.size 5 i0 (.int .u8 0) 1 1 Tryz.underlying28 HI.out HZ0.out HZ1.out HZ2.out rfl (by decide) _ _ _ rfl (hown2.alloc _) ⟨W2.heap.size, 0, none⟩ 1 1 [.int .u8 49] rfl rfl (cell_one_new _ _ _) (one_cell _ rfl) (by unfold maxLen; omega) (by omega) (by simp; omega) ?_; intro v1 W3 hown3 hg3 hnil; clear hnil; have R := push_keep hit2 hown2 hg3 hbel2 hsz2)
          have e : stp (o, n) 49 = (o ++ [49], n + 1) := stp_one rfl hn5
          have ho := own_push_u8 49 rfl hown3
          go_roundw
          case rel => exact ⟨k + 1, by omega, by rw [HT.out, HS.out, e]; go_num, R.1, by rw [HT.out, HS.out, e]; exact ho, R.2.1, R.2.2⟩
          case measure => rw [iterPos_of R.1, HP.out]; omega
        · go_wp2_with (first | (at_builtin; refine wpList_append_own _ rfl (.tmp 16) (.tmp 19) 28 rfl w.heap.size 5 i0 (.int .u8 0) 1 1 Tryz.underlying28 HI.out HZ0.out HZ1.out HZ2.out rfl (by decide) _ _ _ rfl (hown2.alloc _) ⟨W2.heap.size, 0, none⟩ 1 1 [.int .u8 49] rfl rfl (cell_one_new _ _ _) (one_cell _ rfl) (by unfold maxLen; omega) (by omega) (by simp; omega) ?_; intro v1 W3 hown3 hg3 hnil; clear hnil; have R := push_keep hit2 hown2 hg3 hbel2 hsz2) | (at_builtin; refine wpList_append_own _ rfl (.tmp 27) (.tmp 28) 28 rfl w.heap.size 5 i0 (.int .u8 0) 1 1 Tryz.underlying28 HI.out HZ0.out HZ1.out HZ2.out rfl (by decide) _ _ _ rfl (hown3.alloc _) ⟨W3.heap.size, 0, none⟩ 1 1 [.int .u8 48] rfl rfl (cell_one_new _ _ _) (one_cell _ rfl) (by unfold maxLen; omega) (by omega) (by simp; omega) ?_; intro v2 W4 hown4 hg4 hnil; clear hnil; have R4 := push_keep R.1 hown3 hg4 R.2.1 R.2.2))
          have e : stp (o, n) 49 = (o ++ [49] ++ [48], 0) := stp_five rfl hn5
          have ho := own_push_u8 49 rfl hown3
          have ho4 : W4.ownsRow w.heap.size 5 1 v2 (o ++ [49] ++ [48]).length (cellsOf (o ++ [49] ++ [48])) := own_push_u8 48 rfl (by rw [cellsOf_snoc]; simpa using hown4)
          go_roundw
          case rel => exact ⟨k + 1, by omega, by rw [HT.out, HS.out, e]; rfl, R4.1, by rw [HT.out, HS.out, e]; exact ho4, R4.2.1, R4.2.2⟩
          case measure => rw [iterPos_of R4.1, HP.out]; omega
    · have hnx : ∀ ty, (Instr.next (.pointer (some ⟨w1.heap.size + 1, 0, none⟩)) true ty).run Tryz.prog wr = _ := fun ty => Lib.run_next_end_at wr (w1.heap.size + 1) s k ty hit hlt
      have e : s.data.toList.take k = s.data.toList := List.take_of_length_le (by simp; omega)
      rw [e] at hown
      have hcv := own_text (P := Tryz.prog) (src := 28) (dst := 9) Tryz.underlying28 Tryz.underlying5 Tryz.underlying9 hown
      clear e
      go_wp2
      go_ret
      exact ⟨rfl, hbel⟩

set_option maxHeartbeats 400000 in
theorem iSB_no (s : ByteArray) (w : World) (hs : s.size ≤ 1048576) (hv : bitsB 40 s.data.toList = false) :
    Calls Tryz.prog 48 #[.string s] w fun e w' => e = .returned (.string ⟨(([] : List UInt8)).toArray⟩) ∧ Below w.heap.size w w' := by
  have h1 := iVB_any s w (by unfold maxLen; omega)
  rw [hv] at h1
  clear hv
  have H1 := Lib.hid h1
  clear h1
  go_enter Tryz.func48, Tryz.ntmps48
  go_wp2_with (go_at_call 47; refine H1.out.mono ?_; rintro e w1 ⟨rfl, hb1⟩)
  go_ret
  exact ⟨rfl, hb1⟩

theorem iSB_any (s : ByteArray) (w : World) (hs : s.size ≤ 1048576) :
    Calls Tryz.prog 48 #[.string s] w fun e w' => e = .returned (.string ⟨(stuffS s.data.toList).toArray⟩) ∧ Below w.heap.size w w' := by
  unfold stuffS
  by_cases hv : bitsB 40 s.data.toList = true
  · rw [if_pos hv]; exact iSB_yes s w hv
  · rw [if_neg hv]; exact iSB_no s w hs (by simpa using hv)
end Go.Proofs.YtndpbhmokobbpaaGreatDoor
