/-
  The walks of the model's functions that divide. Conditions: the lengths that are typed.
  The walks of the program's functions on rests and seals. Conditions: the lengths that are typed.
-/
import Derived.Test.YtndpbhmokobbpaaGreatDoorDm20
import Derived.Lib.Strings
import Derived.IntWalk
import Derived.Test.YtndpbhmokobbpaaGreatDoorDm21
namespace Go.Proofs.YtndpbhmokobbpaaGreatDoor
open Go.RowKit
set_option linter.unusedVariables false

theorem app_c (l : List UInt8) (c : UInt8) : ({ data := l.toArray } : ByteArray) ++ { data := #[c] } = ⟨(l ++ [c]).toArray⟩ := by
  rw [show (#[c] : Array UInt8) = [c].toArray from rfl, ByteArray.mk_append_mk]
theorem xrl_snoc (a b : ByteArray) (k : Nat) (h : k < a.size) (h2 : k < b.size) : xrl (a.data.toList.take (k + 1)) (b.data.toList.take (k + 1)) = xrl (a.data.toList.take k) (b.data.toList.take k) ++ [if a[k] = b[k] then 48 else 49] := by
  rw [take_snoc a k h, take_snoc b k h2]
  unfold xrl
  rw [List.zipWith_append (by simp; have : a.data.size = a.size := rfl; have : b.data.size = b.size := rfl; omega)]
  rfl

set_option maxHeartbeats 800000 in
theorem dif_any (a b : ByteArray) (w : World) (h : a.size ≤ b.size) (hs : a.size ≤ 4096) :
    Calls Tryz.prog 44 #[.string a, .string b] w fun e w' => e = .returned (.string ⟨(xrl a.data.toList b.data.toList).toArray⟩) ∧ ∃ m, w' = w.drewN m := by
  go_enter Tryz.func44, Tryz.ntmps44
  go_wp2
  go_loopw [5, 6] (fun o i wr => ∃ k m : Nat, k ≤ a.size ∧ i = .int .i64 k ∧ o = .string ⟨(xrl (a.data.toList.take k) (b.data.toList.take k)).toArray⟩ ∧ wr = w.drewN m) (fun _ i _ => a.size - (intOf i).toNat)
  case atStart => exact ⟨0, 0, Nat.zero_le _, rfl, rfl, rfl⟩
  case round =>
    obtain ⟨k, m, hk, rfl, rfl, rfl⟩ := hrel
    by_cases hlt : k < a.size
    · have hlb : k < b.size := by omega
      have HS := Lib.hid (xrl_snoc a b k hlt hlb)
      have hl : (xrl (a.data.toList.take k) (b.data.toList.take k)).length ≤ 4096 := by
        simp [xrl]; have : a.data.size = a.size := rfl; omega
      generalize xrl (a.data.toList.take k) (b.data.toList.take k) = L at *
      have hsz : (ByteArray.mk L.toArray).size ≤ 4096 := by rw [mk_size]; exact hl
      by_cases he : a[k] = b[k]
      · have hq : (((a[k].toNat : Int)) == (b[k].toNat : Int)) = true := by simp [he]
        have HE := Lib.hid he
        clear he
        go_wp2
        go_quiet (fail)
        go_wp2
        go_roundw
        case rel => exact ⟨k + 1, m + nq, by omega, by go_num, by rw [HS.out, if_pos HE.out, app_c], rfl⟩
        case measure => simp [intOf]; omega
      · have hq : (((a[k].toNat : Int)) == (b[k].toNat : Int)) = false := by
          rw [beq_eq_false_iff_ne]; intro e; exact he (by rw [← UInt8.toNat_inj]; omega)
        have HE := Lib.hid he
        clear he
        go_wp2
        go_quiet (fail)
        go_wp2
        go_roundw
        case rel => exact ⟨k + 1, m + nq, by omega, by go_num, by rw [HS.out, if_neg HE.out, app_c], rfl⟩
        case measure => simp [intOf]; omega
    · go_wp2
      go_ret
      refine ⟨ret_str ?_, m, rfl⟩
      obtain rfl : k = a.size := by omega
      have e1 : a.data.toList.take a.size = a.data.toList := List.take_of_length_le (by simp)
      rw [e1]
      congr 2
      unfold xrl
      have hla : a.data.toList.length = a.size := by simp
      have : List.zipWith xr a.data.toList b.data.toList = List.zipWith xr (a.data.toList.take a.size) (b.data.toList.take a.size) := by
        rw [← List.take_zipWith]
        rw [List.take_of_length_le (by simp; have : a.data.size = a.size := rfl; omega)]
      rw [this, e1]

set_option maxHeartbeats 400000 in
theorem sze_any (x : Int) (w : World) (h0 : 0 ≤ x) (h1 : x ≤ 1000) :
    Calls Tryz.prog 41 #[.int .i64 x] w fun e w' => e = .returned (.string ⟨(List.replicate x.toNat 48).toArray⟩) ∧ w = w' := by
  obtain ⟨n, rfl⟩ : ∃ n : Nat, x = n := ⟨x.toNat, by omega⟩
  go_enter Tryz.func41, Tryz.ntmps41
  go_wp2
  go_loop [0, 3] (fun i o => ∃ k : Nat, k ≤ n ∧ i = .int .i64 ((n - k : Nat) : Int) ∧ o = .string ⟨(List.replicate k (48 : UInt8)).toArray⟩) (fun i _ => (intOf i).toNat)
  case atStart => exact ⟨0, Nat.zero_le _, rfl, rfl⟩
  case round =>
    obtain ⟨k, hk, rfl, rfl⟩ := hrel
    have hsz : (ByteArray.mk (List.replicate k (48 : UInt8)).toArray).size ≤ 1000 := by rw [mk_size]; simp; omega
    by_cases hlt : k < n
    · obtain ⟨j, hj⟩ : ∃ j, n - k = j + 1 := ⟨n - k - 1, by omega⟩
      have hg : (0 : Int) < ((j + 1 : Nat) : Int) := by omega
      have hj2 : j ≤ 1000 := by omega
      rw [hj]
      have HJ := Lib.hid hj
      clear hj
      go_wp2
      go_round
      case rel => exact ⟨k + 1, by omega, by have := HJ.out; rw [show n - (k + 1) = j from by omega], by rw [app_c]; simp [List.replicate_succ']⟩
      case measure => have := HJ.out; simp [intOf]; try omega
    · obtain rfl : k = n := by omega
      rw [Nat.sub_self]
      go_wp2
      go_ret
      exact ⟨ret_str (by simp), rfl⟩

set_option maxHeartbeats 400000 in
theorem son_any (s : ByteArray) (w : World) (hs : s.size ≤ 1048576) :
    Calls Tryz.prog 43 #[.string s] w fun e w' => e = .returned (.int .i64 ((s.data.toList.countP (· == 49) : Nat) : Int)) ∧ w = w' := by
  go_enter Tryz.func43, Tryz.ntmps43
  go_wp2
  go_loop [3, 4] (fun n i => ∃ k : Nat, k ≤ s.size ∧ i = .int .i64 k ∧ n = .int .i64 (((s.data.toList.take k).countP (· == 49) : Nat) : Int)) (fun _ i => s.size - (intOf i).toNat)
  case atStart => exact ⟨0, Nat.zero_le _, rfl, rfl⟩
  case round =>
    obtain ⟨k, hk, rfl, rfl⟩ := hrel
    by_cases hlt : k < s.size
    · have hc : (s.data.toList.take k).countP (· == 49) ≤ k := Nat.le_trans List.countP_le_length (List.length_take_le _ _)
      have HS : Hid ((s.data.toList.take (k + 1)).countP (· == 49) = (s.data.toList.take k).countP (· == 49) + if (s[k] == 49) = true then 1 else 0) := by
        show _ = _
        rw [take_snoc s k hlt, List.countP_append, List.countP_singleton]
      have hb := beq49 s[k]
      generalize (s.data.toList.take k).countP (· == 49) = q at *
      cases hd : (s[k] == 49)
      · rw [hd] at HS hb
        have hb' := hb.symm
        clear hb hd
        go_wp2
        go_round
        case rel => exact ⟨k + 1, by omega, by go_num, by rw [HS.out]; rfl⟩
        case measure => simp [intOf]; omega
      · rw [hd] at HS hb
        have hb' := hb.symm
        clear hb hd
        go_wp2
        go_round
        case rel => exact ⟨k + 1, by omega, by go_num, by rw [HS.out]; rfl⟩
        case measure => simp [intOf]; omega
    · go_wp2
      go_ret
      refine ⟨ret_int ?_, rfl⟩
      rw [List.take_of_length_le (by simp; omega)]; simp

theorem extract_all (T : ByteArray) : T.extract 0 T.size = T := by
  rw [Lib.extract_eq, List.drop_zero, List.take_of_length_le (by simp), Lib.mk_data]
theorem mix_eq (p T : ByteArray) (i m : Nat) (hp : p.size = m + 1) (hT : i + m + 1 ≤ T.size) :
    T.extract 0 i ++ ByteArray.mk (xrl (T.extract i (i + m + 1)).data.toList p.data.toList).toArray ++ T.extract (i + m + 1) T.size = ByteArray.mk (mixU p.data.toList T.data.toList i).toArray := by
  have hlp : p.data.toList.length = m + 1 := by simpa using hp
  have hlT : T.data.toList.length = T.size := by simp
  rw [Lib.extract_eq T 0 i, Lib.extract_eq T (i + m + 1) T.size, Lib.extract_data, ByteArray.mk_append_mk, ByteArray.mk_append_mk]
  unfold mixU
  congr 2
  rw [hlp, List.drop_zero, Nat.sub_zero, show i + m + 1 - i = m + 1 from by omega, List.take_of_length_le (l := T.data.toList.drop (i + m + 1)) (by simp)]
  rfl

set_option maxHeartbeats 1600000 in
theorem rem_any (p s : ByteArray) (w : World) (hp1 : 1 ≤ p.size) (hp : p.size ≤ 1000) (hs : s.size ≤ 2000) :
    Calls Tryz.prog 42 #[.string p, .string s] w fun e w' => e = .returned (.string ⟨(remU p.data.toList s.data.toList).toArray⟩) ∧ ∃ m, w' = w.drewN m := by
  obtain ⟨m, hpm⟩ : ∃ m, p.size = m + 1 := ⟨p.size - 1, by omega⟩
  have hlp : p.data.toList.length = m + 1 := by simpa using hpm
  have hls : s.data.toList.length = s.size := by simp
  have hm : m ≤ 1000 := by omega
  have HLP := Lib.hid hlp
  have HLS := Lib.hid hls
  have HPM := Lib.hid hpm
  clear hlp hls
  go_enter Tryz.func42, Tryz.ntmps42
  go_wp2
  go_loopw [1, 6] (fun t i wr => ∃ (T : ByteArray) (k j : Nat), k ≤ s.size - m ∧ i = .int .i64 k ∧ t = .string T ∧ T.data.toList = redU p.data.toList s.data.toList k ∧ wr = w.drewN j) (fun _ i _ => s.size - m - (intOf i).toNat)
  case atStart => exact ⟨s, 0, 0, Nat.zero_le _, rfl, rfl, rfl, rfl⟩
  case round =>
    obtain ⟨T, k, j, hk, rfl, rfl, hT, rfl⟩ := hrel
    have hTl : T.size = s.size := by
      have := redU_len p.data.toList s.data.toList (by rw [HLP.out]; omega) k (by rw [HLP.out, HLS.out]; omega)
      rw [← hT, HLS.out] at this
      simpa using this
    have HT := Lib.hid hT
    have HTL := Lib.hid hTl
    have hTs : T.size ≤ 2000 := by omega
    clear hT
    by_cases hlt : k + m < s.size
    · have hlt2 : k + m < T.size := by omega
      have hkT : k < T.size := by omega
      have hg : ((k : Int) + (m : Int)) < (T.size : Int) := by omega
      clear hTl
      have HB := Lib.hid (beq49 T[k])
      have HG : Hid (T.data.toList.getD k 0 = T[k]) := poly_last T k hkT
      cases hc : (T[k] == 49)
      · have hb := HB.out
        rw [hc] at hb
        have hb' := hb.symm
        clear hb
        have hne : ¬ T[k] = 49 := by simpa using hc
        clear hc
        have HN := Lib.hid hne
        clear hne
        go_wp2
        go_roundw
        case rel => exact ⟨T, k + 1, j, by omega, by go_num, rfl, by unfold redU; rw [← HT.out, HG.out, if_neg HN.out], rfl⟩
        case measure => simp [intOf]; omega
      · have hb := HB.out
        rw [hc] at hb
        have hb' := hb.symm
        clear hb
        have hne : T[k] = 49 := by simpa using hc
        clear hc
        have HN := Lib.hid hne
        clear hne
        have hmx := mix_eq p T k m HPM.out (by omega)
        have HM := Lib.hid hmx
        clear hmx
        have hd := fun W => dif_any (T.extract k (k + m + 1)) p W (by rw [ByteArray.size_extract, HPM.out]; omega) (by rw [ByteArray.size_extract]; omega)
        have hds : (ByteArray.mk (xrl (T.extract k (k + m + 1)).data.toList p.data.toList).toArray).size ≤ 1001 := by
          rw [mk_size]
          have := HPM.out
          simp [xrl]; have : p.data.size = p.size := rfl; omega
        generalize ByteArray.mk (xrl (T.extract k (k + m + 1)).data.toList p.data.toList).toArray = D at *
        have HD := Lib.hid hd
        clear hd
        have q1 : IntKind.i64.wrap ((k : Int) + (m : Int)) = (k : Int) + (m : Int) := IntWalk.i64_in _ (by omega)
        have q2 : IntKind.i64.wrap ((k : Int) + (m : Int) + 1) = (k : Int) + (m : Int) + 1 := IntWalk.i64_in _ (by omega)
        have q3 : ((k : Int) + (m : Int) + 1).toNat = k + m + 1 := by omega
        have q4 : (0 : Int) ≤ (k : Int) + (m : Int) + 1 := by omega
        have q5 : k + m + 1 ≤ T.size := by omega
        have q6 : k ≤ k + m + 1 := by omega
        have q7 : k ≤ T.size := by omega
        have q8 : (k : Int) + (m : Int) + 1 ≤ (T.size : Int) := by omega
        have q9 : (k : Int) ≤ (k : Int) + (m : Int) + 1 := by omega
        generalize hwj : w.drewN j = wj
        have HWJ := Lib.hid hwj
        clear hwj
        go_wp2
        go_quiet ((go_at_call 44; exact Calls.quiet_of (HD.out _)))
        go_wp2
        go_roundw
        case rel => exact ⟨_, k + 1, j + nq, by omega, by go_num, rfl, by rw [HM.out]; unfold redU; rw [← HT.out, HG.out, if_pos HN.out], by rw [← HWJ.out, World.drewN_drewN]⟩
        case measure => simp [intOf]; omega
    · obtain rfl : k = s.size - m := by omega
      have hfin : ∀ n b, n = s.size - m → b = T.size → T.extract n b = ByteArray.mk (remU p.data.toList s.data.toList).toArray := by
        rintro n b rfl rfl
        rw [Lib.extract_eq]
        unfold remU
        rw [HLS.out, HLP.out, Nat.add_sub_cancel, ← HT.out, List.take_of_length_le (by simp)]
      have HF := Lib.hid hfin
      clear hfin
      rcases Nat.lt_or_ge m s.size with hms | hms
      · have hq : ((T.size : Int) - (m : Int)) = ((s.size - m : Nat) : Int) := by omega
        have hq2 : (0 : Int) ≤ (T.size : Int) - (m : Int) := by omega
        have hq3 : s.size - m ≤ T.size := by omega
        have hq4 : ((T.size : Int) - (m : Int)).toNat = s.size - m := by omega
        have hq5 : (m : Int) < (T.size : Int) := by omega
        have hq6 : (0 : Int) < (T.size : Int) - (m : Int) := by omega
        go_wp2
        all_goals
          go_ret
          refine ⟨ret_str ?_, j, rfl⟩
          first | exact HF.out _ _ (by omega) (by omega) | exact HF.out _ _ (by split <;> omega) (by omega)
      · have hz : s.size - m = 0 := by omega
        rw [hz]
        have hq5 : (T.size : Int) ≤ (m : Int) := by omega
        go_wp2
        all_goals
          go_ret
          refine ⟨ret_str ?_, j, rfl⟩
          first | exact HF.out _ _ (by omega) (by omega) | exact HF.out _ _ (by split <;> omega) (by omega)
end Go.Proofs.YtndpbhmokobbpaaGreatDoor

namespace Go.Proofs.YtndpbhmokobbpaaGreatDoor
open Go.RowKit
set_option linter.unusedVariables false

/-- A text made bytes. -/
theorem conv_any (w : World) (s : ByteArray) : ∃ c w1, (convert 9 28 (.string s)).run Tryz.prog w = .ok (.slice (some ⟨w.heap.size, 0, none⟩) s.size c) w1 ∧ s.size ≤ c ∧ OwnB w1 w.heap.size s.data.toList ∧ Below w.heap.size w w1 ∧ w.heap.size < w1.heap.size := by
  refine ⟨_, _, run_bytes_of_string (P := Tryz.prog) w 9 28 5 s Tryz.underlying9 Tryz.underlying28 Tryz.underlying5, grownCap_ge _ _ _ _, ?_, ?_, ?_⟩
  · have hg : ∀ (C : Array Value) (t : TypeId) (fr : Nat × Nat), (w.drew.alloc (.cells C t fr)).heap[w.heap.size]? = some (.cells C t fr) := fun C t fr => by
      show (w.heap.push _)[w.heap.size]? = _
      simp
    have hl : s.data.toList.length = s.data.size := by simp
    have hsz : (bytesRow s (grownCap w s.size 0 5)).size ≥ s.data.size := by simp [bytesRow]
    refine ⟨by simp, fun s' p h => ?_, fun j hj => ?_, fun j hj => ?_⟩
    · rw [hg] at h; cases h
    · have h1 := World.cell?_alloc_mark w.drew (bytesRow s (grownCap w s.size 0 5)) 5 ((bytesRow s (grownCap w s.size 0 5)).size, (bytesRow s (grownCap w s.size 0 5)).size + 1) j
      have h2 := bytesRow_at s (grownCap w s.size 0 5) j (by omega)
      have h3 := h1.trans h2
      have h4 : s.data.toList.getD j 0 = s.data[j]'(by omega) := by
        rw [List.getD_eq_getElem?_getD, List.getElem?_eq_getElem hj]; rfl
      rw [h4]; exact h3
    · have h1 := World.frozen?_alloc_mark w.drew (bytesRow s (grownCap w s.size 0 5)) 5 (bytesRow s (grownCap w s.size 0 5)).size ((bytesRow s (grownCap w s.size 0 5)).size + 1) j
      refine Eq.trans h1 ?_
      rw [decide_eq_false (by omega)]; rfl
  · exact (Below.refl w.heap.size w).drew.alloc (Nat.le_refl _) _
  · simp

/-- Bytes made a text. -/
theorem own_back {w : World} {g off k cap : Nat} {L : List UInt8} (h : OwnB w g L) (hk : off + k = L.length) : (convert 28 9 (.slice (some ⟨g, off, none⟩) k cap)).run Tryz.prog w = .ok (.string ⟨(L.drop off).toArray⟩) w := by
  have e : (L.drop off).length = k := by simp; omega
  have := run_convert_bytes_back (P := Tryz.prog) w 28 9 5 ⟨g, off, none⟩ cap (L.drop off) Tryz.underlying28 Tryz.underlying5 Tryz.underlying9 (fun j hj => by
    have e2 : (⟨g, off, none⟩ : Addr).add j = ⟨g, off + j, none⟩ := by unfold Addr.add; split <;> simp_all
    rw [e2, h.cellAt (off + j) (by omega)]
    simp [List.getD_eq_getElem?_getD, List.getElem?_eq_getElem (by omega : off + j < L.length)])
  rw [e] at this
  exact this

/-- The cells at an address are the bytes l. -/
def At8 (w : World) (g off : Nat) (l : List UInt8) : Prop := ∀ j, j < l.length → w.cell? ⟨g, off + j, none⟩ = some (.int .u8 ((l.getD j 0).toNat : Int))
theorem OwnB.at_drop {w : World} {g : Nat} {L : List UInt8} (h : OwnB w g L) (off : Nat) : At8 w g off (L.drop off) := by
  intro j hj
  have : off + j < L.length := by simp at hj; omega
  rw [h.cellAt _ this]
  simp [List.getD_eq_getElem?_getD]

theorem any_bad (l : List UInt8) (k : Nat) (h : k < l.length) (hb : l.getD k 0 = 49) : l.any (· == 49) = true := by
  rw [List.any_eq_true]
  refine ⟨l.getD k 0, ?_, by rw [hb]; rfl⟩
  rw [List.getD_eq_getElem?_getD, List.getElem?_eq_getElem h]; exact List.getElem_mem h
theorem any_snoc (l : List UInt8) (k : Nat) (h : k < l.length) (ha : (l.take k).any (· == 49) = false) (hb : l.getD k 0 ≠ 49) : (l.take (k + 1)).any (· == 49) = false := by
  have e : l.take (k + 1) = l.take k ++ [l.getD k 0] := by
    rw [List.take_add_one, List.getElem?_eq_getElem h]
    simp [List.getD_eq_getElem?_getD, List.getElem?_eq_getElem h]
  rw [e, List.any_append, ha, List.any_cons, List.any_nil, beq_eq_false_iff_ne.2 hb]; rfl

set_option maxHeartbeats 800000 in
theorem idx_any (w : World) (g off cap n : Nat) (l : List UInt8) (hl : l.length = n) (hn1 : 1 ≤ n) (hn : n ≤ 2000) (h : At8 w g off l) :
    Calls Tryz.prog 101 #[.slice (some ⟨g, off, none⟩) n cap, .int .u8 49] w fun e w' => (∃ x : Int, e = .returned (.int .i64 x) ∧ decide (0 ≤ x) = l.any (· == 49) ∧ -1 ≤ x ∧ x ≤ 2000) ∧ w' = w := by
  have HL := Lib.hid hl
  have HC := Lib.hid h
  clear hl h
  go_enter Tryz.func101, Tryz.ntmps101
  go_wp2
  go_loop [8] (fun i => ∃ k : Nat, k ≤ n ∧ i = .int .i64 k ∧ (l.take k).any (· == 49) = false) (fun i => n - (intOf i).toNat)
  case atStart => exact ⟨0, Nat.zero_le _, rfl, by simp⟩
  case round =>
    obtain ⟨k, hk, rfl, hall⟩ := hrel
    have HA := Lib.hid hall
    clear hall
    by_cases hlt : k < n
    · have hkl : k < l.length := by have := HL.out; omega
      have hc := HC.out k hkl
      by_cases hb : l.getD k 0 = 49
      · have HX := Lib.hid (any_bad l k hkl hb)
        rw [hb] at hc
        have hc' : w.cell? ⟨g, off + k, none⟩ = some (.int .u8 49) := hc
        clear hc hb hkl
        go_wp2
        go_ret
        exact ⟨⟨_, rfl, by rw [HX.out]; simp, by omega, by omega⟩, rfl⟩
      · have HX := Lib.hid (any_snoc l k hkl HA.out hb)
        have hq : ((49 : Int) == ((l.getD k 0).toNat : Int)) = false := by
          rw [beq_eq_false_iff_ne]; intro e; exact hb (by rw [← UInt8.toNat_inj]; show _ = 49; omega)
        have hq2 : ¬ (49 : Int) = ((l.getD k 0).toNat : Int) := by
          intro e; exact hb (by rw [← UInt8.toNat_inj]; show _ = 49; omega)
        generalize l.getD k 0 = y at *
        clear hb hkl
        go_wp2
        go_round
        case rel => exact ⟨k + 1, by omega, by go_num, HX.out⟩
        case measure => simp [intOf]; omega
    · have e : l.take k = l := List.take_of_length_le (by have := HL.out; omega)
      rw [e] at HA
      go_wp2
      go_ret
      exact ⟨⟨_, rfl, by rw [HA.out]; rfl, by omega, by omega⟩, rfl⟩
set_option maxHeartbeats 400000 in
theorem con_any (w : World) (g off cap n : Nat) (l : List UInt8) (hl : l.length = n) (hn1 : 1 ≤ n) (hn : n ≤ 2000) (h : At8 w g off l) :
    Calls Tryz.prog 86 #[.slice (some ⟨g, off, none⟩) n cap, .int .u8 49] w fun e w' => e = .returned (.bool (l.any (· == 49))) ∧ w = w' := by
  have h1 := idx_any w g off cap n l hl hn1 hn h
  generalize l.any (· == 49) = b at *
  have H := Lib.hid h1
  clear h1 h
  go_enter Tryz.func86, Tryz.ntmps86
  go_wp2_with fail
  refine H.out.mono ?_
  rintro e w1 ⟨⟨x, rfl, hx, h1, h2⟩, rfl⟩
  subst hx
  go_wp2
  go_ret
  exact ⟨rfl, rfl⟩

set_option maxHeartbeats 800000 in
theorem lvn_any (p : ByteArray) (w : World) (g cap n : Nat) (l : List UInt8) (hl : l.length = n) (hp1 : 2 ≤ p.size) (hp : p.size ≤ 9) (hpb : p.data.toList.all isBit = true) (hlb : l.all isBit = true) (hn : n ≤ 2000) (hge : p.size - 1 ≤ n) (hcap : n ≤ cap) (h : OwnB w g l) :
    Calls Tryz.prog 74 #[.string p, .slice (some ⟨g, 0, none⟩) n cap] w fun e w' => e = .returned (.bool (wholeB p.data.toList l)) ∧ w.grownBy w' (some g) := by
  have h1 := div_any p w g cap n l hl hp1 hp hpb hlb hn hge hcap h
  have hlp : p.data.toList.length = p.size := by simp
  have hrl := remU_len p.data.toList l (by omega)
  have hr : remU p.data.toList l = (redU p.data.toList l (n - (p.size - 1))).drop (n - (p.size - 1)) := by unfold remU; rw [hl, hlp]
  rw [show wholeB p.data.toList l = !((remU p.data.toList l).any (· == 49)) from rfl]
  rw [hlp, hl] at hrl
  have hrl2 : (remU p.data.toList l).length = p.size - 1 := by rw [hrl]; omega
  have HR := Lib.hid hr
  have HRL := Lib.hid hrl2
  have H1 := Lib.hid h1
  have HCON := Lib.hid (fun W => con_any W g (n - (p.size - 1)) (cap - (n - (p.size - 1))) (p.size - 1) _ hrl2 (by omega) (by omega))
  generalize hb : (remU p.data.toList l).any (· == 49) = b at *
  clear h1 h hr hrl hrl2 hl hlp hpb hlb hb
  go_enter Tryz.func74, Tryz.ntmps74
  go_wp2_with fail
  refine H1.out.mono ?_
  rintro e w1 ⟨rfl, ho, hg⟩
  have hat := ho.at_drop (n - (p.size - 1))
  rw [← HR.out] at hat
  have hc := HCON.out w1 hat
  have HG := Lib.hid hg
  have HC := Lib.hid hc
  clear hat hc ho hg
  cases b
  all_goals
    go_wp2_with (go_at_call 86; refine HC.out.mono ?_; rintro e w' ⟨rfl, rfl⟩)
    go_ret
    exact ⟨rfl, HG.out⟩
set_option maxHeartbeats 400000 in
theorem lvn_few (p : ByteArray) (A : Option Addr) (n cap : Nat) (w : World) (hp : p.size ≤ 1000) (hn : n ≤ 2000) (h : n + 1 < p.size) :
    Calls Tryz.prog 74 #[.string p, .slice A n cap] w fun e w' => e = .returned (.bool false) ∧ w = w' := by
  have H := Lib.hid (div_few p A n cap w hp hn h)
  go_enter Tryz.func74, Tryz.ntmps74
  go_wp2_with (go_at_call 73; refine H.out.mono ?_; rintro e w' ⟨rfl, rfl⟩)
  go_ret
  exact ⟨rfl, rfl⟩
end Go.Proofs.YtndpbhmokobbpaaGreatDoor
