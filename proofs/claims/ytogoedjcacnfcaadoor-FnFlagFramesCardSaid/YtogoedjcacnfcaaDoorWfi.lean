/-
  The walk of the program's FindFrames. Conditions: the text is one that can be, and a variable of the library's own holds a number.
-/
import Derived.Test.YtogoedjcacnfcaaDoorWff
namespace Go.Proofs.YtogoedjcacnfcaaDoor
open Go.RowKit
set_option linter.unusedVariables false

theorem ne_yes {x : ByteArray} (h : neB x = true) : x.toList.isEmpty = false := by
  obtain ⟨⟨l⟩⟩ := x
  cases l with
  | nil => simp [neB, ByteArray.size] at h
  | cons b t => rw [ByteArray.toList_eq]; rfl
theorem ne_no {x : ByteArray} (h : neB x = false) : x.toList.isEmpty = true := by
  obtain ⟨⟨l⟩⟩ := x
  cases l with
  | nil => rw [ByteArray.toList_eq]; rfl
  | cons b t => simp [neB, ByteArray.size] at h
theorem ownT_base {w : World} {B B' : Nat} {v : Value} {xs : List ByteArray} (h : OwnT w B v xs) (hB : B' ≤ B) : OwnT w B' v xs := by
  obtain ⟨h1, h2⟩ := h
  refine ⟨h1, ?_⟩
  rcases h2 with h2 | ⟨g, cap, cur, a, b, c, d⟩
  · exact .inl h2
  · exact .inr ⟨g, cap, cur, a, Nat.le_trans hB b, c, d⟩
theorem strAt (w : World) (xs : List ByteArray) (t : TypeId) : AtS (w.alloc (.cells (strv xs).toArray t)) w.heap.size 0 xs := by
  refine ⟨by simp, fun j hj => ?_⟩
  rw [Nat.zero_add, cell_of_row _ w.heap.size j _ t (0, 0) (heap_alloc_new w _)]
  simpa using strv_get xs j hj
theorem uns_call (x : ByteArray) (w : World) (hs : x.size ≤ maxLen) :
    Calls Tryd.prog 21 #[.string x] w fun e w' => e = .returned (.tuple #[.string (uL x.data.toList), .bool (unsR x.data.toList).isSome]) ∧ Below w.heap.size w w' := iUB_any x w hs

set_option maxHeartbeats 3200000 in
theorem iFN_any (s : ByteArray) (w : World) (hs : s.size ≤ maxLen) (hm : Lax w) :
    Calls Tryd.prog 7 #[.string s] w fun e w' => ∃ u, e = .returned u ∧ OwnT w' w.heap.size u (FF s) ∧ Below w.heap.size w w' := by
  have HO := iob_any s 300 w hs (by omega)
  cases hb : bitsB 300 s.data.toList
  · rw [hb] at HO
    have HF : FF s = [] := by unfold FF; rw [hb]; rfl
    have HH := Lib.hid HO
    have HFF := Lib.hid HF
    clear HO hb HF
    go_enter Tryd.func7, Tryd.ntmps7
    go_wp2_with (go_at_call 19; refine HH.out.mono ?_; rintro e w' ⟨rfl, hb1⟩)
    go_ret
    exact ⟨_, rfl, by rw [HFF.out]; exact OwnT.nil _ _, hb1⟩
  · rw [hb] at HO
    have h300 : s.size ≤ 300 := by
      simp only [bitsB, Bool.and_eq_true, decide_eq_true_eq] at hb
      have e : s.data.toList.length = s.size := Array.length_toList
      omega
    have hF : FF s = ffk (prt s) (prt s).length := by
      rw [ffk_end _ _ (Nat.le_refl _)]
      show FF s = ffr s
      unfold FF; rw [if_pos hb, ffr_eq]
    have hn2 : (prt s).length ≤ 302 := by
      have := Lib.countB_le flB (by decide) s.size s (Nat.le_refl _)
      rw [prt_len]; omega
    have hn1 : 1 ≤ (prt s).length := by rw [prt_len]; omega
    have hsz := prt_size (s.size + 1) s (Nat.lt_succ_self _)
    have HH := Lib.hid HO
    have HFF := Lib.hid hF
    have HSP := Lib.hid (fun W (h : Lax W) => spl_any s W (by omega) h)
    have HSZ := Lib.hid (fun k (hk : k < (prt s).length) => show ((prt s).getD k ByteArray.empty).size ≤ maxLen from by
      have hmem : (prt s).getD k ByteArray.empty ∈ prt s := by rw [List.getD_eq_getElem?_getD, List.getElem?_eq_getElem hk]; exact List.getElem_mem _
      have := hsz _ hmem
      unfold maxLen; omega)
    obtain ⟨i0, hi, hz0, hz1, hz2⟩ := info_parts infoS
    have HI := Lib.hid hi
    have HZ0 := Lib.hid hz0
    have HZ1 := Lib.hid hz1
    have HZ2 := Lib.hid hz2
    have HM := Lib.hid hm
    have hlt0 := hm.lt
    clear HO hb hF hsz hi hz0 hz1 hz2 hm
    generalize prt s = xs at *
    go_enter Tryd.func7, Tryd.ntmps7
    go_wp2_with (first | (go_at_call 19; refine HH.out.mono ?_; rintro e w1 ⟨rfl, hb1⟩; have HB1 := Lib.hid hb1; have HM1 := Lib.hid (HM.out.below hb1 hlt0); clear hb1) | (go_at_call 20; refine (HSP.out _ HM1.out).mono ?_; rintro e w2 ⟨rfl, hw2⟩; have HW2 := Lib.hid hw2; clear hw2))
    have HA : Hid (AtS w2 w1.heap.size 0 xs) := Lib.hid (by rw [HW2.out]; exact strAt w1 xs _)
    have HB2 : Hid (Below w.heap.size w w2) := Lib.hid (by rw [HW2.out]; exact HB1.out.alloc HB1.out.size _)
    have hlt2 : w1.heap.size < w2.heap.size := by rw [HW2.out]; simp
    clear HW2
    go_loopw [4, 16] (fun fv iv wr => ∃ k : Nat, k ≤ xs.length ∧ iv = .int .i64 k ∧ OwnT wr w2.heap.size fv (ffk xs k) ∧ Below w2.heap.size w2 wr) (fun _ iv _ => xs.length - (intOf iv).toNat)
    case atStart => exact ⟨0, Nat.zero_le _, rfl, by rw [show ffk xs 0 = [] from by simp [ffk]]; exact OwnT.nil _ _, Below.refl _ _⟩
    case round =>
      obtain ⟨k, hk, rfl, hown, hbel⟩ := hrel
      have HOW := Lib.hid hown
      have HBEL := Lib.hid hbel
      obtain ⟨A4, c4, rfl⟩ := own_form1 hown
      have hfl := ffk_len xs k
      by_cases hlt : k < xs.length
      · have c0 := (HA.out.below hbel hlt2).2 k hlt
        rw [Nat.zero_add] at c0
        have k0 : (0 : Int) ≤ (k : Int) := by omega
        have k1 : (k : Int) < (xs.length : Int) := by omega
        have HSAME := Lib.hid (fun h => ffk_same hlt h)
        have HMORE := Lib.hid (fun h0 h1 h => ffk_more hlt h0 h1 h)
        have hxz := HSZ.out k hlt
        clear hown hbel
        generalize hx : xs.getD k ByteArray.empty = x at *
        clear hx
        by_cases h0 : k = 0
        · have q0 : ((k : Int) == 0) = true := beq_iff_eq.2 (by omega)
          have HX := Lib.hid (HSAME.out (.inl h0))
          clear h0
          go_wp2
          go_roundw
          case rel => exact ⟨k + 1, by omega, by go_num, by rw [HX.out]; exact HOW.out, HBEL.out⟩
          case measure => simp [intOf]; omega
        · have q0 : ((k : Int) == 0) = false := beq_eq_false_iff_ne.2 (by omega)
          by_cases h1 : k + 1 = xs.length
          · have q1 : ((k : Int) == (xs.length : Int) - 1) = true := beq_iff_eq.2 (by omega)
            have HX := Lib.hid (HSAME.out (.inr (.inl h1)))
            clear h0 h1
            go_wp2
            go_roundw
            case rel => exact ⟨k + 1, by omega, by go_num, by rw [HX.out]; exact HOW.out, HBEL.out⟩
            case measure => simp [intOf]; omega
          · have q1 : ((k : Int) == (xs.length : Int) - 1) = false := beq_eq_false_iff_ne.2 (by omega)
            cases hne : neB x
            · have q2 := ne_no hne
              have HX := Lib.hid (HSAME.out (.inr (.inr hne)))
              clear h0 h1 hne
              go_wp2
              go_roundw
              case rel => exact ⟨k + 1, by omega, by go_num, by rw [HX.out]; exact HOW.out, HBEL.out⟩
              case measure => simp [intOf]; omega
            · have q2 := ne_yes hne
              have HX := Lib.hid (HMORE.out h0 h1 hne)
              have HU := Lib.hid (uns_call x wr hxz)
              clear h0 h1 hne
              generalize uL x.data.toList = y at *
              generalize (unsR x.data.toList).isSome = yb at *
              go_wp2_with (first | (go_at_call 21; refine HU.out.mono ?_; rintro e w5 ⟨rfl, hb5⟩; have HO5 : Hid (OwnT w5 w2.heap.size (.slice A4 (ffk xs k).length c4) (ffk xs k)) := Lib.hid (own_belowS HOW.out hb5 (fun g hg => (World.ownsRow.lt HOW.out g hg).2)); have HB5 := Lib.hid (HBEL.out.trans (hb5.mono HBEL.out.size)); clear hb5) | (at_builtin; refine wpList_append_own _ rfl (.tmp 39) (.tmp 41) 22 rfl w2.heap.size 9 i0 (.string ByteArray.empty) 1 16 Tryd.underlying22 HI.out HZ0.out HZ1.out HZ2.out rfl (by decide) _ _ _ rfl (World.ownsRow.alloc HO5.out _) ⟨w5.heap.size, 0, none⟩ 1 1 (strv [y]) rfl rfl (new1s _ _ _) (one1s _) (by unfold maxLen; omega) (by omega) (by have := HB5.out.size; simp; omega) ?_; intro v9 w9 hown9 hg9 hnil; clear hnil; obtain ⟨A9, c9, rfl⟩ := own_form1 hown9))
              have R2 := push1_below HO5.out hg9 HB5.out HB5.out.size
              go_roundw
              case rel => exact ⟨k + 1, by omega, by go_num, by rw [HX.out]; exact ownT_snoc hown9, R2.1⟩
              case measure => simp [intOf]; omega
      · have hkn : k = xs.length := by omega
        have HE : Hid (OwnT wr w2.heap.size (.slice A4 (ffk xs k).length c4) (FF s)) := Lib.hid (by rw [HFF.out, ← hkn]; exact HOW.out)
        clear hkn hown
        go_wp2
        go_ret
        exact ⟨_, rfl, ownT_base HE.out HB2.out.size, HB2.out.trans (hbel.mono HB2.out.size)⟩
end Go.Proofs.YtogoedjcacnfcaaDoor
