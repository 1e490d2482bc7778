/-
  The walks of both RunDesk. Conditions: what the desk wants of the library's variables, and the lengths that are typed.
  The walk of the law FnExactRunDesk: it returns true at every list of texts. Condition: what the desk wants of the library's variables.
-/
import Derived.Test.YtndpbhmokobbpaaGreatDoorDm29
namespace Go.Proofs.YtndpbhmokobbpaaGreatDoor
open Go.RowKit
set_option linter.unusedVariables false

/-- What szStringS says: below 0, or all is short. -/
def SzPostD (xs : List ByteArray) (w : World) (e : Ending) (w' : World) : Prop :=
  ∃ x : Int, e = .returned (.int .i64 x) ∧ (0 ≤ x → xs.length ≤ 1048576 ∧ ∀ j, j < xs.length → (xs.getD j ByteArray.empty).size ≤ 1048575) ∧ w' = w
set_option maxHeartbeats 800000 in
theorem szD_at (w : World) (b off c n : Nat) (xs : List ByteArray) (hx : xs.length = n) (hn2 : n ≤ maxLen) (hxs : ∀ j, j < n → (xs.getD j ByteArray.empty).size ≤ maxLen) (h : AtS w b off xs) :
    Calls Tryz.prog 5 #[.slice (some ⟨b, off, none⟩) n c, .int .i64 1048576] w (SzPostD xs w) := by
  unfold maxLen at hn2 hxs
  have HX := Lib.hid hx
  have HC := Lib.hid h.2
  have HS := Lib.hid hxs
  clear h hx hxs
  by_cases hg : (1048576 : Int) - (n : Int) < 0
  · go_enter Tryz.func5, Tryz.ntmps5
    go_wp2
    go_ret
    exact ⟨_, rfl, fun h => by omega, rfl⟩
  · go_enter Tryz.func5, Tryz.ntmps5
    go_wp2
    go_loop [1, 5] (fun l i => ∃ (k : Nat) (y : Int), k ≤ n ∧ i = .int .i64 k ∧ l = .int .i64 y ∧ 0 ≤ y ∧ y ≤ 1048576 - (n : Int) ∧ ∀ j, j < k → (xs.getD j ByteArray.empty).size ≤ 1048575) (fun _ i => n - (intOf i).toNat)
    case atStart => exact ⟨0, _, Nat.zero_le _, rfl, rfl, by omega, by omega, fun j hj => absurd hj (by omega)⟩
    case round =>
      obtain ⟨k, y, hk, rfl, rfl, hy0, hy1, hall⟩ := hrel
      have HA := Lib.hid hall
      clear hall
      by_cases hlt : k < n
      · have hc := HC.out k (by have := HX.out; omega)
        have hs := HS.out k hlt
        have HSN : Hid (∀ j, j < k → (xs.getD j ByteArray.empty).size ≤ 1048575) := HA.out
        have hE : ∃ x, x = xs.getD k ByteArray.empty := ⟨_, rfl⟩
        obtain ⟨x, hxk⟩ := hE
        rw [← hxk] at hc hs
        have HXK := Lib.hid hxk
        clear hxk
        by_cases hl : y - (x.size : Int) < 0
        · go_wp2
          go_ret
          exact ⟨_, rfl, fun h => by omega, rfl⟩
        · go_wp2
          go_round
          case rel =>
            refine ⟨k + 1, _, by omega, by go_num, rfl, by omega, by omega, fun j hj => ?_⟩
            rcases (show j < k ∨ j = k from by omega) with h | h
            · exact HA.out j h
            · rw [h, ← HXK.out]; omega
          case measure => simp [intOf]; omega
      · obtain rfl : k = n := by omega
        go_wp2
        go_ret
        exact ⟨_, rfl, fun _ => ⟨by rw [HX.out]; omega, fun j hj => HA.out j (by rw [← HX.out]; exact hj)⟩, rfl⟩
set_option maxHeartbeats 400000 in
theorem szD_nil (w : World) (A : Option Addr) (c : Nat) : Calls Tryz.prog 5 #[.slice A 0 c, .int .i64 1048576] w (SzPostD [] w) := by
  go_enter Tryz.func5, Tryz.ntmps5
  go_wp2
  refine wp_loop_rounds 1 ?_
  rw [rounds_succ]
  go_wp2
  go_ret
  exact ⟨_, rfl, fun _ => ⟨by simp, fun j hj => absurd hj (by simp)⟩, rfl⟩
theorem szD_any (w : World) (v : Value) (xs : List ByteArray) (h : Rss w v xs) (hn : xs.length ≤ maxLen) (hxs : ∀ j, j < xs.length → (xs.getD j ByteArray.empty).size ≤ maxLen) :
    Calls Tryz.prog 5 #[v, .int .i64 1048576] w (SzPostD xs w) := by
  obtain ⟨A, c, rfl, h1⟩ := h
  rcases Nat.eq_zero_or_pos xs.length with h0 | h0
  · obtain rfl : xs = [] := List.eq_nil_of_length_eq_zero h0
    exact szD_nil w A c
  · obtain ⟨b, off, rfl, ha⟩ := h1 h0
    exact szD_at w b off c xs.length xs rfl hn hxs ha

/-- The answers to lines, one behind the other. -/
def rdk : List ByteArray → List UInt8
  | [] => []
  | s :: r => (ans s).data.toList ++ 10 :: rdk r
theorem rdk_snoc : ∀ (l : List ByteArray) (s : ByteArray), rdk (l ++ [s]) = rdk l ++ ((ans s).data.toList ++ [10])
  | [], s => by simp [rdk]
  | x :: l, s => by
    rw [List.cons_append, rdk, rdk, rdk_snoc l s]
    simp
theorem rdk_step (P : List ByteArray) (k : Nat) (h : k < P.length) : rdk (P.take (k + 1)) = rdk (P.take k) ++ ((ans (P.getD k ByteArray.empty)).data.toList ++ [10]) := by
  have e : P.take (k + 1) = P.take k ++ [P.getD k ByteArray.empty] := by
    rw [List.take_add_one, List.getElem?_eq_getElem h]
    simp [List.getD_eq_getElem?_getD, List.getElem?_eq_getElem h]
  rw [e, rdk_snoc]
/-- What RunDesk gives. -/
def rdR (P : List ByteArray) : ByteArray := if 20 < P.length then mkT [] else mkT (rdk P)
theorem bits40 {l : List UInt8} (h : bitsB 40 l = true) : l.length ≤ 40 := by
  have : l.length ≤ 40 ∧ l.all isBit = true := by simpa [bitsB] using h
  exact this.1
theorem mbR_size (l : List UInt8) : (mbR l).1.size ≤ 4 := by
  unfold mbR
  split
  · unfold mendR
    split
    · exact Nat.le_refl 4
    · exact Nat.zero_le 4
  · exact Nat.zero_le 4
theorem ansT_size (wd tx : ByteArray) : (ansT wd tx).size ≤ 20000 := by
  unfold ansT
  have w1 : tWrong.size ≤ 20000 := by decide
  have w2 : tWhat.size ≤ 20000 := by decide
  split
  · split
    · rename_i h
      have := bits40 h
      have := stf_len tx.data.toList
      rw [mkT_size]; omega
    · exact w1
  · split
    · split
      · have := mbR_size tx.data.toList; omega
      · exact w1
    · split
      · split
        · rename_i h
          have := pnt_bd h
          have := ltx_len (pnt (rdL tx)) (fun x hx => (this.2.2 x hx).2)
          rw [mkT_size]; omega
        · exact w1
      · split
        · split
          · rename_i h
            have := btw_yes h
            have h2 := gr_bd (n := (rdN tx.data.toList).toNat) (by omega)
            have := ltx_len (gr (rdN tx.data.toList).toNat) (fun x hx => (h2.2.2 x hx).2)
            rw [mkT_size]; omega
          · exact w1
        · exact w2
theorem ansB_size (wd p s : ByteArray) : (ansB wd p s).size ≤ 20000 := by
  unfold ansB
  have w1 : tWrong.size ≤ 20000 := by decide
  have w2 : tWhat.size ≤ 20000 := by decide
  split
  · split
    · rw [mkT_size]
      unfold sealR
      split
      · rename_i h
        have h1 := bits40 h.2
        have h2 := polyB_bd h.1
        have h3 := remU_len p.data.toList (s.data.toList ++ List.replicate (p.data.toList.length - 1) 48) (by omega)
        rw [List.length_append] at h1 ⊢
        omega
      · exact Nat.zero_le _
    · exact w1
  · split
    · split
      · split
        · decide
        · decide
      · exact w1
    · exact w2
theorem ans_size (s : ByteArray) : (ans s).size ≤ 20000 := by
  unfold ans
  have w2 : tWhat.size ≤ 20000 := by decide
  match ptT 32 s with
  | [] => exact w2
  | [a] => exact w2
  | [a, b] => exact ansT_size a b
  | [a, b, c] => exact ansB_size a b c
  | a :: b :: c :: d :: t => exact w2
theorem rdk_len : ∀ (l : List ByteArray), (rdk l).length ≤ 20001 * l.length
  | [] => by simp [rdk]
  | s :: l => by
    have := rdk_len l
    have h := ans_size s
    have e : (ans s).data.toList.length = (ans s).size := Array.length_toList
    rw [rdk, List.length_append, List.length_cons, List.length_cons]
    omega
theorem rdk_app (T a : ByteArray) (l : List UInt8) (h : T = mkT l) : T ++ (a ++ ByteArray.mk #[10]) = mkT (l ++ (a.data.toList ++ [10])) ∧ T ++ a ++ ByteArray.mk #[10] = mkT (l ++ (a.data.toList ++ [10])) := by
  have ea : a = mkT a.data.toList := (mkT_data a).symm
  constructor
  · rw [h]
    conv => lhs; rw [ea]
    rw [show ByteArray.mk #[10] = mkT [10] from rfl, mkT_app, mkT_app]
  · rw [h]
    conv => lhs; rw [ea]
    rw [show ByteArray.mk #[10] = mkT [10] from rfl, mkT_app, mkT_app, List.append_assoc]

theorem Dk.lies {w : World} {B : Nat} {v : Value} {P : List ByteArray} (h : Rss w v P) (hl : LiesS w.heap.size v P) {w' : World} (hb : Below w.heap.size w w') : Rss w' v P := h.below hb hl

set_option maxHeartbeats 3200000 in
theorem iRD_any (w : World) (v : Value) (P : List ByteArray) (h : Rss w v P) (hl : LiesS w.heap.size v P) (hn : P.length ≤ 1048576) (hs : ∀ j, j < P.length → (P.getD j ByteArray.empty).size ≤ 1048575) (hD : Dk w) :
    Calls Tryz.prog 8 #[v] w fun e w' => e = .returned (.string (rdR P)) ∧ Below w.heap.size w w' := by
  have HD := Lib.hid hD
  have HR := Lib.hid h
  have HL := Lib.hid hl
  have HS := Lib.hid hs
  obtain ⟨A, c, rfl, _⟩ := h
  clear hD hl hs
  unfold rdR
  by_cases hg : 20 < P.length
  · rw [if_pos hg]
    have hg2 : (20 : Int) < (P.length : Int) := by omega
    go_enter Tryz.func8, Tryz.ntmps8
    go_wp2_with fail
    go_ret
    exact ⟨rfl, Below.refl _ _⟩
  · rw [if_neg hg]
    have hg2 : ¬ (20 : Int) < (P.length : Int) := by omega
    go_enter Tryz.func8, Tryz.ntmps8
    go_wp2
    go_loopw [3, 11] (fun ov iv wr => ∃ (T : ByteArray) (k : Nat), ov = .string T ∧ iv = .int .i64 k ∧ k ≤ P.length ∧ Hid (T = mkT (rdk (P.take k))) ∧ Hid (Below w.heap.size w wr)) (fun _ iv _ => P.length - (intOf iv).toNat)
    case atStart => exact ⟨mkT [], 0, rfl, rfl, Nat.zero_le _, Lib.hid rfl, Lib.hid (Below.refl _ _)⟩
    case round =>
      obtain ⟨T, k, rfl, rfl, hk, HT, HB⟩ := hrel
      by_cases hlt : k < P.length
      · obtain ⟨A', c', e1, h1⟩ := HR.out.below HB.out HL.out
        injection e1 with e2 e4 e5
        clear e4 e5
        obtain ⟨b, off, e3, hat⟩ := h1 (by omega)
        rw [e3] at e2
        subst e2
        have hc := hat.2 k hlt
        have hsz := HS.out k hlt
        have HST := Lib.hid (rdk_step P k hlt)
        have HA := Lib.hid (fun W hW => anl_any (P.getD k ByteArray.empty) W hsz hW)
        have hTs : T.size ≤ 400020 := by
          have := rdk_len (P.take k)
          rw [List.length_take] at this
          rw [HT.out, mkT_size]
          have : min k P.length ≤ 20 := by omega
          omega
        have has := ans_size (P.getD k ByteArray.empty)
        have HDW := Lib.hid (HD.out.below HB.out)
        have hnl : (ByteArray.mk #[10]).size = 1 := rfl
        have HAP := Lib.hid (rdk_app T (ans (P.getD k ByteArray.empty)) _ HT.out)
        generalize ans (P.getD k ByteArray.empty) = a at *
        generalize P.getD k ByteArray.empty = y at *
        clear h1 e3 hat hsz
        go_wp2_with fail
        refine (HA.out _ HDW.out).mono ?_
        rintro e w2 ⟨rfl, hb2⟩
        have HB2 := Lib.hid (HB.out.trans (hb2.mono HB.out.size))
        clear hb2 hc
        go_wp2_with fail
        go_roundw
        case rel => exact ⟨_, k + 1, rfl, by go_num, by omega, Lib.hid (by rw [HST.out]; exact HAP.out.1), Lib.hid HB2.out⟩
        case measure => simp [intOf]; omega
      · have hke : k = P.length := by omega
        have HN : Hid (T = mkT (rdk P)) := Lib.hid (by have := HT.out; rwa [hke, List.take_length] at this)
        clear HT
        go_wp2_with fail
        go_ret
        exact ⟨by rw [← HN.out]; rfl, HB.out⟩
set_option maxHeartbeats 3200000 in
theorem sRD_any (w : World) (v : Value) (P : List ByteArray) (h : Rss w v P) (hl : LiesS w.heap.size v P) (hn : P.length ≤ 1048576) (hs : ∀ j, j < P.length → (P.getD j ByteArray.empty).size ≤ 1048575) :
    Calls Tryz.prog 6 #[v] w fun e w' => e = .returned (.string (rdR P)) ∧ Below w.heap.size w w' := by
  have HR := Lib.hid h
  have HL := Lib.hid hl
  have HS := Lib.hid hs
  obtain ⟨A, c, rfl, _⟩ := h
  clear hl hs
  unfold rdR
  by_cases hg : 20 < P.length
  · rw [if_pos hg]
    have hg2 : (20 : Int) < (P.length : Int) := by omega
    go_enter Tryz.func6, Tryz.ntmps6
    go_wp2_with fail
    go_ret
    exact ⟨rfl, Below.refl _ _⟩
  · rw [if_neg hg]
    have hg2 : ¬ (20 : Int) < (P.length : Int) := by omega
    go_enter Tryz.func6, Tryz.ntmps6
    go_wp2
    go_loopw [3, 4] (fun ov iv wr => ∃ (T : ByteArray) (k : Nat), ov = .string T ∧ iv = .int .i64 k ∧ k ≤ P.length ∧ Hid (T = mkT (rdk (P.take k))) ∧ Hid (Below w.heap.size w wr)) (fun _ iv _ => P.length - (intOf iv).toNat)
    case atStart => exact ⟨mkT [], 0, rfl, rfl, Nat.zero_le _, Lib.hid rfl, Lib.hid (Below.refl _ _)⟩
    case round =>
      obtain ⟨T, k, rfl, rfl, hk, HT, HB⟩ := hrel
      by_cases hlt : k < P.length
      · obtain ⟨A', c', e1, h1⟩ := HR.out.below HB.out HL.out
        injection e1 with e2 e4 e5
        clear e4 e5
        obtain ⟨b, off, e3, hat⟩ := h1 (by omega)
        rw [e3] at e2
        subst e2
        have hc := hat.2 k hlt
        have hsz := HS.out k hlt
        have HST := Lib.hid (rdk_step P k hlt)
        have HA := Lib.hid (fun W => san_any (P.getD k ByteArray.empty) W hsz)
        have hTs : T.size ≤ 400020 := by
          have := rdk_len (P.take k)
          rw [List.length_take] at this
          rw [HT.out, mkT_size]
          have : min k P.length ≤ 20 := by omega
          omega
        have has := ans_size (P.getD k ByteArray.empty)
        have hnl : (ByteArray.mk #[10]).size = 1 := rfl
        have HAP := Lib.hid (rdk_app T (ans (P.getD k ByteArray.empty)) _ HT.out)
        generalize ans (P.getD k ByteArray.empty) = a at *
        generalize P.getD k ByteArray.empty = y at *
        clear h1 e3 hat hsz
        go_wp2_with fail
        refine (HA.out _).mono ?_
        rintro e w2 ⟨rfl, hb2⟩
        have HB2 := Lib.hid (HB.out.trans (hb2.mono HB.out.size))
        clear hb2 hc
        go_wp2_with fail
        go_roundw
        case rel => exact ⟨_, k + 1, rfl, by go_num, by omega, Lib.hid (by rw [HST.out]; exact HAP.out.2), Lib.hid HB2.out⟩
        case measure => simp [intOf]; omega
      · have hke : k = P.length := by omega
        have HN : Hid (T = mkT (rdk P)) := Lib.hid (by have := HT.out; rwa [hke, List.take_length] at this)
        clear HT
        go_wp2_with fail
        go_ret
        exact ⟨by rw [← HN.out]; rfl, HB.out⟩
end Go.Proofs.YtndpbhmokobbpaaGreatDoor

namespace Go.Proofs.YtndpbhmokobbpaaGreatDoor
open Go.RowKit
set_option linter.unusedVariables false

set_option maxHeartbeats 1600000 in
theorem fnExactRunDesk_walk (v : Value) (xs : List ByteArray) (w : World) (h : Rss w v xs) (hl : LiesS w.heap.size v xs) (hn : xs.length ≤ maxLen) (hxs : ∀ j, j < xs.length → (xs.getD j ByteArray.empty).size ≤ maxLen) (hD : Dk w) :
    Calls Tryz.prog 3 #[v] w fun e w' => e = .returned (.bool true) ∧ Below w.heap.size w w' := by
  have hz := szD_any w v xs h hn hxs
  have HR0 := Lib.hid h
  have HL0 := Lib.hid hl
  have HZ := Lib.hid hz
  have HD := Lib.hid hD
  obtain ⟨A, c, rfl, _⟩ := h
  clear hz hl hn hxs hD
  go_enter Tryz.func3, Tryz.ntmps3
  go_wp2_with fail
  refine HZ.out.mono ?_
  rintro e w0 ⟨x, rfl, hx, rfl⟩
  by_cases hx0 : x < 0
  · go_wp2
    go_ret
    exact ⟨rfl, Below.refl _ _⟩
  · obtain ⟨hn, hs⟩ := hx (by omega)
    have hS := fun W v h hl => sRD_any W v xs h hl hn hs
    have hI := fun W v h hl hW => iRD_any W v xs h hl hn hs hW
    generalize rdR xs = r at *
    have HS := Lib.hid hS
    have HI := Lib.hid hI
    clear hS hI hs hx HZ
    have hxd : decide (x < 0) = false := by simpa using hx0
    go_wp2_with fail
    refine (toS_any _ _ xs HR0.out hn).mono ?_
    rintro e w1 ⟨rfl, h1, hb1⟩
    have hr1 := Rss.of_at (c := xs.length) h1.at_
    have hl1 : LiesS w1.heap.size (.slice (some ⟨w0.heap.size, 0, none⟩) xs.length xs.length) xs := fun _ g hg => (h1.lt g hg).2
    have HR1 := Lib.hid (HR0.out.below hb1 HL0.out)
    clear h1 HR0
    go_wp2_with fail
    refine (HS.out _ _ hr1 hl1).mono ?_
    rintro e w2 ⟨rfl, hb2⟩
    have HR2 := Lib.hid (HR1.out.below hb2 (HL0.out.mono hb1.size))
    have HB2 := Lib.hid (hb1.trans (hb2.mono hb1.size))
    clear HR1 hb1 hb2 hr1 hl1
    go_wp2_with fail
    refine (toS_any _ _ xs HR2.out hn).mono ?_
    rintro e w3 ⟨rfl, h3, hb3⟩
    have HR3 := Lib.hid (HR2.out.below hb3 (HL0.out.mono HB2.out.size))
    have HB3 := Lib.hid (HB2.out.trans (hb3.mono HB2.out.size))
    have H3 := Lib.hid h3
    have HD3 := Lib.hid (HD.out.below HB3.out)
    clear h3 HR2 hb3
    go_wp2_with fail
    refine (HI.out _ _ (Rss.of_at (c := xs.length) H3.out.at_) (fun _ g hg => (H3.out.lt g hg).2) HD3.out).mono ?_
    rintro e w4 ⟨rfl, hb4⟩
    have HR4 := Lib.hid (HR3.out.below hb4 (HL0.out.mono HB3.out.size))
    have HB4 := Lib.hid (HB3.out.trans (hb4.mono HB3.out.size))
    have H4 := Lib.hid (OwnS.below H3.out hb4 (H3.out.lt _ rfl).2)
    clear HR3 HB3 H3 hb4
    go_wp2_with fail
    refine (toS_any _ _ xs HR4.out hn).mono ?_
    rintro e w6 ⟨rfl, h6, hb6⟩
    have H6 := Lib.hid (OwnS.below H4.out hb6 (H4.out.lt _ rfl).2)
    have HB6 := Lib.hid (HB4.out.trans (hb6.mono HB4.out.size))
    have HT6 := Lib.hid (Rss.of_at (c := xs.length) h6.at_)
    clear h6 hb6
    go_wp2_with fail
    refine (eqS_same _ _ _ xs (Rss.of_at (c := xs.length) H6.out.at_) HT6.out hn).mono ?_
    rintro e w7 ⟨rfl, m7, rfl⟩
    go_wp2
    go_ret
    exact ⟨rfl, below_drewN HB6.out m7⟩
end Go.Proofs.YtndpbhmokobbpaaGreatDoor
