/-
  The walks of both MendBits at every text. Condition: what the two tables hold, and the length that is typed.
  The walks of the program's functions that read and write numbers in decimal. Conditions: what the desk wants of the library's variables, and the lengths that are typed.
  The walks of the program's functions that read and write lists of numbers in decimal. Conditions: what the desk wants of the library's variables, and the lengths that are typed.
-/
import Derived.Test.YtndpbhmokobbpaaGreatDoorDm15
import Derived.Test.YtndpbhmokobbpaaGreatDoorDm11
namespace Go.Proofs.YtndpbhmokobbpaaGreatDoor
open Go.RowKit
set_option linter.unusedVariables false

/-- What MendBits gives. -/
def mbR (l : List UInt8) : ByteArray × Int := if bitsB 40 l = true ∧ l.length = 7 then mendR (fun j => l.getD j 0) else (ByteArray.empty, -1)
theorem list7 {l : List UInt8} (h : l.length = 7) : ∃ c0 c1 c2 c3 c4 c5 c6, l = [c0, c1, c2, c3, c4, c5, c6] := by
  match l, h with
  | [c0, c1, c2, c3, c4, c5, c6], _ => exact ⟨c0, c1, c2, c3, c4, c5, c6, rfl⟩
theorem ba_list {s : ByteArray} {l : List UInt8} (h : s.data.toList = l) : s = ⟨l.toArray⟩ := by
  apply ByteArray.ext
  rw [← h]

set_option maxHeartbeats 1600000 in
theorem iMB_any (s : ByteArray) (w : World) (hs : s.size ≤ maxLen) (ht : Tabs w) :
    Calls Tryz.prog 49 #[.string s] w fun e w' => e = .returned (.tuple #[.string (mbR s.data.toList).1, .int .i64 (mbR s.data.toList).2]) ∧ Below w.heap.size w w' := by
  have h1 := iVB_any s w hs
  have hpl0 : s.data.toList.length = s.size := by simp
  unfold mbR
  rw [hpl0]
  by_cases h7 : s.size = 7
  · cases hv : bitsB 40 s.data.toList
    · rw [hv] at h1
      have H1 := Lib.hid h1
      have hsi : (s.size : Int) = 7 := by omega
      clear h1
      rw [if_neg (by simp)]
      go_enter Tryz.func49, Tryz.ntmps49
      go_wp2_with (go_at_call 47; refine H1.out.mono ?_; rintro e w1 ⟨rfl, hb1⟩)
      go_ret2
      exact ⟨rfl, hb1⟩
    · rw [if_pos ⟨rfl, h7⟩]
      obtain ⟨c0, c1, c2, c3, c4, c5, c6, hl⟩ := list7 (hpl0.trans h7)
      rw [hl] at hv ⊢
      exact iMB_yes s c0 c1 c2 c3 c4 c5 c6 _ rfl w hl (by rw [hl]; exact hv) h7 ht
  · rw [if_neg (by simp [h7])]
    have h7i : ((s.size : Int) == 7) = false := by simp; omega
    have h7n : ((s.size : Int) != 7) = true := by simp; omega
    clear h1
    go_enter Tryz.func49, Tryz.ntmps49
    go_wp2_with fail
    go_ret2
    exact ⟨rfl, Below.refl _ _⟩
set_option maxHeartbeats 1600000 in
theorem sMB_any (s : ByteArray) (w : World) (hs : s.size ≤ maxLen) :
    Calls Tryz.prog 31 #[.string s] w fun e w' => e = .returned (.tuple #[.string (mbR s.data.toList).1, .int .i64 (mbR s.data.toList).2]) ∧ Below w.heap.size w w' := by
  have h1 := svb_any s w hs
  have hpl0 : s.data.toList.length = s.size := by simp
  unfold mbR
  rw [hpl0]
  cases hv : bitsB 40 s.data.toList
  · rw [hv] at h1
    have H1 := Lib.hid h1
    clear h1
    rw [if_neg (by simp)]
    go_enter Tryz.func31, Tryz.ntmps31
    go_wp2_with (go_at_call 28; refine H1.out.mono ?_; rintro e w' ⟨rfl, rfl⟩)
    go_ret2
    exact ⟨rfl, Below.refl _ _⟩
  · by_cases h7 : s.size = 7
    · rw [if_pos ⟨rfl, h7⟩]
      obtain ⟨c0, c1, c2, c3, c4, c5, c6, hl⟩ := list7 (hpl0.trans h7)
      rw [hl] at hv ⊢
      have hs' := ba_list hl
      rw [hs']
      exact sMB_yes c0 c1 c2 c3 c4 c5 c6 _ rfl w hv
    · rw [if_neg (by simp [h7])]
      rw [hv] at h1
      have H1 := Lib.hid h1
      have h7i : ((s.size : Int) == 7) = false := by simp; omega
      have h7n : ((s.size : Int) != 7) = true := by simp; omega
      clear h1
      go_enter Tryz.func31, Tryz.ntmps31
      go_wp2_with (go_at_call 28; refine H1.out.mono ?_; rintro e w' ⟨rfl, rfl⟩)
      go_ret2
      exact ⟨rfl, Below.refl _ _⟩
end Go.Proofs.YtndpbhmokobbpaaGreatDoor

namespace Go.Proofs.YtndpbhmokobbpaaGreatDoor
open Go.RowKit
set_option linter.unusedVariables false

set_option maxHeartbeats 1600000 in
theorem ifd_any (s : ByteArray) (w : World) (hs : s.size ≤ 10000000) (h : Dk w) :
    Calls Tryz.prog 54 #[.string s] w fun e w' => e = .returned (.int .i64 (fdI s.data.toList)) ∧ Below w.heap.size w w' := by
  have HD := Lib.hid h
  rcases ato_any s hs w h with ⟨v, ha, hc⟩ | ⟨ha, hc⟩
  · have hbd := Lib.atoiAll_bounds ha
    have hk : fdI s.data.toList = if Lib.itoa v = s.data.toList then v else -1 := by unfold fdI; rw [ha]
    have hi := fun W hW => ito_any v hbd.1 hbd.2 W hW
    by_cases he : Lib.itoa v = s.data.toList
    · rw [if_pos he] at hk
      rw [hk]
      rw [show mkT (Lib.itoa v) = s from by rw [he, mkT_data]] at hi
      have HC := Lib.hid hc
      have HI := Lib.hid hi
      obtain ⟨b0, b1⟩ := hbd
      clear hc hi ha hk he h
      go_enter Tryz.func54, Tryz.ntmps54
      go_wp2_with fail
      refine HC.out.mono ?_
      rintro e w1 ⟨rfl, hb1⟩
      have HD1 := Lib.hid (HD.out.below hb1)
      have HB1 := Lib.hid hb1
      clear hb1
      go_wp2_with fail
      refine (HI.out _ HD1.out).mono ?_
      rintro e w2 ⟨rfl, hb2⟩
      have HB2 := Lib.hid (HB1.out.trans (hb2.mono HB1.out.size))
      clear hb2
      go_wp2_with fail
      go_ret
      exact ⟨rfl, HB2.out⟩
    · rw [if_neg he] at hk
      rw [hk]
      have HNE := Lib.hid (show ¬ mkT (Lib.itoa v) = s from fun e => he (by rw [← e, mkT_list]))
      have HC := Lib.hid hc
      have HI := Lib.hid hi
      generalize mkT (Lib.itoa v) = T at *
      obtain ⟨b0, b1⟩ := hbd
      clear hc hi ha hk he h
      have htl : (T.toList == s.toList) = false := by
        rw [Lib.toList_data, Lib.toList_data, beq_eq_false_iff_ne]
        intro e
        apply HNE.out
        apply ByteArray.ext
        exact Array.toList_inj.1 e
      go_enter Tryz.func54, Tryz.ntmps54
      go_wp2_with fail
      refine HC.out.mono ?_
      rintro e w1 ⟨rfl, hb1⟩
      have HD1 := Lib.hid (HD.out.below hb1)
      have HB1 := Lib.hid hb1
      clear hb1
      go_wp2_with fail
      refine (HI.out _ HD1.out).mono ?_
      rintro e w2 ⟨rfl, hb2⟩
      have HB2 := Lib.hid (HB1.out.trans (hb2.mono HB1.out.size))
      clear hb2
      go_wp2_with fail
      go_ret
      exact ⟨rfl, HB2.out⟩
  · have hk : fdI s.data.toList = -1 := by
      unfold fdI
      cases he : Lib.atoiAll s.data.toList with
      | ok v => exact absurd he (ha v)
      | _ => rfl
    rw [hk]
    have HC := Lib.hid hc
    clear hc ha hk h
    go_enter Tryz.func54, Tryz.ntmps54
    go_wp2_with fail
    refine HC.out.mono ?_
    rintro e w1 ⟨x, T, V, rfl, hb1⟩
    have HB1 := Lib.hid hb1
    clear hb1
    go_wp2_with fail
    go_ret
    exact ⟨rfl, HB1.out⟩
end Go.Proofs.YtndpbhmokobbpaaGreatDoor

namespace Go.Proofs.YtndpbhmokobbpaaGreatDoor
open Go.RowKit
set_option linter.unusedVariables false

/-- The numbers of a list in decimal, as the program reads them. -/
def fdL (s : ByteArray) : List Int := (ptT 44 s).map fun x => fdI x.data.toList
set_option maxHeartbeats 3200000 in
theorem ifl_any (s : ByteArray) (w : World) (hs : s.size ≤ 1048575) (hD : Dk w) :
    Calls Tryz.prog 51 #[.string s] w (RowPost (fdL s) w) := by
  have HD := Lib.hid hD
  have HS := Lib.hid (fun W hW => spl_any 44 s W (by omega) hW)
  have hPl := ptT_len 44 s
  have HPS := Lib.hid (fun x (hx : x ∈ ptT 44 s) => ptT_size hx)
  have HZ := Lib.hid hD.sz
  clear hD
  unfold fdL
  generalize ptT 44 s = P at *
  go_enter Tryz.func51, Tryz.ntmps51
  go_wp2_with fail
  refine (HS.out _ HD.out).mono ?_
  rintro e w1 ⟨u, rfl, hu, hb1⟩
  have HU1 := Lib.hid hu
  have HB1 := Lib.hid hb1
  have hz1 := HB1.out.size
  have HD1 := Lib.hid (HD.out.below hb1)
  obtain ⟨A, c, huf⟩ := hu.form
  subst huf
  clear hu hb1 HS
  go_wp2
  go_loopw [3, 9] (fun ov iv wr => ∃ k : Nat, iv = .int .i64 k ∧ k ≤ P.length ∧ Hid (OwnL wr w.heap.size ov ((P.take k).map fun x => fdI x.data.toList)) ∧ Hid (Below w.heap.size w wr) ∧ Hid (OwnT wr w.heap.size (.slice A P.length c) P) ∧ w.heap.size ≤ wr.heap.size) (fun _ iv _ => P.length - (intOf iv).toNat)
  case atStart => exact ⟨0, rfl, Nat.zero_le _, Lib.hid (OwnL.nil _ _), Lib.hid HB1.out, Lib.hid HU1.out, hz1⟩
  case round =>
    obtain ⟨k, rfl, hk, HO, HB, HU, hz⟩ := hrel
    obtain ⟨Ao, co, hof⟩ := HO.out.form
    have hOl : ((P.take k).map fun x => fdI x.data.toList).length = k := by rw [List.length_map, List.length_take]; omega
    rw [hOl] at hof
    subst hof
    by_cases hlt : k < P.length
    · obtain ⟨A', c', e1, h1⟩ := OwnT.rss HU.out
      injection e1 with e2 e4 e5
      clear e4 e5
      obtain ⟨b, off, e3, hat⟩ := h1 (by omega)
      rw [e3] at e2
      subst e2
      have hc := hat.2 k hlt
      have hmem : P.getD k ByteArray.empty ∈ P := by
        rw [List.getD_eq_getElem?_getD, List.getElem?_eq_getElem hlt]; exact List.getElem_mem hlt
      have hsz := HPS.out _ hmem
      have HST : Hid ((P.take (k + 1)).map (fun x => fdI x.data.toList) = (P.take k).map (fun x => fdI x.data.toList) ++ [fdI (P.getD k ByteArray.empty).data.toList]) := Lib.hid (by
        have e : P.take (k + 1) = P.take k ++ [P.getD k ByteArray.empty] := by
          rw [List.take_add_one, List.getElem?_eq_getElem hlt]
          simp [List.getD_eq_getElem?_getD, List.getElem?_eq_getElem hlt]
        rw [e, List.map_append]; rfl)
      have HR := Lib.hid (fun W hW => ifd_any (P.getD k ByteArray.empty) W (by omega) hW)
      have HAT := Lib.hid hat
      generalize P.getD k ByteArray.empty = y at *
      generalize fdI y.data.toList = z at *
      generalize (P.take k).map (fun x => fdI x.data.toList) = O at *
      have HOL := Lib.hid hOl
      have hOk : O.length < 1048576 := by omega
      have HDW := Lib.hid (HD.out.below HB.out)
      clear h1 e3 hat hmem hOl
      go_wp2_with fail
      refine (HR.out _ HDW.out).mono ?_
      rintro e w2 ⟨rfl, hb2⟩
      have hB2 := HB.out.trans (hb2.mono hz)
      have HO2 := Lib.hid (OwnL.below HO.out hb2 (Nat.le_refl _))
      have HU2 := Lib.hid (OwnT.below HU.out hb2)
      have HB2 := Lib.hid hB2
      have hz2 := hB2.size
      clear hb2 hB2 hc HO HU HB
      go_wp2_with (at_builtin; refine append_oneJ rfl (.tmp 13) (.tmp 16) rfl w.heap.size _ O z rfl rfl HO2.out (by omega) hz2 ?_; intro A9 c9 w9 hown9 hg9 hb9 hz9)
      have HO9 := Lib.hid hown9
      have HB9 := Lib.hid (HB2.out.trans hb9)
      have HU9 : Hid (OwnT w9 w.heap.size (.slice (some ⟨b, off, none⟩) P.length c) P) := Lib.hid (World.ownsRow.kept (World.ownsRow.alloc HU2.out _) hg9 (own_types HO2.out HU2.out))
      go_wp2
      go_roundw
      case rel => exact ⟨k + 1, by go_num, by omega, Lib.hid (by rw [HST.out]; have := HO9.out; exact this), Lib.hid HB9.out, Lib.hid HU9.out, by omega⟩
      case measure => simp [intOf]; omega
    · have hke : k = P.length := by omega
      have HN : Hid (OwnL wr w.heap.size (.slice Ao k co) (P.map fun x => fdI x.data.toList)) := Lib.hid (by have := HO.out; rwa [hke, List.take_length, ← hke] at this)
      clear HO hke
      go_wp2
      go_ret
      exact ⟨_, rfl, HN.out, HB.out⟩

/-- A row of numbers, and a row of texts that is kept beside it. -/
theorem dts_step (xs : List Int) (k : Nat) (h : k < xs.length) : (xs.take (k + 1)).map (fun x => mkT (Lib.decDigits x.toNat)) = (xs.take k).map (fun x => mkT (Lib.decDigits x.toNat)) ++ [mkT (Lib.decDigits (xs.getD k 0).toNat)] := by
  have e : xs.take (k + 1) = xs.take k ++ [xs.getD k 0] := by
    rw [List.take_add_one, List.getElem?_eq_getElem h]
    simp [List.getD_eq_getElem?_getD, List.getElem?_eq_getElem h]
  rw [e, List.map_append]; rfl
set_option maxHeartbeats 3200000 in
theorem itd_any (w : World) (B0 : Nat) (v : Value) (xs : List Int) (h : OwnL w B0 v xs) (hn : xs.length ≤ 100) (hx : ∀ x ∈ xs, 0 ≤ x ∧ x ≤ 1000) (hD : Dk w) :
    Calls Tryz.prog 52 #[v] w fun e w' => e = .returned (.string (mkT (ltx xs))) ∧ Below w.heap.size w w' := by
  have HR := Lib.hid h
  obtain ⟨A, c, hvf⟩ := h.form
  subst hvf
  have HD := Lib.hid hD
  have HX := Lib.hid hx
  have HZ := Lib.hid hD.sz
  clear h hx hD
  go_enter Tryz.func52, Tryz.ntmps52
  go_wp2
  go_loopw [3, 8] (fun ov iv wr => ∃ k : Nat, iv = .int .i64 k ∧ k ≤ xs.length ∧ Hid (OwnT wr w.heap.size ov ((xs.take k).map fun x => mkT (Lib.decDigits x.toNat))) ∧ Hid (Below w.heap.size w wr) ∧ w.heap.size ≤ wr.heap.size) (fun _ iv _ => xs.length - (intOf iv).toNat)
  case atStart => exact ⟨0, rfl, Nat.zero_le _, Lib.hid (OwnT.nil _ _), Lib.hid (Below.refl _ _), Nat.le_refl _⟩
  case round =>
    obtain ⟨k, rfl, hk, HO, HB, hz⟩ := hrel
    obtain ⟨Ao, co, hof⟩ := HO.out.form
    have hOl : ((xs.take k).map fun x => mkT (Lib.decDigits x.toNat)).length = k := by rw [List.length_map, List.length_take]; omega
    rw [hOl] at hof
    subst hof
    have HDW := Lib.hid (HD.out.below HB.out)
    by_cases hlt : k < xs.length
    · obtain ⟨A', c', e1, h1⟩ := OwnL.rds (OwnL.below HR.out HB.out (Nat.le_refl _))
      injection e1 with e2 e4 e5
      clear e4 e5
      obtain ⟨b, off, e3, hat⟩ := h1 (by omega)
      rw [e3] at e2
      subst e2
      have hc := hat.2 k hlt
      have hmem : xs.getD k 0 ∈ xs := by
        rw [List.getD_eq_getElem?_getD, List.getElem?_eq_getElem hlt]; exact List.getElem_mem hlt
      obtain ⟨x0, x1⟩ := HX.out _ hmem
      have HST := Lib.hid (dts_step xs k hlt)
      obtain ⟨m, hm⟩ : ∃ m : Nat, xs.getD k 0 = (m : Int) := ⟨(xs.getD k 0).toNat, by omega⟩
      rw [hm] at hc x0 x1
      have hi := fun W hW => ito_any (m : Int) (by omega) (by omega) W hW
      rw [Lib.itoa_nonneg] at hi
      have HI := Lib.hid hi
      have HTX := Lib.hid (show mkT (Lib.decDigits (xs.getD k 0).toNat) = mkT (Lib.decDigits m) from by rw [hm, Int.toNat_natCast])
      generalize mkT (Lib.decDigits m) = D at *
      generalize (xs.take k).map (fun x => mkT (Lib.decDigits x.toNat)) = O at *
      have hOk : O.length ≤ 100 := by omega
      clear h1 e3 hat hmem hm hi
      go_wp2_with fail
      refine (HI.out _ HDW.out).mono ?_
      rintro e w2 ⟨rfl, hb2⟩
      have hB2 := HB.out.trans (hb2.mono hz)
      have HO2 := Lib.hid (OwnT.below HO.out hb2)
      have HB2 := Lib.hid hB2
      have hz2 := hB2.size
      clear hb2 hB2 hc HO HB
      go_wp2_with (at_builtin; go_loud (refine append_oneT rfl (.tmp 12) (.tmp 15) rfl w.heap.size _ O D rfl rfl HO2.out (by omega) hz2 ?_); intro A9 c9 w9 hown9 hg9 hb9 hz9)
      have HO9 := Lib.hid hown9
      have HB9 := Lib.hid (HB2.out.trans hb9)
      go_wp2
      go_roundw
      case rel => exact ⟨k + 1, by go_num, by omega, Lib.hid (by rw [HST.out, HTX.out]; have := HO9.out; rw [hOl] at this; exact this), Lib.hid HB9.out, by omega⟩
      case measure => simp [intOf]; omega
    · have hke : k = xs.length := by omega
      have hN : OwnT wr w.heap.size (.slice Ao k co) (xs.map fun x => mkT (Lib.decDigits x.toNat)) := (by have := HO.out; rwa [hke, List.take_length, ← hke] at this)
      have hjl : Lib.join ((xs.map fun x => mkT (Lib.decDigits x.toNat)).map (·.data.toList)) [44] = ltx xs := by
        rw [List.map_map, ← join_ltx]
        congr 1
      have hll := ltx_len xs (fun x hx => (HX.out x hx).2)
      have hJ := joi_any _ _ _ wr hN (by rw [List.length_map]; omega) (by rw [hjl]; omega)
      rw [hjl] at hJ
      have HJ := Lib.hid hJ
      clear HO hke hN hjl hll hJ
      go_wp2_with fail
      refine HJ.out.mono ?_
      rintro e w2 ⟨rfl, hb2⟩
      have HB2 := Lib.hid (HB.out.trans (hb2.mono hz))
      clear hb2
      go_wp2
      go_ret
      exact ⟨rfl, HB2.out⟩
end Go.Proofs.YtndpbhmokobbpaaGreatDoor
