/-
  The walks of the model's functions on rests and seals. Conditions: the lengths that are typed.
  The walks of the program's RestOf, SealBits and IsSealed. Conditions: the lengths that are typed.
-/
import Derived.Test.YtndpbhmokobbpaaGreatDoorDm22
namespace Go.Proofs.YtndpbhmokobbpaaGreatDoor
open Go.RowKit
set_option linter.unusedVariables false

theorem whole_eq (p s : List UInt8) : ((((remU p s).countP (· == 49) : Nat) : Int) == 0) = wholeB p s := by
  unfold wholeB
  cases h : (remU p s).any (· == 49)
  · have : (remU p s).countP (· == 49) = 0 := by
      rw [List.countP_eq_zero]
      intro a ha hb
      rw [List.any_eq_false] at h
      exact h a ha hb
    rw [this]; rfl
  · have : 0 < (remU p s).countP (· == 49) := by
      rw [List.countP_pos_iff]
      rw [List.any_eq_true] at h
      exact h
    rw [beq_eq_false_iff_ne.2 (by omega)]; rfl

set_option maxHeartbeats 400000 in
theorem swh_any (p s : ByteArray) (w : World) (hp1 : 1 ≤ p.size) (hp : p.size ≤ 1000) (hs : s.size ≤ 2000) :
    Calls Tryz.prog 29 #[.string p, .string s] w fun e w' => e = .returned (.bool (wholeB p.data.toList s.data.toList)) ∧ ∃ m, w' = w.drewN m := by
  have h1 := rem_any p s w hp1 hp hs
  have hl := remU_len p.data.toList s.data.toList (by simpa using hp1)
  have hq := whole_eq p.data.toList s.data.toList
  have h2 := fun W => son_any ⟨(remU p.data.toList s.data.toList).toArray⟩ W (by rw [mk_size, hl]; simp; have : s.data.size = s.size := rfl; omega)
  rw [show (ByteArray.mk (remU p.data.toList s.data.toList).toArray).data.toList = remU p.data.toList s.data.toList from rfl] at h2
  generalize wholeB p.data.toList s.data.toList = v at *
  generalize List.countP (· == 49) (remU p.data.toList s.data.toList) = q at *
  generalize ByteArray.mk (remU p.data.toList s.data.toList).toArray = R at *
  have H1 := Lib.hid h1
  have H2 := Lib.hid h2
  clear h1 h2 hl
  cases v
  all_goals
    go_enter Tryz.func29, Tryz.ntmps29
    go_wp2_with fail
    refine H1.out.mono ?_
    rintro e w1 ⟨rfl, m, rfl⟩
    go_wp2_with (go_at_call 43; refine (H2.out _).mono ?_; rintro e w' ⟨rfl, rfl⟩)
    go_ret
    exact ⟨rfl, m, rfl⟩

theorem restR_1 {p s : List UInt8} (h : polyB p = false) : restR p s = [] := by unfold restR; rw [if_neg (by simp [h])]
theorem restR_2 {p s : List UInt8} (h : bitsB 40 s = false) : restR p s = [] := by unfold restR; rw [if_neg (by simp [h])]
theorem restR_3 {p s : List UInt8} (h : ¬ p.length - 1 ≤ s.length) : restR p s = [] := by unfold restR; rw [if_neg (fun h' => h h'.2.2)]
theorem restR_4 {p s : List UInt8} (h1 : polyB p = true) (h2 : bitsB 40 s = true) (h : p.length - 1 ≤ s.length) : restR p s = remU p s := by unfold restR; rw [if_pos ⟨h1, h2, h⟩]
theorem poly_len {p : ByteArray} (h : polyB p.data.toList = true) : 2 ≤ p.size ∧ p.size ≤ 9 := by
  obtain ⟨Q, e, h1, h2, _⟩ := polyB_of h
  have hl : p.data.toList.length = p.size := by simp
  rw [e, txt_len, List.length_cons] at hl
  omega
theorem bits_len {m : Nat} {p : ByteArray} (h : bitsB m p.data.toList = true) : p.size ≤ m := by
  have hb : p.size ≤ m ∧ p.data.toList.all isBit = true := by simpa [bitsB] using h
  exact hb.1

theorem sealR_1 {p s : List UInt8} (h : polyB p = false) : sealR p s = [] := by unfold sealR; rw [if_neg (by simp [h])]
theorem sealR_2 {p s : List UInt8} (h : bitsB 40 (s ++ List.replicate (p.length - 1) 48) = false) : sealR p s = [] := by unfold sealR; rw [if_neg (by simp [h])]
theorem sealR_3 {p s : List UInt8} (h1 : polyB p = true) (h : bitsB 40 (s ++ List.replicate (p.length - 1) 48) = true) : sealR p s = s ++ remU p (s ++ List.replicate (p.length - 1) 48) := by unfold sealR; rw [if_pos ⟨h1, h⟩]
theorem app_list (s : ByteArray) (l : List UInt8) : s ++ ByteArray.mk l.toArray = ByteArray.mk (s.data.toList ++ l).toArray := by
  rw [← ByteArray.mk_append_mk, Lib.mk_data]

set_option maxHeartbeats 800000 in
theorem sSE_any (p s : ByteArray) (w : World) (hp : p.size ≤ 1048576) (hs : s.size ≤ 1048576) :
    Calls Tryz.prog 19 #[.string p, .string s] w fun e w' => e = .returned (.string ⟨(sealR p.data.toList s.data.toList).toArray⟩) ∧ ∃ m, w' = w.drewN m := by
  have h1 := svP_any p w (by unfold maxLen; omega)
  cases hv : polyB p.data.toList
  · rw [sealR_1 hv]
    rw [hv] at h1
    have H1 := Lib.hid h1
    clear h1 hv
    go_enter Tryz.func19, Tryz.ntmps19
    go_wp2_with (go_at_call 27; refine H1.out.mono ?_; rintro e w' ⟨rfl, rfl⟩)
    go_ret
    exact ⟨rfl, 0, rfl⟩
  · rw [hv] at h1
    have H1 := Lib.hid h1
    clear h1
    obtain ⟨q1, q2⟩ := poly_len hv
    have hz := sze_any ((p.size : Int) - 1) w (by omega) (by omega)
    have e0 : ((p.size : Int) - 1).toNat = p.data.toList.length - 1 := by simp
    rw [e0] at hz
    have hZ : (ByteArray.mk (List.replicate (p.data.toList.length - 1) (48 : UInt8)).toArray).size ≤ 8 := by rw [mk_size]; simp; have : p.data.size = p.size := rfl; omega
    have happ := app_list s (List.replicate (p.data.toList.length - 1) (48 : UInt8))
    generalize hR : List.replicate (p.data.toList.length - 1) (48 : UInt8) = Rz at *
    have hST : (s ++ ByteArray.mk Rz.toArray).size ≤ 1048600 := by rw [ByteArray.size_append]; omega
    have h2 := svb_any (s ++ ByteArray.mk Rz.toArray) w (by unfold maxLen; omega)
    have hdt : (s ++ ByteArray.mk Rz.toArray).data.toList = s.data.toList ++ Rz := by rw [happ]
    rw [hdt] at h2
    have H0 := Lib.hid hz
    clear hz
    cases hb : bitsB 40 (s.data.toList ++ Rz)
    · rw [sealR_2 (by rw [hR]; exact hb)]
      rw [hb] at h2
      have H2 := Lib.hid h2
      clear h2 hv hb hdt happ hR e0
      generalize ByteArray.mk Rz.toArray = Z at *
      go_enter Tryz.func19, Tryz.ntmps19
      go_wp2_with (first | (go_at_call 27; refine H1.out.mono ?_; rintro e w' ⟨rfl, rfl⟩) | (go_at_call 41; refine H0.out.mono ?_; rintro e w' ⟨rfl, rfl⟩) | (go_at_call 28; refine H2.out.mono ?_; rintro e w' ⟨rfl, rfl⟩))
      go_ret
      exact ⟨rfl, 0, rfl⟩
    · rw [sealR_3 hv (by rw [hR]; exact hb), hR]
      rw [hb] at h2
      have hs40 : (s ++ ByteArray.mk Rz.toArray).size ≤ 40 := bits_len (m := 40) (by rw [hdt]; exact hb)
      have h3 := rem_any p (s ++ ByteArray.mk Rz.toArray) w (by omega) (by omega) (by omega)
      have hrl := remU_len p.data.toList (s.data.toList ++ Rz) (by simp; have : p.data.size = p.size := rfl; omega)
      have happ2 := app_list s (remU p.data.toList (s.data.toList ++ Rz))
      rw [hdt] at h3
      have hRM : (ByteArray.mk (remU p.data.toList (s.data.toList ++ Rz)).toArray).size ≤ 8 := by rw [mk_size, hrl]; simp; have : p.data.size = p.size := rfl; omega
      rw [← happ2]
      have H2 := Lib.hid h2
      have H3 := Lib.hid h3
      clear h2 h3 hv hb hdt happ hR e0 happ2 hrl
      generalize ByteArray.mk (remU p.data.toList (s.data.toList ++ Rz)).toArray = R at *
      generalize ByteArray.mk Rz.toArray = Z at *
      go_enter Tryz.func19, Tryz.ntmps19
      go_wp2_with (first | (go_at_call 27; refine H1.out.mono ?_; rintro e w' ⟨rfl, rfl⟩) | (go_at_call 41; refine H0.out.mono ?_; rintro e w' ⟨rfl, rfl⟩) | (go_at_call 28; refine H2.out.mono ?_; rintro e w' ⟨rfl, rfl⟩))
      refine H3.out.mono ?_
      rintro e w1 ⟨rfl, m, rfl⟩
      go_wp2
      go_ret
      exact ⟨rfl, m, rfl⟩

theorem sealedB_1 {p s : List UInt8} (h : polyB p = false) : sealedB p s = false := by simp [sealedB, h]
theorem sealedB_2 {p s : List UInt8} (h : bitsB 40 s = false) : sealedB p s = false := by simp [sealedB, h]
theorem sealedB_3 {p s : List UInt8} (h : ¬ p.length - 1 ≤ s.length) : sealedB p s = false := by
  unfold sealedB; rw [decide_eq_false h]; simp
theorem sealedB_4 {p s : List UInt8} (h1 : polyB p = true) (h2 : bitsB 40 s = true) (h : p.length - 1 ≤ s.length) : sealedB p s = wholeB p s := by
  unfold sealedB; rw [decide_eq_true h, h1, h2]; simp

end Go.Proofs.YtndpbhmokobbpaaGreatDoor

namespace Go.Proofs.YtndpbhmokobbpaaGreatDoor
open Go.RowKit
set_option linter.unusedVariables false

/-- Below B nothing has turned, where what has is a row from B on and new blocks. -/
theorem below_grow8 {B g : Nat} {w w1 w2 : World} (h : Below B w w1) (hg : w1.grownBy w2 (some g)) (hB : B ≤ g) (hB2 : B ≤ w1.heap.size) : Below B w w2 :=
  h.grown hg hB2 (fun k hk => by cases hk; exact hB)

set_option maxHeartbeats 1600000 in
theorem iRO_any (p s : ByteArray) (w : World) (hp : p.size ≤ 1048576) (hs : s.size ≤ 1048600) :
    Calls Tryz.prog 56 #[.string p, .string s] w fun e w' => e = .returned (.string ⟨(restR p.data.toList s.data.toList).toArray⟩) ∧ Below w.heap.size w w' := by
  have h1 := fun W => iVP_any p W (by unfold maxLen; omega)
  have h2 := fun W => iVB_any s W (by unfold maxLen; omega)
  cases hv : polyB p.data.toList
  · rw [restR_1 hv]
    rw [hv] at h1
    have H1 := Lib.hid h1
    clear h1 h2 hv
    go_enter Tryz.func56, Tryz.ntmps56
    go_wp2_with (go_at_call 71; refine (H1.out _).mono ?_; rintro e w1 ⟨rfl, hb1⟩)
    go_ret
    exact ⟨rfl, hb1⟩
  · rw [hv] at h1
    have H1 := Lib.hid h1
    clear h1
    cases hb : bitsB 40 s.data.toList
    · rw [restR_2 hb]
      rw [hb] at h2
      have H2 := Lib.hid h2
      clear h2 hv hb
      go_enter Tryz.func56, Tryz.ntmps56
      go_wp2_with (first | (go_at_call 71; refine (H1.out _).mono ?_; rintro e w1 ⟨rfl, hb1⟩) | (go_at_call 47; refine (H2.out _).mono ?_; rintro e w2 ⟨rfl, hb2⟩))
      go_ret
      exact ⟨rfl, hb1.trans (hb2.mono hb1.size)⟩
    · have hp29 := poly_len hv
      have hs40 := bits_len hb
      obtain ⟨Q, hQ, hq1, hq2, hq3⟩ := polyB_of hv
      have hpb : p.data.toList.all isBit = true := by rw [hQ]; exact txt_bits _
      have hsb : s.data.toList.all isBit = true := by
        have : s.size ≤ 40 ∧ s.data.toList.all isBit = true := by simpa [bitsB] using hb
        exact this.2
      rw [hb] at h2
      have H2 := Lib.hid h2
      clear h2 hQ hq1 hq2 hq3
      have hsl : s.data.toList.length = s.size := by simp
      by_cases hl : p.data.toList.length - 1 ≤ s.data.toList.length
      · rw [restR_4 hv hb hl]
        have hl' : p.size - 1 ≤ s.size := by simpa using hl
        have hD := fun W cap hc ho => div_any p W (W.heap.size) cap s.size s.data.toList hsl hp29.1 hp29.2 hpb hsb (by omega) hl' hc ho
        have hD2 := fun W g cap hc ho => div_any p W g cap s.size s.data.toList hsl hp29.1 hp29.2 hpb hsb (by omega) hl' hc ho
        have hlen : (redU p.data.toList s.data.toList (s.size - (p.size - 1))).length = s.size := by
          have hpl : p.data.toList.length = p.size := by simp
          rw [redU_len p.data.toList s.data.toList (by omega) _ (by rw [hpl, hsl]; omega), hsl]
        have hrem : remU p.data.toList s.data.toList = (redU p.data.toList s.data.toList (s.size - (p.size - 1))).drop (s.size - (p.size - 1)) := by
          unfold remU
          rw [show p.data.toList.length = p.size from by simp, hsl]
        rw [hrem]
        have HD := Lib.hid hD2
        have HLEN := Lib.hid hlen
        clear hD hD2 hv hb hl hlen hrem hsl hpb hsb
        obtain ⟨q1, q2⟩ := hp29
        go_enter Tryz.func56, Tryz.ntmps56
        go_wp2_with (first | (go_at_call 71; refine (H1.out _).mono ?_; rintro e w1 ⟨rfl, hb1⟩) | (go_at_call 47; refine (H2.out _).mono ?_; rintro e w2 ⟨rfl, hb2⟩; obtain ⟨c, w3, hcv, hc, ho, hb3, hz3⟩ := conv_any w2 s; have HO := Lib.hid ho; clear ho))
        refine (HD.out w3 w2.heap.size c hc HO.out).mono ?_
        rintro e w4 ⟨rfl, ho4, hg4⟩
        have hbk := own_back (cap := c - (s.size - (p.size - 1))) (k := p.size - 1) (off := s.size - (p.size - 1)) ho4 (by rw [HLEN.out]; omega)
        clear hcv
        go_wp2
        go_ret
        have hb12 := hb1.trans (hb2.mono hb1.size)
        have hb13 := hb12.trans (hb3.mono hb12.size)
        exact ⟨rfl, below_grow8 hb13 hg4 hb12.size hb13.size⟩
      · rw [restR_3 hl]
        have hl' : ¬ p.size - 1 ≤ s.size := by simpa using hl
        have HD := Lib.hid (fun W A cap => div_few p A s.size cap W (by omega) (by omega) (by omega))
        have hnil := fun W => run_convert_bytes_nil (P := Tryz.prog) W 28 5 Tryz.underlying28 Tryz.underlying5 0 0 9 Tryz.underlying9
        clear hv hb hl hl' hsl hpb hsb
        obtain ⟨q1, q2⟩ := hp29
        go_enter Tryz.func56, Tryz.ntmps56
        go_wp2_with (first | (go_at_call 71; refine (H1.out _).mono ?_; rintro e w1 ⟨rfl, hb1⟩) | (go_at_call 47; refine (H2.out _).mono ?_; rintro e w2 ⟨rfl, hb2⟩; obtain ⟨c, w3, hcv, hc, ho, hb3, hz3⟩ := conv_any w2 s; clear ho) | (go_at_call 73; refine (HD.out _ _ _).mono ?_; rintro e w' ⟨rfl, rfl⟩))
        go_ret
        exact ⟨rfl, (hb1.trans (hb2.mono hb1.size)).trans (hb3.mono (hb1.trans (hb2.mono hb1.size)).size)⟩
end Go.Proofs.YtndpbhmokobbpaaGreatDoor
