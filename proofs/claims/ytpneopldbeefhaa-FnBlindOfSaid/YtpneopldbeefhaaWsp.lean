/-
  The walks of the model's functions on rests and seals. Conditions: the lengths that are typed.
-/
import Derived.Test.YtpneopldbeefhaaWrem
namespace Go.Proofs.Ytpneopldbeefhaa
open Go.RowKit
set_option linter.unusedVariables false

theorem whole_eq (p s : List UInt8) : ((((remU p s).countP (· == 49) : Nat) : Int) == 0) = wholeB p s := by
  unfold wholeB
  cases h : (remU p s).any (· == 49)
  · have : (remU p s).countP (· == 49) = 0 := by
      rw [List.countP_eq_zero]
      intro a ha hb
      rw [List.any_eq_false] at h
      exact h a ha hb
    rw [this]; rfl
  · have : 0 < (remU p s).countP (· == 49) := by
      rw [List.countP_pos_iff]
      rw [List.any_eq_true] at h
      exact h
    rw [beq_eq_false_iff_ne.2 (by omega)]; rfl

set_option maxHeartbeats 400000 in
theorem swh_any (p s : ByteArray) (w : World) (hp1 : 1 ≤ p.size) (hp : p.size ≤ 1000) (hs : s.size ≤ 2000) :
    Calls Try.prog 22 #[.string p, .string s] w fun e w' => e = .returned (.bool (wholeB p.data.toList s.data.toList)) ∧ ∃ m, w' = w.drewN m := by
  have h1 := rem_any p s w hp1 hp hs
  have hl := remU_len p.data.toList s.data.toList (by simpa using hp1)
  have hq := whole_eq p.data.toList s.data.toList
  have h2 := fun W => son_any ⟨(remU p.data.toList s.data.toList).toArray⟩ W (by rw [mk_size, hl]; simp; have : s.data.size = s.size := rfl; omega)
  rw [show (ByteArray.mk (remU p.data.toList s.data.toList).toArray).data.toList = remU p.data.toList s.data.toList from rfl] at h2
  generalize wholeB p.data.toList s.data.toList = v at *
  generalize List.countP (· == 49) (remU p.data.toList s.data.toList) = q at *
  generalize ByteArray.mk (remU p.data.toList s.data.toList).toArray = R at *
  have H1 := Lib.hid h1
  have H2 := Lib.hid h2
  clear h1 h2 hl
  cases v
  all_goals
    go_enter Try.func22, Try.ntmps22
    go_wp2_with fail
    refine H1.out.mono ?_
    rintro e w1 ⟨rfl, m, rfl⟩
    go_wp2_with (go_at_call 37; refine (H2.out _).mono ?_; rintro e w' ⟨rfl, rfl⟩)
    go_ret
    exact ⟨rfl, m, rfl⟩

theorem restR_1 {p s : List UInt8} (h : polyB p = false) : restR p s = [] := by unfold restR; rw [if_neg (by simp [h])]
theorem restR_2 {p s : List UInt8} (h : bitsB 40 s = false) : restR p s = [] := by unfold restR; rw [if_neg (by simp [h])]
theorem restR_3 {p s : List UInt8} (h : ¬ p.length - 1 ≤ s.length) : restR p s = [] := by unfold restR; rw [if_neg (fun h' => h h'.2.2)]
theorem restR_4 {p s : List UInt8} (h1 : polyB p = true) (h2 : bitsB 40 s = true) (h : p.length - 1 ≤ s.length) : restR p s = remU p s := by unfold restR; rw [if_pos ⟨h1, h2, h⟩]
theorem poly_len {p : ByteArray} (h : polyB p.data.toList = true) : 2 ≤ p.size ∧ p.size ≤ 9 := by
  obtain ⟨Q, e, h1, h2, _⟩ := polyB_of h
  have hl : p.data.toList.length = p.size := by simp
  rw [e, txt_len, List.length_cons] at hl
  omega
theorem bits_len {m : Nat} {p : ByteArray} (h : bitsB m p.data.toList = true) : p.size ≤ m := by
  have hb : p.size ≤ m ∧ p.data.toList.all isBit = true := by simpa [bitsB] using h
  exact hb.1

theorem sealR_1 {p s : List UInt8} (h : polyB p = false) : sealR p s = [] := by unfold sealR; rw [if_neg (by simp [h])]
theorem sealR_2 {p s : List UInt8} (h : bitsB 40 (s ++ List.replicate (p.length - 1) 48) = false) : sealR p s = [] := by unfold sealR; rw [if_neg (by simp [h])]
theorem sealR_3 {p s : List UInt8} (h1 : polyB p = true) (h : bitsB 40 (s ++ List.replicate (p.length - 1) 48) = true) : sealR p s = s ++ remU p (s ++ List.replicate (p.length - 1) 48) := by unfold sealR; rw [if_pos ⟨h1, h⟩]
theorem app_list (s : ByteArray) (l : List UInt8) : s ++ ByteArray.mk l.toArray = ByteArray.mk (s.data.toList ++ l).toArray := by
  rw [← ByteArray.mk_append_mk, Lib.mk_data]

theorem sealedB_1 {p s : List UInt8} (h : polyB p = false) : sealedB p s = false := by simp [sealedB, h]
theorem sealedB_2 {p s : List UInt8} (h : bitsB 40 s = false) : sealedB p s = false := by simp [sealedB, h]
theorem sealedB_3 {p s : List UInt8} (h : ¬ p.length - 1 ≤ s.length) : sealedB p s = false := by
  unfold sealedB; rw [decide_eq_false h]; simp
theorem sealedB_4 {p s : List UInt8} (h1 : polyB p = true) (h2 : bitsB 40 s = true) (h : p.length - 1 ≤ s.length) : sealedB p s = wholeB p s := by
  unfold sealedB; rw [decide_eq_true h, h1, h2]; simp

end Go.Proofs.Ytpneopldbeefhaa
