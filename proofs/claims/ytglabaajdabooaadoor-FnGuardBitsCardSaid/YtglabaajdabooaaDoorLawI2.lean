/-
  The walk of the law FnExactMendBits: it returns true at every text. Condition: what the two tables hold.
-/
import Derived.Test.YtglabaajdabooaaDoorWms
namespace Go.Proofs.YtglabaajdabooaaDoor
open Go.RowKit
set_option linter.unusedVariables false

/-- What MendBits gives. -/
def mbR (l : List UInt8) : ByteArray × Int := if bitsB 40 l = true ∧ l.length = 7 then mendR (fun j => l.getD j 0) else (ByteArray.empty, -1)
theorem list7 {l : List UInt8} (h : l.length = 7) : ∃ c0 c1 c2 c3 c4 c5 c6, l = [c0, c1, c2, c3, c4, c5, c6] := by
  match l, h with
  | [c0, c1, c2, c3, c4, c5, c6], _ => exact ⟨c0, c1, c2, c3, c4, c5, c6, rfl⟩
theorem ba_list {s : ByteArray} {l : List UInt8} (h : s.data.toList = l) : s = ⟨l.toArray⟩ := by
  apply ByteArray.ext
  rw [← h]

set_option maxHeartbeats 1600000 in
theorem iMB_any (s : ByteArray) (w : World) (hs : s.size ≤ maxLen) (ht : Tabs w) :
    Calls Tryd.prog 10 #[.string s] w fun e w' => e = .returned (.tuple #[.string (mbR s.data.toList).1, .int .i64 (mbR s.data.toList).2]) ∧ Below w.heap.size w w' := by
  have h1 := iVB_any s w hs
  have hpl0 : s.data.toList.length = s.size := by simp
  unfold mbR
  rw [hpl0]
  by_cases h7 : s.size = 7
  · cases hv : bitsB 40 s.data.toList
    · rw [hv] at h1
      have H1 := Lib.hid h1
      have hsi : (s.size : Int) = 7 := by omega
      clear h1
      rw [if_neg (by simp)]
      go_enter Tryd.func10, Tryd.ntmps10
      go_wp2_with (go_at_call 16; refine H1.out.mono ?_; rintro e w1 ⟨rfl, hb1⟩)
      go_ret2
      exact ⟨rfl, hb1⟩
    · rw [if_pos ⟨rfl, h7⟩]
      obtain ⟨c0, c1, c2, c3, c4, c5, c6, hl⟩ := list7 (hpl0.trans h7)
      rw [hl] at hv ⊢
      exact iMB_yes s c0 c1 c2 c3 c4 c5 c6 _ rfl w hl (by rw [hl]; exact hv) h7 ht
  · rw [if_neg (by simp [h7])]
    have h7i : ((s.size : Int) == 7) = false := by simp; omega
    have h7n : ((s.size : Int) != 7) = true := by simp; omega
    clear h1
    go_enter Tryd.func10, Tryd.ntmps10
    go_wp2_with fail
    go_ret2
    exact ⟨rfl, Below.refl _ _⟩
set_option maxHeartbeats 1600000 in
theorem sMB_any (s : ByteArray) (w : World) (hs : s.size ≤ maxLen) :
    Calls Tryd.prog 9 #[.string s] w fun e w' => e = .returned (.tuple #[.string (mbR s.data.toList).1, .int .i64 (mbR s.data.toList).2]) ∧ Below w.heap.size w w' := by
  have h1 := svb_any s w hs
  have hpl0 : s.data.toList.length = s.size := by simp
  unfold mbR
  rw [hpl0]
  cases hv : bitsB 40 s.data.toList
  · rw [hv] at h1
    have H1 := Lib.hid h1
    clear h1
    rw [if_neg (by simp)]
    go_enter Tryd.func9, Tryd.ntmps9
    go_wp2_with (go_at_call 14; refine H1.out.mono ?_; rintro e w' ⟨rfl, rfl⟩)
    go_ret2
    exact ⟨rfl, Below.refl _ _⟩
  · by_cases h7 : s.size = 7
    · rw [if_pos ⟨rfl, h7⟩]
      obtain ⟨c0, c1, c2, c3, c4, c5, c6, hl⟩ := list7 (hpl0.trans h7)
      rw [hl] at hv ⊢
      have hs' := ba_list hl
      rw [hs']
      exact sMB_yes c0 c1 c2 c3 c4 c5 c6 _ rfl w hv
    · rw [if_neg (by simp [h7])]
      rw [hv] at h1
      have H1 := Lib.hid h1
      have h7i : ((s.size : Int) == 7) = false := by simp; omega
      have h7n : ((s.size : Int) != 7) = true := by simp; omega
      clear h1
      go_enter Tryd.func9, Tryd.ntmps9
      go_wp2_with (go_at_call 14; refine H1.out.mono ?_; rintro e w' ⟨rfl, rfl⟩)
      go_ret2
      exact ⟨rfl, Below.refl _ _⟩

set_option maxHeartbeats 800000 in
theorem fnExactMendBits_walk (s : ByteArray) (w : World) (hs : s.size ≤ maxLen) (ht : Tabs w) :
    Calls Tryd.prog 4 #[.string s] w fun e w' => e = .returned (.bool true) ∧ Below w.heap.size w w' := by
  by_cases hg : (1048576 : Int) < (s.size : Int)
  · go_enter Tryd.func4, Tryd.ntmps4
    go_wp2_with fail
    go_ret
    exact ⟨rfl, Below.refl _ _⟩
  · have H1 := Lib.hid (sMB_any s w hs)
    have H2 := Lib.hid (fun W hT => iMB_any s W hs hT)
    have HT := Lib.hid ht
    clear ht
    generalize mbR s.data.toList = R at *
    obtain ⟨r0, r1⟩ := R
    go_enter Tryd.func4, Tryd.ntmps4
    go_wp2_with fail
    refine H1.out.mono ?_
    rintro e w1 ⟨rfl, hb1⟩
    have H3 := Lib.hid (H2.out w1 (HT.out.below hb1 HT.out.sz))
    clear H1 H2
    go_wp2_with (go_at_call 10; refine H3.out.mono ?_; rintro e w2 ⟨rfl, hb2⟩)
    go_ret
    exact ⟨rfl, hb1.trans (hb2.mono hb1.size)⟩
end Go.Proofs.YtglabaajdabooaaDoor
