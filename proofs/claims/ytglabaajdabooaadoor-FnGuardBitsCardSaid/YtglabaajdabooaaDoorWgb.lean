/-
  The walks of the functions that guard bits. Condition: what the two tables hold, and the lengths that are typed.
-/
import Derived.Test.YtglabaajdabooaaDoorWsg
namespace Go.Proofs.YtglabaajdabooaaDoor
open Go.RowKit
set_option linter.unusedVariables false

theorem arr_text {P : Program} {w : World} {e src dst : TypeId} {g cap : Nat} {l : List UInt8} (hs : P.underlying src = some (.slice e)) (he : P.underlying e = some (.int .u8)) (hd : P.underlying dst = some .string)
    (h : ∀ j, j < l.length → w.cell? ⟨g, j, none⟩ = some (.int .u8 ((l.getD j 0).toNat : Int))) : (convert src dst (.slice (some ⟨g, 0, none⟩) l.length cap)).run P w = .ok (.string ⟨l.toArray⟩) w := by
  refine run_convert_bytes_back w src dst e _ cap l hs he hd fun j hj => ?_
  have e : (⟨g, 0, none⟩ : Addr).add j = ⟨g, j, none⟩ := by unfold Addr.add; split <;> simp_all
  rw [e, h j hj]
  simp [List.getD_eq_getElem?_getD, List.getElem?_eq_getElem hj]
/-- What GuardBits gives. -/
def gdR (l : List UInt8) : ByteArray := if bitsB 40 l = true ∧ l.length = 4 then ⟨(gd7 fun k => l.getD k 0).toArray⟩ else ByteArray.empty
theorem bytes_at (s : ByteArray) (k : Nat) (hk : k < s.size) : s[k] = s.data.toList.getD k 0 := by
  have h : k < s.data.toList.length := by simpa using hk
  rw [List.getD_eq_getElem?_getD, List.getElem?_eq_getElem h]
  simp
  rfl
theorem bits_at {s : ByteArray} (h : bitsB 40 s.data.toList = true) (hs : s.size = 4) : ∀ k, k < 4 → s.data.toList.getD k 0 = 48 ∨ s.data.toList.getD k 0 = 49 := by
  intro k hk
  have ha : s.data.toList.length ≤ 40 ∧ s.data.toList.all isBit = true := by simpa [bitsB] using h
  have hl : k < s.data.toList.length := by
    have : s.data.toList.length = s.size := by simp
    omega
  rw [List.getD_eq_getElem?_getD, List.getElem?_eq_getElem hl]
  exact isBit_cases (List.all_eq_true.1 ha.2 _ (List.getElem_mem hl))

set_option maxHeartbeats 1600000 in
theorem sGB_any (s : ByteArray) (w : World) (hs : s.size ≤ maxLen) :
    Calls Tryd.prog 7 #[.string s] w fun e w' => e = .returned (.string (gdR s.data.toList)) ∧ Below w.heap.size w w' := by
  have h1 := svb_any s w hs
  have hpl0 : s.data.toList.length = s.size := by simp
  unfold gdR
  rw [hpl0]
  cases hv : bitsB 40 s.data.toList
  · rw [hv] at h1
    have H1 := Lib.hid h1
    clear h1
    rw [if_neg (by simp)]
    go_enter Tryd.func7, Tryd.ntmps7
    go_wp2_with (go_at_call 14; refine H1.out.mono ?_; rintro e w' ⟨rfl, rfl⟩)
    go_ret
    exact ⟨rfl, Below.refl _ _⟩
  · rw [hv] at h1
    have H1 := Lib.hid h1
    clear h1
    by_cases h4 : s.size = 4
    · rw [if_pos ⟨rfl, h4⟩]
      have HG := Lib.hid (sgd_any w s (fun k => s.data.toList.getD k 0) h4 (fun k hk => bytes_at s k hk) (bits_at hv h4))
      generalize (⟨(gd7 fun k => s.data.toList.getD k 0).toArray⟩ : ByteArray) = R at *
      have h4i : (s.size : Int) = 4 := by omega
      clear hv h4 hpl0
      go_enter Tryd.func7, Tryd.ntmps7
      go_wp2_with (first | (go_at_call 14; refine H1.out.mono ?_; rintro e w' ⟨rfl, rfl⟩) | (go_at_call 15; refine HG.out.mono ?_; rintro e w' ⟨rfl, hb⟩))
      go_ret
      exact ⟨rfl, hb⟩
    · rw [if_neg (by simp [h4])]
      have h4i : ¬ (s.size : Int) = 4 := by omega
      have h4b : ((s.size : Int) == 4) = false := by simpa using h4i
      clear hv hpl0
      go_enter Tryd.func7, Tryd.ntmps7
      go_wp2_with (go_at_call 14; refine H1.out.mono ?_; rintro e w' ⟨rfl, rfl⟩)
      go_ret
      exact ⟨rfl, Below.refl _ _⟩

set_option maxHeartbeats 1600000 in
theorem iGB_any (s : ByteArray) (w : World) (hs : s.size ≤ maxLen) (ht : Tabs w) :
    Calls Tryd.prog 8 #[.string s] w fun e w' => e = .returned (.string (gdR s.data.toList)) ∧ Below w.heap.size w w' := by
  have h1 := iVB_any s w hs
  have hpl0 : s.data.toList.length = s.size := by simp
  unfold gdR
  rw [hpl0]
  by_cases h4 : s.size = 4
  · have h4i : (s.size : Int) = 4 := by omega
    cases hv : bitsB 40 s.data.toList
    · rw [hv] at h1
      have H1 := Lib.hid h1
      clear h1
      rw [if_neg (by simp)]
      go_enter Tryd.func8, Tryd.ntmps8
      go_wp2_with (go_at_call 16; refine H1.out.mono ?_; rintro e w1 ⟨rfl, hb1⟩)
      go_ret
      exact ⟨rfl, hb1⟩
    · rw [hv] at h1
      have H1 := Lib.hid h1
      clear h1
      rw [if_pos ⟨rfl, h4⟩]
      have HG := Lib.hid (fun W hT => igd_any W hT s (fun k => s.data.toList.getD k 0) h4 (fun k hk => bytes_at s k hk) (bits_at hv h4))
      have HT := Lib.hid ht
      have h7 : (gd7 fun k => s.data.toList.getD k 0).length = 7 := rfl
      generalize (gd7 fun k => s.data.toList.getD k 0) = R at *
      have h78 : (u8s R).size = 7 := by simp [u8s, h7]
      clear hv h4 hpl0 ht
      go_enter Tryd.func8, Tryd.ntmps8
      go_wp2_with (go_at_call 16; refine H1.out.mono ?_; rintro e w1 ⟨rfl, hb1⟩)
      refine (HG.out _ (HT.out.below hb1 HT.out.sz)).mono ?_
      rintro e w2 ⟨rfl, hb2⟩
      have hg2 := heap_alloc_new w2 (.cells #[.int .u8 0, .int .u8 0, .int .u8 0, .int .u8 0, .int .u8 0, .int .u8 0, .int .u8 0] 31)
      have HG2 := Lib.hid hg2
      have hcv := arr_text (P := Tryd.prog) (w := (w2.alloc (.cells #[.int .u8 0, .int .u8 0, .int .u8 0, .int .u8 0, .int .u8 0, .int .u8 0, .int .u8 0] 31)).setRow w2.heap.size (u8s R)) (src := 26) (dst := 9) (g := w2.heap.size) (cap := 7) (l := R) Tryd.underlying26 Tryd.underlying5 Tryd.underlying9 (fun j hj => by
        rw [cell_setRow_same _ _ _ _ _ _ _ hg2]
        simp [u8s, List.getD_eq_getElem?_getD, List.getElem?_eq_getElem hj])
      rw [h7] at hcv
      have HB := Lib.hid (hb1.trans (hb2.mono hb1.size))
      clear hg2 hb1 hb2
      go_wp2_with ((refine wpList_store_row rfl 31 (.tmp 3) (.tmp 13) rfl w2.heap.size (u8s R) rfl rfl 31 #[.int .u8 0, .int .u8 0, .int .u8 0, .int .u8 0, .int .u8 0, .int .u8 0, .int .u8 0] HG2.out (by rw [h78]; exact info31) (by rw [h78]; rfl) (u8s_one _) ?_))
      go_ret
      exact ⟨rfl, (HB.out.alloc HB.out.size _).trans ⟨rfl, rfl, rfl, by simp [World.setRow], fun k hk => setRow_other _ _ _ _ (by have := HB.out.size; omega)⟩⟩
  · rw [if_neg (by simp [h4])]
    have h4i : ¬ (s.size : Int) = 4 := by omega
    have h4b : ((s.size : Int) == 4) = false := by simpa using h4i
    clear h1
    go_enter Tryd.func8, Tryd.ntmps8
    go_wp2_with fail
    go_ret
    exact ⟨rfl, Below.refl _ _⟩
end Go.Proofs.YtglabaajdabooaaDoor
