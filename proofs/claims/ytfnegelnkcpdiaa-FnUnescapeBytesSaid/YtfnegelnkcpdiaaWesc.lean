/-
  The walks of the functions that escape bytes. Conditions: where the lists lie, and the lengths that are typed.
-/
import Derived.Test.YtfnegelnkcpdiaaVbyt
namespace Go.Proofs.Ytfnegelnkcpdiaa
open Go.RowKit
set_option linter.unusedVariables false

/-- Behind an append onto an own row what was there before is as it was. -/
theorem push_below {B : Nat} {w W w1 : World} {e n : Nat} {v : Value} {xs : List Value} {o : Obj} (hown : W.ownsRow B e 1 v n xs) (hg : (W.alloc o).grownBy w1 v.ownBlock) (hb : Below B w W) (hB : B ≤ W.heap.size) : Below B w w1 ∧ B ≤ w1.heap.size := by
  refine ⟨(hb.alloc hB o).grown hg (by simp; omega) (fun j hj => (hown.lt j hj).1), ?_⟩
  have := hg.size
  simp at this; omega
theorem two_cells (x y : Value) (hx : x.oneCell' = true) (hy : y.oneCell' = true) : ∀ u ∈ [x, y], u.oneCell' = true := by
  intro u hu; simp at hu; rcases hu with rfl | rfl <;> assumption
theorem ownI_snoc {w1 : World} {B e : Nat} {v : Value} {l : List Int} {x : Int} (h : w1.ownsRow B e 1 v (l.length + 1) (ints l ++ [.int .i64 x])) : w1.ownsRow B e 1 v (l ++ [x]).length (ints (l ++ [x])) := by
  rw [ints_app]; simpa [ints] using h
theorem ownI_snoc2 {w1 : World} {B e : Nat} {v : Value} {l : List Int} {x y : Int} (h : w1.ownsRow B e 1 v (l.length + 2) (ints l ++ [.int .i64 x, .int .i64 y])) : w1.ownsRow B e 1 v (l ++ [x, y]).length (ints (l ++ [x, y])) := by
  rw [ints_app]; simpa [ints] using h

/-- What EscapeBytes gives. -/
def escR (l : List Int) : List Int := if bytesB 16 l = true then escs l ++ [192] else []
theorem mx : maxLen = 9223372036854775807 := rfl
theorem escB_192 : escB 192 = [219, 220] := rfl
theorem escB_219 : escB 219 = [219, 221] := rfl
theorem escB_else {x : Int} (h1 : x ≠ 192) (h2 : x ≠ 219) : escB x = [x] := by simp [escB, h1, h2]

set_option maxHeartbeats 1600000 in
theorem sEB_yes (w : World) (b off c n : Nat) (xs : List Int) (hn : xs.length = n) (h : At w b off xs) (hv : bytesB 16 xs = true) :
    Calls Try.prog 7 #[.slice (some ⟨b, off, none⟩) n c] w
      fun e w' => ∃ v, e = .returned v ∧ w'.ownsRow w.heap.size 3 1 v (escs xs ++ [192]).length (ints (escs xs ++ [192])) ∧ Below w.heap.size w w' := by
  have hlen : xs.length ≤ 16 := by simp [bytesB] at hv; exact hv.1
  have h1 := svy_at w b off c n 16 xs hn (by omega) (by omega) h
  rw [hv] at h1
  have H1 : Hid (Calls Try.prog 18 #[.slice (some ⟨b, off, none⟩) n c, .int .i64 16] w fun e w' => e = .returned (.bool true) ∧ w = w') := h1
  obtain ⟨i0, hi, hz0, hz1, hz2⟩ := info_parts info3
  have HI := Lib.hid hi
  have HZ0 := Lib.hid hz0
  have HZ1 := Lib.hid hz1
  have HZ2 := Lib.hid hz2
  have HN := Lib.hid hn
  have HC := Lib.hid h.2
  have hb := h.1
  have hn16 : n ≤ 16 := by omega
  clear hi hz0 hz1 hz2 h hn hv h1 hlen
  go_enter Try.func7, Try.ntmps7
  go_wp2_with (go_at_call 18; refine H1.out.mono ?_; rintro e w' ⟨rfl, rfl⟩)
  go_loopw [3, 4] (fun v i wr => ∃ k : Nat, k ≤ n ∧ i = .int .i64 k ∧ wr.ownsRow w.heap.size 3 1 v (escs (xs.take k)).length (ints (escs (xs.take k))) ∧ Below w.heap.size w wr ∧ w.heap.size ≤ wr.heap.size) (fun _ i _ => n - (intOf i).toNat)
  case atStart =>
    refine ⟨0, Nat.zero_le _, rfl, ?_, (Below.refl _ _).alloc (Nat.le_refl _) _, by simp⟩
    exact World.ownsRow_made w #[] 0 (Nat.le_refl _) (by unfold maxLen; omega) rfl
  case round =>
    obtain ⟨k, hk, rfl, hown, hbel, hsz⟩ := hrel
    have hel := (escs_len (xs.take k)).2
    have hel2 : (xs.take k).length ≤ k := List.length_take_le _ _
    by_cases hlt : k < n
    · have hkx : k < xs.length := by have := HN.out; omega
      have hc1 := (hbel.cell (p := ⟨b, off + k, none⟩) hb).trans (HC.out k hkx)
      have HS : Hid (escs (xs.take (k + 1)) = escs (xs.take k) ++ escB (xs.getD k 0)) := by rw [takeI_snoc xs k hkx, escs_snoc]; rfl
      clear hkx
      generalize xs.getD k 0 = x at *
      generalize escs (xs.take k) = o at *
      have hol : o.length ≤ 32 := by omega
      clear hel hel2
      cases h192 : (x == 192)
      · cases h219 : (x == 219)
        · have e : escB x = [x] := escB_else (by simpa using h192) (by simpa using h219)
          have HE := Lib.hid e
          clear e
          go_wp2_with (at_builtin; refine wpList_append_own _ rfl (.tmp 19) (.tmp 24) 22 rfl w.heap.size 3 i0 (.int .i64 0) 1 8 Try.underlying22 HI.out HZ0.out HZ1.out HZ2.out rfl (by decide) _ _ _ rfl (hown.alloc _) ⟨wr.heap.size, 0, none⟩ 1 1 [.int .i64 x] rfl rfl (cell_one_new _ _ _) (one_cell _ rfl) (by rw [mx]; omega) (by omega) (by simp; omega) ?_; intro v1 w1 hown1 hg1 hnil; clear hnil)
          have R := push_below hown hg1 hbel hsz
          go_roundw
          case rel => exact ⟨k + 1, by omega, by go_num, by rw [HS.out, HE.out]; exact ownI_snoc hown1, R.1, R.2⟩
          case measure => simp [intOf]; omega
        · have e : x = 219 := by simpa using h219
          subst e
          go_wp2_with (at_builtin; refine wpList_append_own _ rfl (.tmp 33) (.tmp 34) 22 rfl w.heap.size 3 i0 (.int .i64 0) 1 8 Try.underlying22 HI.out HZ0.out HZ1.out HZ2.out rfl (by decide) _ _ _ rfl (hown.alloc _) ⟨wr.heap.size, 0, none⟩ 2 2 [.int .i64 219, .int .i64 221] rfl rfl (cell_two_new _ _ _ _) (two_cells _ _ rfl rfl) (by rw [mx]; omega) (by omega) (by simp; omega) ?_; intro v1 w1 hown1 hg1 hnil; clear hnil)
          have R := push_below hown hg1 hbel hsz
          go_roundw
          case rel => exact ⟨k + 1, by omega, by go_num, by rw [HS.out, escB_219]; exact ownI_snoc2 hown1, R.1, R.2⟩
          case measure => simp [intOf]; omega
      · have e : x = 192 := by simpa using h192
        subst e
        go_wp2_with (at_builtin; refine wpList_append_own _ rfl (.tmp 28) (.tmp 29) 22 rfl w.heap.size 3 i0 (.int .i64 0) 1 8 Try.underlying22 HI.out HZ0.out HZ1.out HZ2.out rfl (by decide) _ _ _ rfl (hown.alloc _) ⟨wr.heap.size, 0, none⟩ 2 2 [.int .i64 219, .int .i64 220] rfl rfl (cell_two_new _ _ _ _) (two_cells _ _ rfl rfl) (by rw [mx]; omega) (by omega) (by simp; omega) ?_; intro v1 w1 hown1 hg1 hnil; clear hnil)
        have R := push_below hown hg1 hbel hsz
        go_roundw
        case rel => exact ⟨k + 1, by omega, by go_num, by rw [HS.out, escB_192]; exact ownI_snoc2 hown1, R.1, R.2⟩
        case measure => simp [intOf]; omega
    · have e : xs.take k = xs := List.take_of_length_le (by have := HN.out; omega)
      rw [e] at hown hel
      have hel3 : xs.length ≤ 16 := by have := HN.out; omega
      clear e hel2
      generalize ho : escs xs = o at *
      have HO := Lib.hid ho
      clear ho
      have hol : o.length ≤ 32 := by omega
      clear hel hel3
      go_wp2_with (at_builtin; refine wpList_append_own _ rfl (.tmp 36) (.tmp 37) 22 rfl w.heap.size 3 i0 (.int .i64 0) 1 8 Try.underlying22 HI.out HZ0.out HZ1.out HZ2.out rfl (by decide) _ _ _ rfl (hown.alloc _) ⟨wr.heap.size, 0, none⟩ 1 1 [.int .i64 192] rfl rfl (cell_one_new _ _ _) (one_cell _ rfl) (by rw [mx]; omega) (by omega) (by simp; omega) ?_; intro v1 w1 hown1 hg1 hnil; clear hnil)
      have R := push_below hown hg1 hbel hsz
      go_ret
      exact ⟨v1, rfl, by rw [HO.out]; exact ownI_snoc hown1, R.1⟩

set_option maxHeartbeats 400000 in
theorem sEB_no (w : World) (b off c n : Nat) (xs : List Int) (hn : xs.length = n) (hn2 : n ≤ 1048576) (h : At w b off xs) (hv : bytesB 16 xs = false) :
    Calls Try.prog 7 #[.slice (some ⟨b, off, none⟩) n c] w fun e w' => e = .returned (.slice none 0 0) ∧ w = w' := by
  have h1 := svy_at w b off c n 16 xs hn hn2 (by omega) h
  rw [hv] at h1
  have H1 : Hid (Calls Try.prog 18 #[.slice (some ⟨b, off, none⟩) n c, .int .i64 16] w fun e w' => e = .returned (.bool false) ∧ w = w') := h1
  clear h1 hv h
  go_enter Try.func7, Try.ntmps7
  go_wp2_with (go_at_call 18; refine H1.out.mono ?_; rintro e w' ⟨rfl, rfl⟩)
  go_ret
  exact ⟨rfl, rfl⟩
set_option maxHeartbeats 400000 in
theorem sEB_nil (w : World) (A : Option Addr) (c : Nat) :
    Calls Try.prog 7 #[.slice A 0 c] w
      fun e w' => ∃ v, e = .returned v ∧ w'.ownsRow w.heap.size 3 1 v 1 (ints [192]) ∧ Below w.heap.size w w' := by
  have H1 : Hid (Calls Try.prog 18 #[.slice A 0 c, .int .i64 16] w fun e w' => e = .returned (.bool true) ∧ w = w') := svy_nil w A c 16
  obtain ⟨i0, hi, hz0, hz1, hz2⟩ := info_parts info3
  have hown := World.ownsRow_made (base := w.heap.size) (e := 3) (size := 1) w #[] 0 (Nat.le_refl _) (by unfold maxLen; omega) rfl
  go_enter Try.func7, Try.ntmps7
  go_wp2_with (go_at_call 18; refine H1.out.mono ?_; rintro e w' ⟨rfl, rfl⟩)
  refine wp_loop_rounds 1 ?_
  rw [rounds_succ]
  go_wp2_with (at_builtin; refine wpList_append_own _ rfl (.tmp 36) (.tmp 37) 22 rfl w.heap.size 3 i0 (.int .i64 0) 1 8 Try.underlying22 hi hz0 hz1 hz2 rfl (by decide) _ _ _ rfl (hown.alloc _) ⟨w.heap.size + 1, 0, none⟩ 1 1 [.int .i64 192] rfl rfl (by simpa using cell_one_new (w.alloc (.cells #[] 3)) (.int .i64 192) 3) (one_cell _ rfl) (by rw [mx]; omega) (by omega) (by simp; omega) ?_; intro v1 w1 hown1 hg1 hnil; clear hnil)
  have R := push_below hown hg1 ((Below.refl _ w).alloc (Nat.le_refl _) _) (by simp)
  go_ret
  exact ⟨v1, rfl, hown1, R.1⟩

/-- spec.EscapeBytes leaves escR in memory of its own. -/
theorem sEB_any (w : World) (v : Value) (xs : List Int) (h : Rds w v xs) (hn : xs.length ≤ 1048576) :
    Calls Try.prog 7 #[v] w
      fun e w' => ∃ u, e = .returned u ∧ w'.ownsRow w.heap.size 3 1 u (escR xs).length (ints (escR xs)) ∧ Below w.heap.size w w' := by
  obtain ⟨A, c, rfl, h1⟩ := h
  rcases Nat.eq_zero_or_pos xs.length with h0 | h0
  · obtain rfl : xs = [] := List.eq_nil_of_length_eq_zero h0
    exact sEB_nil w A c
  · obtain ⟨b, off, rfl, ha⟩ := h1 h0
    unfold escR
    by_cases hv : bytesB 16 xs = true
    · rw [if_pos hv]; exact sEB_yes w b off c xs.length xs rfl ha hv
    · rw [if_neg hv]
      exact (sEB_no w b off c xs.length xs rfl hn ha (by simpa using hv)).mono fun e w' ⟨he, hw⟩ => ⟨_, he, World.ownsRow_nil _ _ _ _, by rw [hw]; exact Below.refl _ _⟩

/-- Block g is a row of bytes that holds the value v. -/
def Hold (w : World) (g : Nat) (v : Value) : Prop := w.heap[g]? = some (.cells #[v] 34 (0, 0))
theorem Hold.c {w : World} {g : Nat} {v : Value} (h : Hold w g v) : w.cell? ⟨g, 0, none⟩ = some v := cell_of_row w g 0 _ _ (0, 0) h
theorem Hold.f {w : World} {g i : Nat} {v : Value} (h : Hold w g v) : w.frozen? ⟨g, i, none⟩ = false := by
  unfold Hold at h
  simp [World.frozen?, h]
theorem Hold.lt {w : World} {g : Nat} {v : Value} (h : Hold w g v) : g < w.heap.size := (Array.getElem?_eq_some_iff.1 h).1
theorem Hold.ne {w : World} {B g n : Nat} {v u : Value} {xs : List Value} (h : Hold w g v) (hown : w.ownsRow B 3 1 u n xs) : u.ownBlock ≠ some g := by
  intro he
  rcases hown.2 with ⟨rfl, _⟩ | ⟨g', cap, cur, rfl, _, hh, _⟩
  · simp [Value.ownBlock] at he
  · simp [Value.ownBlock] at he
    subst he
    unfold Hold at h
    rw [h] at hh
    cases hh

set_option maxHeartbeats 800000 in
/-- put puts a number behind those of the row. -/
theorem put_any (w : World) (B g : Nat) (v : Value) (xs : List Int) (x : Int) (hl : xs.length ≤ 1048576) (hh : Hold w g v) (hB : B ≤ g) (hown : w.ownsRow B 3 1 v xs.length (ints xs)) :
    Calls Try.prog 20 #[.pointer (some ⟨g, 0, none⟩), .int .i64 x] w
      fun e w' => e = .returned (.tuple #[]) ∧ ∃ v', Hold w' g v' ∧ w'.ownsRow B 3 1 v' (xs ++ [x]).length (ints (xs ++ [x])) ∧ Below B w w' := by
  obtain ⟨i0, hi, hz0, hz1, hz2⟩ := info_parts info3
  have h0 := hh.c
  have hlt := hh.lt
  have hne := hh.ne hown
  have HH := Lib.hid hh
  have HNE := Lib.hid hne
  have HI := Lib.hid hi
  have HZ0 := Lib.hid hz0
  have HZ1 := Lib.hid hz1
  have HZ2 := Lib.hid hz2
  have HO := Lib.hid hown
  obtain ⟨A, cp, rfl⟩ := own_form hown
  clear hh hne hi hz0 hz1 hz2 hown
  go_enter Try.func20, Try.ntmps20
  go_wp2_with (at_builtin; refine wpList_append_own _ rfl (.tmp 8) (.tmp 10) 22 rfl B 3 i0 (.int .i64 0) 1 8 Try.underlying22 HI.out HZ0.out HZ1.out HZ2.out rfl (by decide) _ _ _ rfl (HO.out.alloc _) ⟨w.heap.size, 0, none⟩ 1 1 [.int .i64 x] rfl rfl (cell_one_new _ _ _) (one_cell _ rfl) (by rw [mx]; omega) (by omega) (by simp; omega) ?grow)
  case grow =>
    intro v1 w1 hown1 hg1 hnil
    clear hnil
    have R := push_below HO.out hg1 (Below.refl B w) (by omega)
    have hh1 : Hold w1 g (.slice A xs.length cp) := by
      unfold Hold
      rw [hg1.block g (by simp; omega) (fun e => HNE.out e.symm), Below.heap_alloc _ _ _ hlt]; exact HH.out
    have ho1 := ownI_snoc hown1
    have hne1 := hh1.ne ho1
    obtain ⟨A1, cp1, rfl⟩ := own_form hown1
    have hst : Hold (w1.setCell ⟨g, 0, none⟩ (.slice A1 (xs.length + 1) cp1)) g (.slice A1 (xs.length + 1) cp1) := by
      unfold Hold
      rw [heap_setCell_same w1 g 0 _ _ _ hh1]; rfl
    have hos := ownsRow_setCell_other ho1 (a := ⟨g, 0, none⟩) hne1 (.slice A1 (xs.length + 1) cp1)
    have hbs := R.1.setCell (p := ⟨g, 0, none⟩) hB (.slice A1 (xs.length + 1) cp1)
    have k0 := hh1.c
    have k1 := hh1.f (i := 0)
    have HST := Lib.hid hst
    have HOS := Lib.hid hos
    have HBS := Lib.hid hbs
    clear R hh1 ho1 hown1 hg1 hst hos hbs hne1
    go_wp2
    go_end0
    exact ⟨rfl, _, HST.out, HOS.out, HBS.out⟩
end Go.Proofs.Ytfnegelnkcpdiaa
