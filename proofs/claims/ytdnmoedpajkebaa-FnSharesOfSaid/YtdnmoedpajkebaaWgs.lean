/-
  The walks of the functions that share out a room. Conditions: where the lists lie, and the lengths that are typed.
-/
import Derived.Test.YtdnmoedpajkebaaWvd
import Derived.Test.YtdnmoedpajkebaaFsh
import Derived.Test.YtdnmoedpajkebaaShelf
import Derived.Sort.OwnSortedInts
import Derived.Lib.SliceRun
namespace Go.Proofs.Ytdnmoedpajkebaa
open Go.RowKit Go.Sort
set_option linter.unusedVariables false

theorem srt_any (w : World) (B g cap : Nat) (l : List Int) (hl : l.length ≤ 1048576) (h : OwnL w B (.slice (some ⟨g, 0, none⟩) l.length cap) l) :
    Calls Try.prog 25 #[.slice (some ⟨g, 0, none⟩) l.length cap] w
      fun e w' => e = .returned (.tuple #[]) ∧ ∃ ts : List Int, ts.Perm l ∧ ts.Pairwise (fun x y => x ≤ y) ∧ OwnL w' B (.slice (some ⟨g, 0, none⟩) ts.length cap) ts ∧ w.grownBy w' (some g) := by
  unfold OwnL at h
  rcases h.2 with ⟨h0, _⟩ | ⟨g', cap', cur, hv, hB, hg, hn, hcap, hcs, htk⟩
  · cases h0
  simp only [Value.slice.injEq, Option.some.injEq, Addr.mk.injEq, and_true, true_and] at hv
  obtain ⟨rfl, rfl⟩ := hv
  have hH : Holds (Value.int .i64) w g 0 l.toArray := holds_of_blockI hg (by rw [Nat.mul_one] at htk; exact htk)
  have hcon := AnyM.slices_Sort_int Try.sortI g 0 cap l w hH (Array.getElem?_eq_some_iff.1 hg).1 (by omega)
  change Calls Try.prog 25 _ _ _ at hcon
  refine hcon.mono ?_
  rintro e w' ⟨rfl, n, os, rfl⟩
  have hp := List.mergeSort_perm l (fun x y => decide (x ≤ y))
  have hlen : (l.mergeSort fun x y => decide (x ≤ y)).length = l.length := List.length_mergeSort l
  refine ⟨rfl, _, hp, ?_, ?_, grownBy_sortedI _⟩
  · have := List.pairwise_mergeSort (le := fun x y : Int => decide (x ≤ y)) (fun a b c h1 h2 => by simp at *; omega) (fun a b => by simp; omega) l
    exact this.imp (fun h => by simpa using h)
  · unfold OwnL
    rw [hlen]
    exact ownsRow_sortedI hlen hB hg hn hcap hcs

set_option maxHeartbeats 800000 in
theorem cln_any (w : World) (v : Value) (l : List Int) (hv : Rds w v l) (hn : l.length ≤ 1048576) :
    Calls Try.prog 24 #[v] w (RowPost l w) := by
  obtain ⟨A, c, rfl, hA⟩ := hv
  have qT : ∀ (w : World) (a : Option Addr) (n c n' c' : Nat), (binOp .eql 22 (.slice a n c) (.slice none n' c')).run Try.prog w = .ok (.bool a.isNone) w := fun w a n c n' c' => Lib.run_eql_slice_nil w _ _ a n c n' c' Try.underlying22
  cases A with
  | none =>
    have h0 : l.length = 0 := by
      rcases Nat.eq_zero_or_pos l.length with h | h
      · exact h
      · obtain ⟨b, off, hb, _⟩ := hA h; cases hb
    have e : l = [] := List.eq_nil_of_length_eq_zero h0
    subst e
    clear hA
    go_enter Try.func24, Try.ntmps24
    go_wp2
    go_ret
    exact rowPost_nil rfl (Below.refl _ _)
  | some a =>
    obtain ⟨i0, hi, hz0, hz1, hz2⟩ := info_parts info3
    have hcells : ∀ j u, (ints l)[j]? = some u → (w.alloc (.cells #[] 3)).cell? (a.add j) = some u := by
      intro j u hj
      have hlt : j < l.length := by
        have := (List.getElem?_eq_some_iff.1 hj).1
        simpa [ints] using this
      obtain ⟨b, off, hb, hat⟩ := hA (by omega)
      cases hb
      have e : (⟨b, off, none⟩ : Addr).add j = ⟨b, off + j, none⟩ := by unfold Addr.add; split <;> simp_all
      rw [e, World.cell?_alloc_past _ _ _ hat.1, hat.2 j hlt, ← hj, ints_get l j hlt]
    have HC := Lib.hid hcells
    have HI := Lib.hid hi
    have HZ0 := Lib.hid hz0
    have HZ1 := Lib.hid hz1
    have HZ2 := Lib.hid hz2
    clear hA hcells hi hz0 hz1 hz2
    go_enter Try.func24, Try.ntmps24
    go_wp2_with (at_builtin; refine wpList_append_own _ rfl _ _ 22 rfl w.heap.size 3 i0 (.int .i64 0) 1 8 Try.underlying22 HI.out HZ0.out HZ1.out HZ2.out rfl (by decide) _ 0 [] rfl (OwnL.empty w w.heap.size (Nat.le_refl _)) a l.length c (ints l) rfl (by rw [ints_len]; omega) HC.out (fun u hu => by obtain ⟨x, _, rfl⟩ := List.mem_map.1 hu; rfl) (by rw [mx]; omega) (by omega) (by simp) ?_; intro v9 w9 ho9 hg9 hnil; clear hnil)
    go_ret
    refine ⟨v9, rfl, ?_, ((Below.refl _ _).alloc (Nat.le_refl _) _).grown hg9 (by simp) (fun k hk => (World.ownsRow.lt (OwnL.empty w w.heap.size (Nat.le_refl _)) k hk).1)⟩
    unfold OwnL
    simpa using ho9

/-- What greatestShare leaves: a cap that is fair. -/
def GsPost (room : Int) (l : List Int) (w : World) (e : Ending) (w' : World) : Prop := ∃ G : Int, e = .returned (.int .i64 G) ∧ Fair room G l ∧ G ≤ 200 ∧ Below w.heap.size w w'
theorem sorted_get {s : List Int} (hs : s.Pairwise (fun x y => x ≤ y)) {i j : Nat} (hij : i ≤ j) (hj : j < s.length) : s.getD i 0 ≤ s.getD j 0 := by
  rcases (show i = j ∨ i < j from by omega) with rfl | h
  · exact Int.le_refl _
  · rw [List.getD_eq_getElem?_getD, List.getD_eq_getElem?_getD, List.getElem?_eq_getElem (by omega : i < s.length), List.getElem?_eq_getElem hj]
    exact (List.pairwise_iff_getElem.1 hs) i j (by omega) hj h
theorem mem_takeD {s : List Int} {k : Nat} {x : Int} (h : x ∈ s.take k) : ∃ j, j < k ∧ j < s.length ∧ x = s.getD j 0 := by
  obtain ⟨j, hj, rfl⟩ := List.getElem_of_mem h
  have : j < k ∧ j < s.length := by rw [List.length_take] at hj; omega
  exact ⟨j, this.1, this.2, by rw [List.getElem_take, List.getD_eq_getElem?_getD, List.getElem?_eq_getElem this.2]; rfl⟩
theorem mem_dropD {s : List Int} {k : Nat} {x : Int} (h : x ∈ s.drop k) : ∃ j, k ≤ j ∧ j < s.length ∧ x = s.getD j 0 := by
  obtain ⟨j, hj, rfl⟩ := List.getElem_of_mem h
  have : k + j < s.length := by rw [List.length_drop] at hj; omega
  exact ⟨k + j, by omega, this, by rw [List.getElem_drop, List.getD_eq_getElem?_getD, List.getElem?_eq_getElem this]; rfl⟩
theorem sum_take_succ (s : List Int) (k : Nat) (h : k < s.length) : sumI (s.take (k + 1)) = sumI (s.take k) + s.getD k 0 := by
  rw [take_snoc s k h, sumI_app]
  simp [sumI]
/-- What holds before the k-th of the sorted loads is looked at. -/
def GsInv (room : Int) (s : List Int) (k : Nat) : Prop := 0 ≤ room - sumI (s.take k) ∧ ∀ x ∈ s.take k, x * ((s.length - k : Nat) : Int) ≤ room - sumI (s.take k)
theorem gs_step {room : Int} {s : List Int} {k : Nat} (hs : s.Pairwise (fun x y => x ≤ y)) (h0 : ∀ x ∈ s, 0 ≤ x ∧ x ≤ 30) (hk : k < s.length) (h : GsInv room s k) (hle : s.getD k 0 ≤ (room - sumI (s.take k)) / ((s.length - k : Nat) : Int)) : GsInv room s (k + 1) := by
  obtain ⟨h1, h2⟩ := h
  have h3 := mul_le_of_div (by omega) hle
  have e : ((s.length - k : Nat) : Int) = ((s.length - (k + 1) : Nat) : Int) + 1 := by omega
  rw [e, Int.mul_add, Int.mul_one] at h3
  have hmem : s.getD k 0 ∈ s := by rw [List.getD_eq_getElem?_getD, List.getElem?_eq_getElem hk]; exact List.getElem_mem hk
  have hnn := (h0 _ hmem).1
  have hm0 : 0 ≤ s.getD k 0 * ((s.length - (k + 1) : Nat) : Int) := Int.mul_nonneg hnn (by omega)
  have hs1 := sum_take_succ s k hk
  refine ⟨by rw [hs1]; omega, fun x hx => ?_⟩
  obtain ⟨j, hj, hjl, rfl⟩ := mem_takeD hx
  have h4 := sorted_get hs (show j ≤ k by omega) hk
  have h5 := mul_le_of (m := s.length - (k + 1)) h4
  rw [hs1]
  omega
theorem gs_exit {room : Int} {s : List Int} {k : Nat} (hs : s.Pairwise (fun x y => x ≤ y)) (hk : k < s.length) (h : GsInv room s k) (hgt : (room - sumI (s.take k)) / ((s.length - k : Nat) : Int) < s.getD k 0) : Fair room ((room - sumI (s.take k)) / ((s.length - k : Nat) : Int)) s :=
  fair_at hk h.1 h.2 (fun x hx => by
    obtain ⟨j, hj, hjl, rfl⟩ := mem_dropD hx
    have := sorted_get hs hj hjl
    omega)
theorem sum_bd {s : List Int} (h0 : ∀ x ∈ s, 0 ≤ x ∧ x ≤ 30) : ∀ k, 0 ≤ sumI (s.take k) := by
  intro k
  have : ∀ t : List Int, (∀ x ∈ t, 0 ≤ x) → 0 ≤ sumI t := by
    intro t
    induction t with
    | nil => intro _; exact Int.le_refl _
    | cons x t ih => intro h; have := ih (fun y hy => h y (List.mem_cons_of_mem _ hy)); have := h x List.mem_cons_self; rw [sumI_cons]; omega
  exact this _ (fun x hx => (h0 x (List.mem_of_mem_take hx)).1)

set_option maxHeartbeats 1600000 in
theorem igs_any (room : Int) (w : World) (v : Value) (l : List Int) (hv : Rds w v l) (hr : 0 ≤ room ∧ room ≤ 200) (hl : okL l = true) :
    Calls Try.prog 19 #[.int .i64 room, v] w (GsPost room l w) := by
  have hlen := okL_len hl
  have h30 := load_of hl
  have HCL := Lib.hid (cln_any w v l hv (by omega))
  have HL := Lib.hid h30
  clear hv hl h30
  go_enter Try.func19, Try.ntmps19
  go_wp2_with fail
  refine HCL.out.mono ?_
  rintro e w1 ⟨u, rfl, hu, hb1⟩
  have hsorted : Calls Try.prog 25 #[u] w1 fun e w' => e = .returned (.tuple #[]) ∧ ∃ (ts : List Int) (A : Option Addr) (c : Nat), u = .slice A ts.length c ∧ ts.Perm l ∧ ts.Pairwise (fun x y => x ≤ y) ∧ OwnL w' w.heap.size u ts ∧ Below w.heap.size w w' := by
    rcases hu.2 with ⟨rfl, h0⟩ | ⟨g, cap, cur, rfl, hB, hg, _⟩
    · have e0 : l = [] := List.eq_nil_of_length_eq_zero h0
      subst e0
      have hc := AnyM.slices_Sort_int_none Try.sortI none 0 w1
      change Calls Try.prog 25 _ _ _ at hc
      refine hc.mono ?_
      rintro e w' ⟨rfl, rfl⟩
      exact ⟨rfl, [], none, 0, rfl, List.Perm.refl _, List.Pairwise.nil, OwnL.nil _ _, hb1⟩
    · refine (srt_any w1 w.heap.size g cap l (by omega) hu).mono ?_
      rintro e w' ⟨rfl, ts, hp, hs, ho, hg2⟩
      have hle := hp.length_eq
      exact ⟨rfl, ts, _, _, by rw [hle], hp, hs, by rw [← hle]; exact ho, below_grown hb1 hg2 hB hb1.size⟩
  have HS := Lib.hid hsorted
  clear hu hb1 hsorted HCL
  go_wp2_with fail
  refine HS.out.mono ?_
  rintro e w2 ⟨rfl, s, A, c, rfl, hp, hs, ho, hb2⟩
  have hsl := hp.length_eq
  have HP := Lib.hid hp
  have HSO := Lib.hid hs
  have h30s : ∀ x ∈ s, 0 ≤ x ∧ x ≤ 30 := fun x hx => HL.out x (hp.mem_iff.1 hx)
  have HSB := Lib.hid h30s
  have HA := Lib.hid ho.rds
  have HB := Lib.hid hb2
  have hs16 : s.length ≤ 16 := by omega
  clear hp hs h30s ho hb2 hsl hlen
  go_wp2
  go_loopw [0, 15] (fun rv iv wr => ∃ k : Nat, k ≤ s.length ∧ iv = .int .i64 k ∧ rv = .int .i64 (room - sumI (s.take k)) ∧ GsInv room s k ∧ wr = w2) (fun _ iv _ => s.length - (intOf iv).toNat)
  case atStart => exact ⟨0, Nat.zero_le _, rfl, by simp [sumI], ⟨by simp [sumI]; omega, fun x hx => by simp at hx⟩, rfl⟩
  case round =>
    obtain ⟨k, hk, rfl, rfl, hinv, rfl⟩ := hrel
    have hsum := sum_bd HSB.out k
    have hin1 := hinv.1
    have HINV := Lib.hid hinv
    by_cases hlt : k < s.length
    · obtain ⟨b, off, hbb, hat⟩ : ∃ b off, A = some ⟨b, off, none⟩ ∧ At wr b off s := by
        obtain ⟨A', c', hv', h1'⟩ := HA.out
        injection hv' with e1 e2 e3
        subst e1
        exact h1' (by omega)
      subst hbb
      have hc1 := hat.2 k hlt
      have hST := sum_take_succ s k hlt
      have hmem : s.getD k 0 ∈ s := by rw [List.getD_eq_getElem?_getD, List.getElem?_eq_getElem hlt]; exact List.getElem_mem hlt
      have hxb := HSB.out _ hmem
      obtain ⟨q, hq⟩ : ∃ q, q = (room - sumI (s.take k)) / ((s.length - k : Nat) : Int) := ⟨_, rfl⟩
      have hq2 : (room - sumI (s.take k)) / ((s.length : Int) - (k : Int)) = q := by rw [hq]; congr 1; omega
      have hqb : 0 ≤ q ∧ q ≤ 200 := by
        rw [hq]
        exact ⟨Int.ediv_nonneg hin1 (by omega), Int.le_trans (Int.ediv_le_self _ hin1) (by omega)⟩
      have HX : Hid (s.getD k 0 ≤ q → GsInv room s (k + 1)) := Lib.hid (fun h => gs_step HSO.out HSB.out hlt HINV.out (by rw [← hq]; exact h))
      have HY : Hid (q < s.getD k 0 → Fair room q l) := Lib.hid (fun h => by
        have := gs_exit HSO.out hlt HINV.out (by rw [← hq]; exact h)
        rw [← hq] at this
        exact this.perm HP.out)
      have HTS := Lib.hid hST
      clear hat hST hmem hq hinv
      generalize s.getD k 0 = x at *
      generalize sumI (s.take k) = t at *
      by_cases hxq : x ≤ q
      · have hd : decide (q < x) = false := by simp; omega
        have HN := Lib.hid (HX.out hxq)
        clear HX HY
        go_wp2
        go_roundw
        case rel => exact ⟨k + 1, by omega, by go_num, by rw [HTS.out]; go_num, HN.out, by first | rfl | trivial⟩
        case measure => simp [intOf]; omega
      · have hd : decide (q < x) = true := by simp; omega
        have HN := Lib.hid (HY.out (by omega))
        clear HX HY
        go_wp2
        go_ret
        exact ⟨q, rfl, HN.out, by omega, HB.out⟩
    · obtain rfl : k = s.length := by omega
      have hF : Fair room 30 s := fair_end (fun x hx => (HSB.out x hx).2) (by rw [List.take_length] at hin1; exact hin1)
      have HF := Lib.hid (hF.perm HP.out)
      clear hF hinv
      go_wp2
      go_ret
      exact ⟨30, rfl, HF.out, by omega, HB.out⟩
end Go.Proofs.Ytdnmoedpajkebaa
