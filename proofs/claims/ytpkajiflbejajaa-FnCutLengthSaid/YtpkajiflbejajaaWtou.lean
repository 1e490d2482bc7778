/-
  The walk of the program's function that joins pieces in order where they touch. Conditions: where the list lies, and its length.
-/
import Derived.Test.YtpkajiflbejajaaWino
import Derived.Test.YtpkajiflbejajaaWcu
import Derived.Deep.RegionHeld3
namespace Go.Proofs.Ytpkajiflbejajaa
open Go.RowKit
set_option linter.unusedVariables false

/-- Between 0 and the greatest length. -/
def inB (p : Pc) : Prop := 0 ≤ p.a ∧ 1 ≤ p.s ∧ p.e ≤ 60
/-- What the loop knows of what it has joined. -/
def Tst (ts : List Pc) (k : Nat) (acc : List Pc) : Prop := (k = 0 ∧ acc = []) ∨ ∃ pre x, acc = pre ++ [x] ∧ pre ++ touG x (ts.drop k) = tou ts ∧ inB x ∧ acc.length ≤ k
theorem drop_at (ts : List Pc) (k : Nat) (hk : k < ts.length) : ts.drop k = ts.getD k d0 :: ts.drop (k + 1) := by
  have : ts.getD k d0 = ts[k] := by simp [List.getD_eq_getElem?_getD, List.getElem?_eq_getElem hk]
  rw [this, ← List.drop_eq_getElem_cons hk]
theorem Tst.first {ts : List Pc} (hk : 0 < ts.length) (hb : inB (ts.getD 0 d0)) : Tst ts 1 ([] ++ [ts.getD 0 d0]) := by
  refine .inr ⟨[], ts.getD 0 d0, rfl, ?_, hb, by simp⟩
  have e := drop_at ts 0 hk
  rw [List.drop_zero] at e
  rw [List.nil_append]
  conv => rhs; rw [e]
  rfl
theorem Tst.out {ts pre : List Pc} {x : Pc} {k : Nat} (h : pre ++ touG x (ts.drop k) = tou ts) (hl : (pre ++ [x]).length ≤ k) (hk : k < ts.length) (hb : inB (ts.getD k d0)) (hc : ¬ (ts.getD k d0).a ≤ x.e) : Tst ts (k + 1) ((pre ++ [x]) ++ [ts.getD k d0]) := by
  rw [drop_at ts k hk, touG_out hc] at h
  exact .inr ⟨pre ++ [x], ts.getD k d0, rfl, by rw [← h]; simp, hb, by simp at hl ⊢; omega⟩
theorem Tst.inn {ts pre : List Pc} {x : Pc} {k : Nat} (h : pre ++ touG x (ts.drop k) = tou ts) (hl : (pre ++ [x]).length ≤ k) (hk : k < ts.length) (hx : inB x) (hb : inB (ts.getD k d0)) (hc : (ts.getD k d0).a ≤ x.e) :
    Tst ts (k + 1) (pre ++ [⟨x.a, max x.e (ts.getD k d0).e - x.a, x.m⟩]) := by
  rw [drop_at ts k hk, touG_in hc] at h
  refine .inr ⟨pre, _, rfl, h, ?_, by simp at hl ⊢; omega⟩
  obtain ⟨h1, h2, h3⟩ := hx
  obtain ⟨h4, h5, h6⟩ := hb
  have hxe : x.e = x.a + x.s := rfl
  refine ⟨h1, ?_, ?_⟩
  · show 1 ≤ max x.e _ - x.a; omega
  · show x.a + (max x.e _ - x.a) ≤ 60; omega
theorem Tst.end_ {ts acc : List Pc} {k : Nat} (h : Tst ts k acc) (hk : ¬ k < ts.length) : acc = tou ts := by
  rcases h with ⟨h1, h2⟩ | ⟨pre, x, h1, h2, _⟩
  · have : ts = [] := List.eq_nil_of_length_eq_zero (by omega)
    rw [h2, this]; rfl
  · rw [List.drop_eq_nil_of_le (by omega)] at h2
    rw [h1, ← h2]; rfl
theorem last_at (pre : List Pc) (x : Pc) : (pre ++ [x]).getD pre.length d0 = x := by simp [List.getD_eq_getElem?_getD]
theorem set_last (pre : List Pc) (x y : Pc) : (pre ++ [x]).set pre.length y = pre ++ [y] := by simp

theorem pcs_setS : ∀ (ps : List Pc) (k : Nat) (v : Int), k < ps.length → (pcs ps).set (k * 3 + 1) (.int .i64 v) = pcs (ps.set k ⟨(ps.getD k d0).a, v, (ps.getD k d0).m⟩)
  | [], k, v, h => absurd h (by simp)
  | p :: ps, 0, v, h => rfl
  | p :: ps, k + 1, v, h => by
    have ih := pcs_setS ps k v (by simpa using h)
    rw [show (k + 1) * 3 + 1 = k * 3 + 1 + 1 + 1 + 1 from by omega]
    simp only [pcs, List.set_cons_succ, List.getD_cons_succ]
    rw [ih]
theorem pcs_setM : ∀ (ps : List Pc) (k : Nat) (v : Bool), k < ps.length → (pcs ps).set (k * 3 + 2) (.bool v) = pcs (ps.set k ⟨(ps.getD k d0).a, (ps.getD k d0).s, v⟩)
  | [], k, v, h => absurd h (by simp)
  | p :: ps, 0, v, h => rfl
  | p :: ps, k + 1, v, h => by
    have ih := pcs_setM ps k v (by simpa using h)
    rw [show (k + 1) * 3 + 2 = k * 3 + 2 + 1 + 1 + 1 from by omega]
    simp only [pcs, List.set_cons_succ, List.getD_cons_succ]
    rw [ih]
theorem OwnP.storedS {w : World} {B g cap n : Nat} {ps : List Pc} (h : OwnP w B (.slice (some ⟨g, 0, none⟩) n cap) ps) (k : Nat) (hk : k < ps.length) (v : Int) :
    OwnP (w.setCell ⟨g, k * 3 + 1, none⟩ (.int .i64 v)) B (.slice (some ⟨g, 0, none⟩) n cap) (ps.set k ⟨(ps.getD k d0).a, v, (ps.getD k d0).m⟩) ∧ w.grownBy (w.setCell ⟨g, k * 3 + 1, none⟩ (.int .i64 v)) (some g) := by
  obtain ⟨a, c, hv⟩ := own_form3 h
  simp only [Value.slice.injEq] at hv
  obtain ⟨_, rfl, _⟩ := hv
  have h1 := World.ownsRow.stored h (k * 3 + 1) (.int .i64 v)
  rw [pcs_setS ps k v hk] at h1
  exact ⟨by unfold OwnP; rw [List.length_set]; exact h1.1, h1.2⟩
theorem OwnP.storedM {w : World} {B g cap n : Nat} {ps : List Pc} (h : OwnP w B (.slice (some ⟨g, 0, none⟩) n cap) ps) (k : Nat) (hk : k < ps.length) (v : Bool) :
    OwnP (w.setCell ⟨g, k * 3 + 2, none⟩ (.bool v)) B (.slice (some ⟨g, 0, none⟩) n cap) (ps.set k ⟨(ps.getD k d0).a, (ps.getD k d0).s, v⟩) ∧ w.grownBy (w.setCell ⟨g, k * 3 + 2, none⟩ (.bool v)) (some g) := by
  obtain ⟨a, c, hv⟩ := own_form3 h
  simp only [Value.slice.injEq] at hv
  obtain ⟨_, rfl, _⟩ := hv
  have h1 := World.ownsRow.stored h (k * 3 + 2) (.bool v)
  rw [pcs_setM ps k v hk] at h1
  exact ⟨by unfold OwnP; rw [List.length_set]; exact h1.1, h1.2⟩

/-- What a drawn region that reads the last row and the next piece is told. -/
def Two3 (Wb w' : World) (X gg b : Nat) (p x : Pc) : Prop :=
  (w'.cell? ⟨X, 0, none⟩ = some (.int .i64 p.a) ∧ w'.cell? ⟨X, 1, none⟩ = some (.int .i64 p.s) ∧ w'.cell? ⟨X, 2, none⟩ = some (.bool p.m)) ∧
  (w'.cell? ⟨gg, b * 3, none⟩ = some (.int .i64 x.a) ∧ w'.cell? ⟨gg, b * 3 + 1, none⟩ = some (.int .i64 x.s) ∧ w'.cell? ⟨gg, b * 3 + 2, none⟩ = some (.bool x.m) ∧ w'.frozen? ⟨gg, b * 3 + 1, none⟩ = false)

set_option maxHeartbeats 6400000 in
theorem tou_at (w : World) (b off c n : Nat) (ts : List Pc) (hn : ts.length = n) (hn2 : n ≤ 1000) (hv : ts.all pcB = true) (h : PAt w b off ts) :
    Calls Try.prog 24 #[.slice (some ⟨b, off, none⟩) n c] w
      fun e w' => ∃ A c', e = .returned (.slice A (tou ts).length c') ∧ OwnP w' w.heap.size (.slice A (tou ts).length c') (tou ts) ∧ Below w.heap.size w w' := by
  obtain ⟨i0, hi, hz0, hz1, hz2⟩ := info_parts infoP
  have HI := Lib.hid hi
  have HZ0 := Lib.hid hz0
  have HZ1 := Lib.hid hz1
  have HZ2 := Lib.hid hz2
  have HN := Lib.hid hn
  have HC := Lib.hid h
  have HIB : Hid (∀ k, k < ts.length → inB (ts.getD k d0)) := Lib.hid (fun k hk => by
    have := pc_yes (pall_get hv k hk)
    exact ⟨this.1, this.2.2.1, by unfold Pc.e; omega⟩)
  clear hi hz0 hz1 hz2 h hn hv
  go_enter Try.func24, Try.ntmps24
  go_wp2
  go_loopw [3, 9] (fun lv iv wr => ∃ (k : Nat) (acc : List Pc) (A : Option Addr) (c9 : Nat), k ≤ n ∧ iv = .int .i64 k ∧ lv = .slice A acc.length c9 ∧ OwnP wr w.heap.size lv acc ∧ Tst ts k acc ∧ Below w.heap.size w wr) (fun _ iv _ => n - (intOf iv).toNat)
  case atStart => exact ⟨0, [], none, 0, Nat.zero_le _, rfl, rfl, OwnP.nil _ _, .inl ⟨rfl, rfl⟩, Below.refl _ _⟩
  case round =>
    obtain ⟨k, acc, A, c9, hk, rfl, rfl, hown, hT, hbel⟩ := hrel
    have HO := Lib.hid hown
    have HT := Lib.hid hT
    have HBEL := Lib.hid hbel
    have hsz := hbel.size
    by_cases hlt : k < n
    · have hkx : k < ts.length := by have := HN.out; omega
      obtain ⟨c0, c1, c2⟩ := (HC.out.below hbel HC.out.1).2 k hkx
      have hp := HIB.out k hkx
      rcases hT with ⟨hk0, hacc⟩ | ⟨pre, x, hacc, htou, hx, hal⟩
      · -- nothing has been joined yet
        subst hk0
        subst hacc
        have HX := Lib.hid (Tst.first hkx hp)
        clear hown hbel hkx HT
        generalize ts.getD 0 d0 = q at *
        obtain ⟨pa, ps', pm⟩ := q
        simp only [Nat.zero_mul, Nat.add_zero] at c0 c1 c2
        clear hp
        go_upto_region 6 with fail
        have hx6 := Blk.new wr 33 #[.int .i64 pa, .int .i64 ps', .bool pm]
        have hb6 : Below w.heap.size w (wr.alloc (.cells #[.int .i64 pa, .int .i64 ps', .bool pm] 33)) := HBEL.out.alloc hsz _
        have hw6 : Below wr.heap.size wr (wr.alloc (.cells #[.int .i64 pa, .int .i64 ps', .bool pm] 33)) := (Below.refl _ _).alloc (Nat.le_refl _) _
        clear c0 c1 c2
        generalize wr.alloc (.cells #[.int .i64 pa, .int .i64 ps', .bool pm] 33) = W6 at hx6 hb6 hw6 ⊢
        have HW6 := Lib.hid hw6
        clear hw6
        generalize wr.heap.size = X at hx6 ⊢
        have HX6 := Lib.hid hx6
        have HB6 := Lib.hid hb6
        have ne := Wld.ne (S := fun w' => Below W6.heap.size W6 w') (Below.refl _ _)
        clear hx6 hb6
        refine wp_region_heldq (fun w' => Below W6.heap.size W6 w') (by kernel_rfl) (by kernel_rfl) (belowDr (Below.refl _ _)) ?_
        repeat (go_big_quiet_step (fail))
        refine wpQuiet_nil ?_
        rintro _ ⟨yy, rfl⟩
        have hb7 := yy.h
        have hx7 := HX6.out.below hb7 HX6.out.lt
        have c0 := hx7.cell 0
        have c1 := hx7.cell 1
        have c2 := hx7.cell 2
        simp at c0 c1 c2
        have HB7 := Lib.hid (HB6.out.trans (hb7.mono HB6.out.size))
        have HBW : Hid (Below wr.heap.size wr yy.v) := Lib.hid (HW6.out.trans (hb7.mono HW6.out.size))
        clear ne hb7 hx7 HX6 HB6 HW6
        generalize yy.v = W7 at c0 c1 c2 HB7 HBW ⊢
        clear yy
        have HO7 : Hid (W7.ownsRow w.heap.size 33 3 (.slice A 0 c9) 0 (pcs [])) := Lib.hid (by
          have := HO.out
          rcases this.2 with ⟨he, _⟩ | ⟨g', cap', cur, he, _⟩
          · rw [show (Value.slice A 0 c9) = .slice none 0 0 from he]; exact World.ownsRow_nil _ _ _ _
          · exact (own3_below this (HBW.out) (fun k hk => (World.ownsRow.lt this k hk).2)))
        go_wp2_with (at_builtin; refine wpList_append_own _ rfl (.tmp 46) (.tmp 48) 24 rfl w.heap.size 33 i0 (.agg #[.int .i64 0, .int .i64 0, .bool false]) 3 24 Try.underlying24 HI.out HZ0.out HZ1.out HZ2.out rfl (by decide) _ _ _ rfl (World.ownsRow.alloc HO7.out _) ⟨W7.heap.size, 0, none⟩ 1 1 (pcs [⟨pa, ps', pm⟩]) rfl rfl (new3 _ _ _ _ _) (one3 _ _ _) (by rw [mx]; omega) (by omega) (by have := HB7.out.size; simp; omega) ?_; intro v9 w9 hown9 hg9 hnil; clear hnil; obtain ⟨A9, c10, rfl⟩ := own_form3 hown9)
        have R2 := push3_below (show W7.ownsRow w.heap.size 33 3 (.slice A 0 c9) 0 (pcs []) from HO7.out) hg9 HB7.out HB7.out.size
        go_roundw
        case rel => exact ⟨0 + 1, [] ++ [⟨pa, ps', pm⟩], A9, c10, by omega, by go_num, rfl, ownP_snoc (l := []) hown9, HX.out, R2.1⟩
        case measure => simp [intOf]; omega
      · subst hacc
        have HIN := fun hc => Lib.hid (Tst.inn htou hal hkx hx hp hc)
        have HOUT := fun hc => Lib.hid (Tst.out htou hal hkx hp hc)
        clear hown hbel htou HT
        generalize ts.getD k d0 = q at *
        obtain ⟨pa, ps', pm⟩ := q
        obtain ⟨xa, xs, xm⟩ := x
        obtain ⟨p0, p1, p2⟩ := hp
        obtain ⟨x0, x1, x2⟩ := hx
        simp only [Pc.e] at c0 c1 c2 p0 p1 p2 x0 x1 x2 HIN HOUT
        obtain ⟨L, hL⟩ : ∃ L, L = pre.length := ⟨_, rfl⟩
        have hlen : (pre ++ [(⟨xa, xs, xm⟩ : Pc)]).length = L + 1 := by rw [hL]; simp
        have hL9 : L ≤ 1000 := by rw [hlen] at hal; omega
        rw [hlen] at HO ⊢
        obtain ⟨gg, cc, hform, hcc⟩ := own_form3_some (show wr.ownsRow w.heap.size 33 3 (.slice A (L + 1) c9) (L + 1) (pcs (pre ++ [(⟨xa, xs, xm⟩ : Pc)])) from by have := HO.out; unfold OwnP at this; rwa [hlen] at this) (by omega)
        cases hform
        have HLL := Lib.hid hL
        clear hal hlen hL
        go_upto_region 6 with fail
        have ho6 : OwnP (wr.alloc (.cells #[.int .i64 pa, .int .i64 ps', .bool pm] 33)) w.heap.size (.slice (some ⟨gg, 0, none⟩) (L + 1) c9) (pre ++ [(⟨xa, xs, xm⟩ : Pc)]) := World.ownsRow.alloc HO.out _
        have hx6 := Blk.new wr 33 #[.int .i64 pa, .int .i64 ps', .bool pm]
        have hb6 : Below w.heap.size w (wr.alloc (.cells #[.int .i64 pa, .int .i64 ps', .bool pm] 33)) := HBEL.out.alloc hsz _
        clear c0 c1 c2
        generalize wr.alloc (.cells #[.int .i64 pa, .int .i64 ps', .bool pm] 33) = W6 at ho6 hx6 hb6 ⊢
        generalize wr.heap.size = X at hx6 ⊢
        have hg6 := (World.ownsRow.lt ho6 gg rfl).2
        have hX6 := hx6.lt
        have HO6 := Lib.hid ho6
        have HX6 := Lib.hid hx6
        have HB6 := Lib.hid hb6
        have hS : ∀ w', Below W6.heap.size W6 w' → Two3 W6 w' X gg L ⟨pa, ps', pm⟩ ⟨xa, xs, xm⟩ := fun w' hb => by
          have hxx := HX6.out.below hb hX6
          have hoo : OwnP w' w.heap.size (.slice (some ⟨gg, 0, none⟩) (L + 1) c9) (pre ++ [(⟨xa, xs, xm⟩ : Pc)]) := own3_below HO6.out hb (fun k hk => by cases hk; exact hg6)
          obtain ⟨s0, s1, s2, f0, f1, f2⟩ := hoo.slots L (by rw [HLL.out]; simp)
          have hla : (pre ++ [(⟨xa, xs, xm⟩ : Pc)]).getD L d0 = ⟨xa, xs, xm⟩ := by rw [HLL.out]; exact last_at _ _
          rw [hla] at s0 s1 s2
          exact ⟨⟨hxx.cell 0, hxx.cell 1, hxx.cell 2⟩, s0, s1, s2, f1⟩
        clear ho6 hx6 hb6
        have ne := Wld.ne (S := fun w' => Below W6.heap.size W6 w') (Below.refl _ _)
        have k0 := fun (y : Wld (fun w' => Below W6.heap.size W6 w')) => (hS y.v y.h).1.1
        have k1 := fun (y : Wld (fun w' => Below W6.heap.size W6 w')) => (hS y.v y.h).1.2.1
        have k2 := fun (y : Wld (fun w' => Below W6.heap.size W6 w')) => (hS y.v y.h).1.2.2
        have l0 := fun (y : Wld (fun w' => Below W6.heap.size W6 w')) => (hS y.v y.h).2.1
        have l1 := fun (y : Wld (fun w' => Below W6.heap.size W6 w')) => (hS y.v y.h).2.2.1
        have l2 := fun (y : Wld (fun w' => Below W6.heap.size W6 w')) => (hS y.v y.h).2.2.2.1
        simp only at k0 k1 k2 l0 l1 l2
        have HEX := Lib.hid (fun W => iea_any W xa xs xm (by omega) (by omega))
        have HEP := Lib.hid (fun W => iea_any W pa ps' pm (by omega) (by omega))
        have HS := Lib.hid hS
        clear hS
        have z0 : (0 : Int) ≤ (L : Int) := by omega
        have z1 : (L : Int) < (L : Int) + 1 := by omega
        have z2 : decide ((0 : Int) ≤ (L : Int)) = true := by simp
        by_cases hc : pa ≤ xa + xs
        · have HX := HIN hc
          have hd : decide (pa ≤ xa + xs) = true := by simpa using hc
          clear HIN HOUT hc
          refine wp_region_heldq (fun w' => Below W6.heap.size W6 w') (by kernel_rfl) (by kernel_rfl) (belowDr (Below.refl _ _)) ?_
          repeat (go_big_quiet_step (with_reducible exact held_below (fun _ _ h hb => h.trans (hb.mono h.size)) (HEX.out _)))
          refine wpQuiet_nil ?_
          rintro _ ⟨yy, rfl⟩
          go_upto_region 7 with fail
          have hb7 := yy.h
          have hS7 : ∀ w', Below yy.v.heap.size yy.v w' → w'.cell? ⟨X, 0, none⟩ = some (.int .i64 pa) ∧ w'.cell? ⟨X, 1, none⟩ = some (.int .i64 ps') ∧ w'.cell? ⟨X, 2, none⟩ = some (.bool pm) ∧ w'.cell? ⟨gg, L * 3, none⟩ = some (.int .i64 xa) ∧ w'.cell? ⟨gg, L * 3 + 1, none⟩ = some (.int .i64 xs) ∧ w'.cell? ⟨gg, L * 3 + 2, none⟩ = some (.bool xm) ∧ w'.frozen? ⟨gg, L * 3 + 1, none⟩ = false := fun w' hb => by
            obtain ⟨⟨a0, a1, a2⟩, a3, a4, a5, a6⟩ := HS.out w' (hb7.trans (hb.mono hb7.size))
            exact ⟨a0, a1, a2, a3, a4, a5, a6⟩
          have HB7 := Lib.hid (HB6.out.trans (hb7.mono HB6.out.size))
          have HO7 : Hid (OwnP yy.v w.heap.size (.slice (some ⟨gg, 0, none⟩) (L + 1) c9) (pre ++ [(⟨xa, xs, xm⟩ : Pc)])) := Lib.hid (own3_below HO6.out hb7 (fun k hk => by cases hk; exact hg6))
          clear k0 k1 k2 l0 l1 l2 ne hb7 HS HO6 HX6 HB6
          generalize yy.v = W7 at hS7 HB7 HO7 ⊢
          clear yy
          have hTb : Below W7.heap.size W7 W7.drew := belowDr (Below.refl _ _)
          obtain ⟨a0, a1, a2, a3, a4, a5, a6⟩ := hS7 _ hTb
          go_region_with (first | (go_at_call 26; ((with_reducible refine (HEX.out _).mono ?_); rintro e w' ⟨rfl, hbb⟩; (with_reducible have hTb := hTb.trans (hbb.mono hTb.size)); obtain ⟨a0, a1, a2, a3, a4, a5, a6⟩ := hS7 _ hTb)) | (go_at_call 26; ((with_reducible refine (HEP.out _).mono ?_); rintro e w' ⟨rfl, hbb⟩; (with_reducible have hTb := hTb.trans (hbb.mono hTb.size)); obtain ⟨a0, a1, a2, a3, a4, a5, a6⟩ := hS7 _ hTb)))
          all_goals
            have hV : IntKind.i64.wrap (max (xa + xs) (pa + ps') - xa) = max (xa + xs) (pa + ps') - xa := pwrap _ (by omega)
            rw [hV]
            have ho9 : OwnP w' w.heap.size (.slice (some ⟨gg, 0, none⟩) (L + 1) c9) (pre ++ [(⟨xa, xs, xm⟩ : Pc)]) := own3_below HO7.out hTb (fun k hk => by cases hk; exact (World.ownsRow.lt HO7.out gg rfl).2)
            have hst := ho9.storedS L (by rw [HLL.out]; simp) (max (xa + xs) (pa + ps') - xa)
            have hla : (pre ++ [(⟨xa, xs, xm⟩ : Pc)]).getD L d0 = ⟨xa, xs, xm⟩ := by rw [HLL.out]; exact last_at _ _
            have hse : ∀ y : Pc, (pre ++ [(⟨xa, xs, xm⟩ : Pc)]).set L y = pre ++ [y] := fun y => by rw [HLL.out]; exact set_last _ _ _
            rw [hla, hse] at hst
            have hbb9 := below_grown (HB7.out.trans (hTb.mono HB7.out.size)) hst.2 (World.ownsRow.lt HO7.out gg rfl).1 (HB7.out.trans (hTb.mono HB7.out.size)).size
            have HST := Lib.hid hst.1
            have HB9 := Lib.hid hbb9
            have hln : (pre ++ [(⟨xa, max (xa + xs) (pa + ps') - xa, xm⟩ : Pc)]).length = L + 1 := by rw [HLL.out]; simp
            have HLN := Lib.hid hln
            clear hst hbb9 ho9 hla hse hln a0 a1 a2 a3 a4 a5 a6 hTb hS7
            go_wp2
            go_roundw
            case rel => exact ⟨k + 1, pre ++ [⟨xa, max (xa + xs) (pa + ps') - xa, xm⟩], some ⟨gg, 0, none⟩, c9, by omega, by go_num, by rw [HLN.out], HST.out, HX.out, HB9.out⟩
            case measure => simp [intOf]; omega
        · have HX := HOUT hc
          have hd : decide (pa ≤ xa + xs) = false := by simpa using hc
          clear HIN HOUT hc
          refine wp_region_heldq (fun w' => Below W6.heap.size W6 w') (by kernel_rfl) (by kernel_rfl) (belowDr (Below.refl _ _)) ?_
          repeat (go_big_quiet_step (with_reducible exact held_below (fun _ _ h hb => h.trans (hb.mono h.size)) (HEX.out _)))
          refine wpQuiet_nil ?_
          rintro _ ⟨yy, rfl⟩
          have c0 := k0 yy
          have c1 := k1 yy
          have c2 := k2 yy
          have hb7 := yy.h
          have HB7 := Lib.hid (HB6.out.trans (hb7.mono HB6.out.size))
          have HO7 : Hid (OwnP yy.v w.heap.size (.slice (some ⟨gg, 0, none⟩) (L + 1) c9) (pre ++ [(⟨xa, xs, xm⟩ : Pc)])) := Lib.hid (own3_below HO6.out hb7 (fun k hk => by cases hk; exact hg6))
          clear k0 k1 k2 l0 l1 l2 ne hb7 HS HO6 HX6 HB6
          generalize yy.v = W7 at c0 c1 c2 HB7 HO7 ⊢
          clear yy
          have hlen1 : (pre ++ [(⟨xa, xs, xm⟩ : Pc)]).length = L + 1 := by rw [HLL.out]; simp
          have HO8 : Hid (W7.ownsRow w.heap.size 33 3 (.slice (some ⟨gg, 0, none⟩) (L + 1) c9) (L + 1) (pcs (pre ++ [(⟨xa, xs, xm⟩ : Pc)]))) := Lib.hid (by have := HO7.out; unfold OwnP at this; rwa [hlen1] at this)
          have HL1 := Lib.hid hlen1
          clear hlen1
          go_wp2_with (at_builtin; refine wpList_append_own _ rfl (.tmp 46) (.tmp 48) 24 rfl w.heap.size 33 i0 (.agg #[.int .i64 0, .int .i64 0, .bool false]) 3 24 Try.underlying24 HI.out HZ0.out HZ1.out HZ2.out rfl (by decide) _ _ _ rfl (World.ownsRow.alloc HO8.out _) ⟨W7.heap.size, 0, none⟩ 1 1 (pcs [⟨pa, ps', pm⟩]) rfl rfl (new3 _ _ _ _ _) (one3 _ _ _) (by rw [mx]; omega) (by omega) (by have := HB7.out.size; simp; omega) ?_; intro v9 w9 hown9 hg9 hnil; clear hnil; obtain ⟨A9, c10, rfl⟩ := own_form3 hown9)
          have R2 := push3_below HO7.out hg9 HB7.out HB7.out.size
          go_roundw
          have hl9 : ((pre ++ [(⟨xa, xs, xm⟩ : Pc)]) ++ [(⟨pa, ps', pm⟩ : Pc)]).length = L + 1 + 1 := by rw [List.length_append, HL1.out]; rfl
          have ho9 : OwnP w9 w.heap.size (.slice A9 (L + 1 + 1) c10) ((pre ++ [(⟨xa, xs, xm⟩ : Pc)]) ++ [(⟨pa, ps', pm⟩ : Pc)]) := by
            have h9 := hown9
            unfold OwnP
            rw [hl9, pcs_app]; exact h9
          case rel => exact ⟨k + 1, (pre ++ [⟨xa, xs, xm⟩]) ++ [⟨pa, ps', pm⟩], A9, c10, by omega, by go_num, by rw [hl9], ho9, HX.out, R2.1⟩
          case measure => simp [intOf]; omega
    · have e := hT.end_ (by have := HN.out; omega)
      subst e
      go_wp2
      go_ret
      exact ⟨_, _, rfl, hown, hbel⟩
end Go.Proofs.Ytpkajiflbejajaa
