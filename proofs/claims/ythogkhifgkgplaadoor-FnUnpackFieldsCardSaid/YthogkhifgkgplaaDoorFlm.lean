/-
  Lists of fields that can be read, and the walks of the program's small functions on fields. Conditions: where the lists lie, and the lengths that are typed.
-/
import Derived.Test.YthogkhifgkgplaaDoorWgr
import Derived.Test.YthogkhifgkgplaaDoorFdw
import Derived.Test.YthogkhifgkgplaaDoorWapr
import Derived.Test.YthogkhifgkgplaaDoorWbk
import Derived.Test.YthogkhifgkgplaaDoorVbyt
import Derived.Deep.Cut
namespace Go.Proofs.YthogkhifgkgplaaDoor
open Go.RowKit
set_option linter.unusedVariables false

theorem Rds.lies8 {w : World} {v : Value} {l : List Int} (h : Rds w v l) : Lies w.heap.size v l := by
  obtain ⟨A, c, rfl, h1⟩ := h
  intro h0 g hg
  obtain ⟨b, off, rfl, hat⟩ := h1 h0
  have e : b = g := by simpa [Value.ownBlock] using hg
  subst e; exact hat.1
theorem Rds.more8 {w w' : World} {v : Value} {l : List Int} (h : Rds w v l) (hb : Below w.heap.size w w') : Rds w' v l := h.below hb h.lies8
/-- The cells from off on of block b are these fields. -/
def FAt (w : World) (b off : Nat) (L : List Fd) : Prop := b < w.heap.size ∧ ∀ j, j < L.length → w.cell? ⟨b, off + j * 2, none⟩ = some (.int .i64 (L.getD j f0).t) ∧ ∃ u, w.cell? ⟨b, off + j * 2 + 1, none⟩ = some u ∧ Rds w u (L.getD j f0).b ∧ Proper u
theorem FAt.more {w w' : World} {b off : Nat} {L : List Fd} (h : FAt w b off L) (hb : Below w.heap.size w w') : FAt w' b off L :=
  ⟨Nat.lt_of_lt_of_le h.1 hb.size, fun j hj => by
    obtain ⟨h0, u, h1, h2, h3⟩ := h.2 j hj
    exact ⟨(hb.cell (p := ⟨b, off + j * 2, none⟩) h.1).trans h0, u, (hb.cell (p := ⟨b, off + j * 2 + 1, none⟩) h.1).trans h1, h2.more8 hb, h3⟩⟩
/-- A value that is a list of fields that can be read. -/
def FRds (w : World) (v : Value) (L : List Fd) : Prop := ∃ A c, v = .slice A L.length c ∧ (0 < L.length → ∃ b off, A = some ⟨b, off, none⟩ ∧ FAt w b off L)
theorem FRds.more {w w' : World} {v : Value} {L : List Fd} (h : FRds w v L) (hb : Below w.heap.size w w') : FRds w' v L := by
  obtain ⟨A, c, rfl, h1⟩ := h
  refine ⟨A, c, rfl, fun h0 => ?_⟩
  obtain ⟨b, off, rfl, ha⟩ := h1 h0
  exact ⟨b, off, rfl, ha.more hb⟩
theorem FRds.drewN {w : World} {v : Value} {L : List Fd} (h : FRds w v L) (n : Nat) : FRds (w.drewN n) v L := h
theorem FRds.form {w : World} {v : Value} {L : List Fd} (h : FRds w v L) : ∃ A c, v = .slice A L.length c := by
  obtain ⟨A, c, h, _⟩ := h; exact ⟨A, c, h⟩
theorem FRds.cells {w : World} {A : Option Addr} {n c : Nat} {L : List Fd} (h : FRds w (.slice A n c) L) (h0 : 0 < L.length) : ∃ b off, A = some ⟨b, off, none⟩ ∧ FAt w b off L := by
  obtain ⟨A', c', hv, h1⟩ := h
  injection hv with e1 e2 e3
  subst e1
  exact h1 h0
theorem two_blk {w : World} {g : Nat} {t : TypeId} {x y : Value} (h : Blk w g t #[x, y]) : w.cell? ⟨g, 0, none⟩ = some x ∧ w.cell? ⟨g, 1, none⟩ = some y := ⟨h.cell 0, h.cell 1⟩
theorem bys_eq (l : List Int) : bytesB 16 l = bysB l := rfl

set_option maxHeartbeats 400000 in
theorem inl_any (t : Int) (w : World) : Calls Tryd.prog 55 #[.int .i64 t] w fun e w' => e = .returned (.bool (tagB t)) ∧ w = w' := by
  have H : Hid (Calls Tryd.prog 58 #[.int .i64 t, .int .i64 0, .int .i64 300] w fun e w' => e = .returned (.bool (tagB t)) ∧ w = w') := Lib.hid (win_any t 0 300 w)
  generalize tagB t = r at *
  go_enter Tryd.func55, Tryd.ntmps55
  go_wp2_with (go_at_call 58; refine H.out.mono ?_; rintro e w' ⟨rfl, rfl⟩)
  go_ret
  exact ⟨rfl, rfl⟩
set_option maxHeartbeats 400000 in
theorem grs_any (t : Int) (w : World) : Calls Tryd.prog 46 #[.int .i64 t] w (RowPost (goR t) w) := by
  have H := Lib.hid (iGO_any t w)
  go_enter Tryd.func46, Tryd.ntmps46
  go_wp2_with fail
  refine H.out.mono ?_
  rintro e w1 ⟨u, rfl, hu, hb1⟩
  go_wp2
  go_ret
  exact ⟨u, rfl, hu, hb1⟩

set_option maxHeartbeats 800000 in
theorem onw_any (t : Int) (A : Option Addr) (n c : Nat) (w : World) :
    Calls Tryd.prog 29 #[.agg #[.int .i64 t, .slice A n c]] w fun e w' => e = .returned (.agg #[.int .i64 t, .slice A n c]) ∧ Below w.heap.size w w' := by
  go_enter Tryd.func29, Tryd.ntmps29
  go_wp2
  exact bodyPost_ret (results_cell_row (p := 2) (ty := 55) rfl _ _ (w.heap.size + 1) 55 #[.int .i64 t, .slice A n c] (0, 0) _ rfl (by
    have h1 := Blk.new (w.alloc (.cells #[.int .i64 t, .slice A n c] 48)) 55 #[.int .i64 t, .slice A n c]
    rw [World.size_alloc] at h1
    exact h1) Tryd.underlying55 rfl (by kernel_rfl)) rfl ⟨rfl, ((Below.refl _ _).alloc (Nat.le_refl _) _).alloc (by simp) _⟩

set_option maxHeartbeats 800000 in
theorem val_any (f : Fd) (u : Value) (w : World) (h : Rds w u f.b) (hn : f.b.length ≤ 1048576) :
    Calls Tryd.prog 44 #[.agg #[.int .i64 f.t, u]] w fun e w' => e = .returned (.bool (vfB f)) ∧ Below w.heap.size w w' := by
  have hb0 := (Below.refl w.heap.size w).alloc (Nat.le_refl _) (.cells #[.int .i64 f.t, u] 55)
  obtain ⟨c0, c1⟩ := two_blk (Blk.new w 55 #[.int .i64 f.t, u])
  have HB := Lib.hid hb0
  have hv := ivb_any _ u f.b (h.more8 hb0) hn
  have hi := inl_any f.t (w.alloc (.cells #[.int .i64 f.t, u] 55))
  have hres : vfB f = (tagB f.t && bysB f.b) := rfl
  rw [hres, ← bys_eq]
  generalize bytesB 16 f.b = b at *
  have HV := Lib.hid hv
  cases htb : tagB f.t
  · rw [htb] at hi
    have HI := Lib.hid hi
    clear hb0 hv hi htb h hres
    obtain ⟨t, bs⟩ := f
    go_enter Tryd.func44, Tryd.ntmps44
    go_wp2_with (go_at_call 55; refine HI.out.mono ?_; rintro e w' ⟨rfl, rfl⟩)
    go_ret
    exact ⟨rfl, HB.out⟩
  · rw [htb] at hi
    have HI := Lib.hid hi
    clear hb0 hv hi htb h hres
    obtain ⟨t, bs⟩ := f
    go_enter Tryd.func44, Tryd.ntmps44
    go_wp2_with (first | (go_at_call 55; refine HI.out.mono ?_; rintro e w' ⟨rfl, rfl⟩) | (go_at_call 56; refine HV.out.mono ?_; rintro e w' ⟨rfl, rfl⟩))
    go_ret
    exact ⟨ret_bool (by simp), HB.out⟩

set_option maxHeartbeats 1600000 in
theorem ivf_any (w : World) (v : Value) (L : List Fd) (h : FRds w v L) (hL : L.length ≤ 1048576) (hn : ∀ k, (L.getD k f0).b.length ≤ 1048576) :
    Calls Tryd.prog 28 #[v] w fun e w' => e = .returned (.bool (vfsB L)) ∧ Below w.heap.size w w' := by
  have HF := Lib.hid (fun W (hb : Below w.heap.size w W) => h.more hb)
  obtain ⟨A, c, hf⟩ := h.form
  subst hf
  have HN := Lib.hid hn
  clear h hn
  by_cases h5 : 5 < L.length
  · have hd : decide ((5 : Int) < (L.length : Int)) = true := decide_eq_true (by omega)
    have hr : vfsB L = false := by unfold vfsB; rw [decide_eq_false (by omega)]; rfl
    rw [hr]
    clear hr
    go_enter Tryd.func28, Tryd.ntmps28
    go_wp2
    go_ret
    exact ⟨rfl, Below.refl _ _⟩
  · have hd : decide ((5 : Int) < (L.length : Int)) = false := decide_eq_false (by omega)
    have HA := fun (h : L.all vfB = true) => Lib.hid (show vfsB L = true from by unfold vfsB; rw [h, decide_eq_true (by omega)]; rfl)
    have HZ := fun (h : L.all vfB = false) => Lib.hid (show vfsB L = false from by unfold vfsB; rw [h]; simp)
    go_enter Tryd.func28, Tryd.ntmps28
    go_wp2
    go_loopw [4, 10] (fun _ iv wr => ∃ k : Nat, k ≤ L.length ∧ iv = .int .i64 k ∧ Hid ((L.take k).all vfB = true) ∧ Below w.heap.size w wr) (fun _ iv _ => L.length - (intOf iv).toNat)
    case atStart => exact ⟨0, Nat.zero_le _, rfl, Lib.hid (by simp), Below.refl _ _⟩
    case round =>
      obtain ⟨k, hk, rfl, hall, hb⟩ := hrel
      have HB := Lib.hid hb
      have hz := hb.size
      by_cases hlt : k < L.length
      · obtain ⟨b, off, hA, hat⟩ := (HF.out wr hb).cells (by omega)
        subst hA
        obtain ⟨x0, u, x1, hu, _⟩ := hat.2 k hlt
        have HV := Lib.hid (fun W h => val_any (L.getD k f0) u W h (HN.out k))
        have HSN : ∀ r, vfB (L.getD k f0) = r → Hid (r = true → (L.take (k + 1)).all vfB = true) := fun r hr => Lib.hid (fun h => by rw [takeF_snoc L k hlt, List.all_append, hall.out]; rw [h] at hr; simpa using hr)
        have HSZ : ∀ r, vfB (L.getD k f0) = r → Hid (r = false → L.all vfB = false) := fun r hr => Lib.hid (fun h => by
          rw [List.all_eq_false]
          exact ⟨L.getD k f0, by rw [List.getD_eq_getElem?_getD, List.getElem?_eq_getElem hlt]; exact List.getElem_mem hlt, by rw [hr, h]; simp⟩)
        have HU := Lib.hid hu
        obtain ⟨Au, cu, rfl, _⟩ := hu
        have HSN := HSN _ rfl
        have HSZ := HSZ _ rfl
        generalize hvr : vfB (L.getD k f0) = vr at *
        generalize (L.getD k f0).t = t at *
        generalize (L.getD k f0).b = bs at *
        obtain ⟨wn, hwn⟩ : ∃ wn, wn = wr := ⟨_, rfl⟩
        subst hwn
        have hb1 := (Below.refl wn.heap.size wn).alloc (Nat.le_refl _) (.cells #[.int .i64 t, .slice Au bs.length cu] 48)
        have HB1 := Lib.hid (HB.out.trans (hb1.mono hz))
        have HU1 := Lib.hid (HU.out.more8 hb1)
        obtain ⟨c0, c1⟩ := two_blk (Blk.new wn 48 #[.int .i64 t, .slice Au bs.length cu])
        have hz1 : w.heap.size ≤ (wn.alloc (.cells #[.int .i64 t, .slice Au bs.length cu] 48)).heap.size := by simp; omega
        clear hat hb hvr HU hb1
        go_upto_region 6 with fail
        generalize wn.alloc (.cells #[.int .i64 t, .slice Au bs.length cu] 48) = w1 at *
        go_wp2_with fail
        refine (onw_any t Au bs.length cu w1).mono ?_
        rintro e w2 ⟨rfl, hb2⟩
        have HU2 := Lib.hid (HU1.out.more8 hb2)
        have HB2 := Lib.hid (HB1.out.trans (hb2.mono hz1))
        have hz2 : w.heap.size ≤ w2.heap.size := Nat.le_trans hz1 hb2.size
        clear hb2 HB1 HU1 c0 c1 x0 x1
        go_wp2_with fail
        refine (HV.out w2 HU2.out).mono ?_
        rintro e w3 ⟨rfl, hb3⟩
        have HB3 := Lib.hid (HB2.out.trans (hb3.mono hz2))
        cases vr
        · go_wp2
          go_ret
          exact ⟨ret_bool (HZ (HSZ.out (by first | rfl | trivial))).out.symm, HB3.out⟩
        · go_wp2
          go_roundw
          case rel => exact ⟨k + 1, by omega, by go_num, Lib.hid (HSN.out (by first | rfl | trivial)), HB3.out⟩
          case measure => simp [intOf] <;> omega
      · obtain rfl : k = L.length := by omega
        have HR := HA (by have := hall.out; rwa [List.take_length] at this)
        go_wp2
        go_ret
        exact ⟨ret_bool HR.out.symm, HB.out⟩
end Go.Proofs.YthogkhifgkgplaaDoor
