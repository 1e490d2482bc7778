/-
  The walk of the program's UnpackFields. Conditions: where the list lies, the length that is typed, and what the two variables of errors hold.
-/
import Derived.Test.YthogkhifgkgplaaDoorWas2
set_option linter.unusedSimpArgs false
namespace Go.Proofs.YthogkhifgkgplaaDoor
open Go.RowKit Go.Extern.Stop Go.Stop Go.Extern
set_option linter.unusedVariables false

theorem as_hit2 (n : Int) (t : Addr) (old : Value) (w : World) (B : Nat) (hg : ErrT w) (ht0 : w.cell? t = some old) (hf0 : w.frozen? t = false) (hB : B ≤ t.block) (hz : B ≤ w.heap.size) :
    Calls Tryd.prog 23 #[.iface 43 (.agg #[.int .i64 n]), .iface 45 (.pointer (some t))] w fun ev w' => ev = .returned (.bool true) ∧ w'.cell? t = some (.int .i64 n) ∧ Below B w w' := by
  have htl : t.block < w.heap.size := by
    rcases Nat.lt_or_ge t.block w.heap.size with h | h
    · exact h
    · simp [World.cell?, Array.getElem?_eq_none h] at ht0
  refine (as_hit n t old w hg ht0 hf0).mono fun e w' ⟨h1, h2⟩ => ?_
  subst h2
  have hb := ((((Below.refl w.heap.size w).alloc (Nat.le_refl _) (.cells #[.pointer (some t)] 45)).alloc (by simp) (.cells #[.pointer (some ⟨2, 45, none⟩), .pointer (some ⟨w.heap.size, 0, none⟩), .int .u64 150] 68)).alloc (by simp; omega) (.cells #[.pointer (some ⟨2, 45, none⟩), .pointer (some ⟨w.heap.size, 0, none⟩), .int .u64 150] 68)).alloc (by simp; omega) (.cells #[.int .i64 n] 43)
  exact ⟨h1, World.cell?_setCell_same' _ _ _ (by rw [(hb.cell (p := t) htl).trans ht0]; rfl), (hb.mono hz).setCell (p := t) hB _⟩
theorem ErrT.below {W W' : World} (h : ErrT W) (hb : Below W.heap.size W W') : ErrT W' :=
  ⟨(hb.cell (p := ⟨0, 0, none⟩) h.2).trans h.1, Nat.lt_of_lt_of_le h.2 hb.size⟩
/-- What the program's UnpackFields leaves. -/
def IufPost (xs : List Int) (w : World) (e : Ending) (w' : World) : Prop :=
  ∃ (u : Value) (Q : List (Fd × Value)), e = .returned (.tuple #[u, .bool (unR xs).isSome]) ∧ FOwn w' w.heap.size u Q ∧ Apt Q ∧ Q.map (·.1) = (unR xs).getD [] ∧ Below w.heap.size w w'
theorem iufPost_none {xs : List Int} {w w' : World} (h : unR xs = none) (hb : Below w.heap.size w w') : IufPost xs w (.returned (.tuple #[.slice none 0 0, .bool false])) w' :=
  ⟨_, [], by rw [h]; rfl, FOwn.none _ _, Apt.nil, by rw [h]; rfl, hb⟩
theorem unR_long {xs : List Int} (h : ¬ xs.length ≤ 120) : unR xs = none := by unfold unR; rw [if_neg h]

set_option maxHeartbeats 3200000 in
theorem iUF_any (a : Addr) (w : World) (v : Value) (xs : List Int) (h : Rdc w v xs) (hn : xs.length ≤ 1048576) (he : ErrA w a) (ht : ErrT w) :
    Calls Tryd.prog 8 #[v] w (IufPost xs w) := by
  by_cases h120 : xs.length ≤ 120
  · have HS := Lib.hid (rfs_any a w v xs h hn he)
    have HG : Hid (1 < w.heap.size) := Lib.hid he.2
    have HT := Lib.hid ht
    have HL := Lib.hid h120
    obtain ⟨A, c, rfl, _⟩ := h
    have hd : decide ((120 : Int) < (xs.length : Int)) = false := decide_eq_false (by omega)
    have HY := Lib.hid (fun L (h : unA xs = some L) => unR_yes h120 h)
    have HN0 := Lib.hid (fun (h : unA xs = none) => unR_no h)
    clear he ht h120
    go_enter Tryd.func8, Tryd.ntmps8
    go_wp2_with fail
    refine HS.out.mono ?_
    rintro e w1 ⟨u, Q, ys, er, rfl, hu, hap, hQl, hyl, herr, hun, hb⟩
    obtain ⟨Au, cu, huf⟩ := hu.form
    subst huf
    have HU := Lib.hid hu
    have HAP := Lib.hid hap
    have HB := Lib.hid hb
    have HUN := Lib.hid hun
    have hz := hb.size
    have HQL : Hid ((Q.map (·.1)).length = Q.length) := Lib.hid (List.length_map _)
    have hba := (Below.refl w1.heap.size w1).alloc (Nat.le_refl _) (.cells #[.int .i64 0] 43)
    have HBA := Lib.hid hba
    have k0 := Blk.new w1 43 #[.int .i64 0]
    have c0 : (w1.alloc (.cells #[.int .i64 0] 43)).cell? ⟨w1.heap.size, 0, none⟩ = some (.int .i64 0) := k0.cell 0
    have f0' := k0.frozen 0
    have HET := Lib.hid ((HT.out.below hb).below hba)
    have hz1 : w1.heap.size < (w1.alloc (.cells #[.int .i64 0] 43)).heap.size := by simp
    clear hu hap hb hun hba HS HT k0
    rcases herr with ⟨rfl, hne⟩ | rfl
    · have HN : Hid (unR xs = none) := Lib.hid (HN0.out (by rw [HUN.out, if_neg hne]))
      have HM := Lib.hid (as_miss a ⟨w1.heap.size, 0, none⟩ _ _ HET.out c0)
      clear hne c0 f0'
      go_upto_region 5 with fail
      generalize w1.alloc (.cells #[.int .i64 0] 43) = w2 at *
      go_wp2_with fail
      refine HM.out.mono ?_
      rintro e w3 ⟨rfl, hb3⟩
      have HB3 := Lib.hid (HB.out.trans ((HBA.out.trans (hb3.mono (by omega))).mono hz))
      clear hb3
      go_wp2
      go_ret2
      exact iufPost_none HN.out HB3.out
    · have HH := Lib.hid (as_hit2 (ys.length : Int) ⟨w1.heap.size, 0, none⟩ _ _ w1.heap.size HET.out c0 f0' (Nat.le_refl _) (by omega))
      clear c0 f0'
      by_cases hy : ys.length = 0
      · have hys : ys = [] := List.eq_nil_of_length_eq_zero hy
        have hun' : unA xs = some (Q.map (·.1)) := by rw [HUN.out, if_pos hys]
        have HR := Lib.hid (HY.out _ hun')
        rw [HQL.out] at HR
        rw [hy] at HH ⊢
        clear hun' hys
        go_upto_region 5 with fail
        generalize w1.alloc (.cells #[.int .i64 0] 43) = w2 at *
        go_wp2_with fail
        refine HH.out.mono ?_
        rintro e w3 ⟨rfl, c3, hb3⟩
        have HBW := Lib.hid (HBA.out.trans hb3)
        have HB3 := Lib.hid (HB.out.trans (HBW.out.mono hz))
        have HU3 := Lib.hid (HU.out.keeps (Keeps.of_below (g := 1) HBW.out) HG.out)
        clear hb3
        by_cases h5 : Q.length ≤ 5
        · have hd5 : decide ((5 : Int) < (Q.length : Int)) = false := decide_eq_false (by omega)
          have hr := HR.out
          rw [if_pos h5] at hr
          have HR2 := Lib.hid hr
          clear hr HR
          go_wp2
          go_ret2
          exact ⟨_, Q, by rw [HR2.out]; rfl, HU3.out, HAP.out, by rw [HR2.out]; rfl, HB3.out⟩
        · have hd5 : decide ((5 : Int) < (Q.length : Int)) = true := decide_eq_true (by omega)
          have hr := HR.out
          rw [if_neg h5] at hr
          have HR2 := Lib.hid hr
          clear hr HR
          go_wp2
          go_ret2
          exact iufPost_none HR2.out HB3.out
      · have hne : ys ≠ [] := fun e => hy (by rw [e]; rfl)
        have HN : Hid (unR xs = none) := Lib.hid (HN0.out (by rw [HUN.out, if_neg hne]))
        have hd0 : decide ((0 : Int) < (ys.length : Int)) = true := decide_eq_true (by omega)
        clear hne
        go_upto_region 5 with fail
        generalize w1.alloc (.cells #[.int .i64 0] 43) = w2 at *
        go_wp2_with fail
        refine HH.out.mono ?_
        rintro e w3 ⟨rfl, c3, hb3⟩
        have HB3 := Lib.hid (HB.out.trans ((HBA.out.trans hb3).mono hz))
        clear hb3
        go_wp2
        go_ret2
        exact iufPost_none HN.out HB3.out
  · have HN := Lib.hid (unR_long h120)
    obtain ⟨A, c, rfl, _⟩ := h
    have hd : decide ((120 : Int) < (xs.length : Int)) = true := decide_eq_true (by omega)
    clear he ht
    go_enter Tryd.func8, Tryd.ntmps8
    go_wp2
    go_ret2
    exact iufPost_none HN.out (Below.refl _ _)
end Go.Proofs.YthogkhifgkgplaaDoor
