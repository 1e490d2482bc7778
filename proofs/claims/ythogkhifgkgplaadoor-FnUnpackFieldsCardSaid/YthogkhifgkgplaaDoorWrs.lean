/-
  The walk of the function that reads the fields of bytes. Conditions: where the list lies, the length that is typed, and what the error variable holds.
-/
import Derived.Test.YthogkhifgkgplaaDoorWrs0
import Derived.Test.YthogkhifgkgplaaDoorWla
import Derived.Deep.RegionLaw
import Derived.Deep.AppendLies
import Derived.Deep.Cut
set_option linter.unusedSimpArgs false
namespace Go.Proofs.YthogkhifgkgplaaDoor
open Go.RowKit
set_option linter.unusedVariables false

/-- No two of the fields' bytes lie in one block. -/
def Apt (Q : List (Fd × Value)) : Prop := (Q.map (·.2)).Pairwise (fun a b => ∀ g, a.ownBlock = some g → b.ownBlock ≠ some g)
theorem Apt.nil : Apt [] := List.Pairwise.nil
theorem Apt.push {w : World} {B : Nat} {v : Value} {Q : List (Fd × Value)} {f : Fd} {u : Value} (h : Apt Q) (ho : FOwn w B v Q) (hu : ∀ g, u.ownBlock = some g → w.heap.size ≤ g) : Apt (Q ++ [(f, u)]) := by
  unfold Apt
  rw [List.map_append]
  refine List.pairwise_append.2 ⟨h, by simp, fun a ha b hb g hg e => ?_⟩
  obtain ⟨p, hp, rfl⟩ := List.mem_map.1 ha
  have hb' : b = u := by simpa using hb
  subst hb'
  have := (World.ownsRow.lt (ho.each p hp).1 g hg).2
  have := hu g e
  omega
/-- What the reader of fields leaves. -/
def RsPost (a : Addr) (xs : List Int) (w : World) (e : Ending) (w' : World) : Prop :=
  ∃ (u : Value) (Q : List (Fd × Value)) (ys : List Int) (er : Value), e = .returned (.tuple #[u, er]) ∧ FOwn w' w.heap.size u Q ∧ Apt Q ∧ Q.length ≤ xs.length ∧ ys.length ≤ xs.length ∧ RfErr a ys er ∧ unA xs = (if ys = [] then some (Q.map (·.1)) else none) ∧ Below w.heap.size w w'
theorem rfErr_form {a : Addr} {ys : List Int} {er : Value} (h : RfErr a ys er) : ∃ T V, er = .iface T V := by
  rcases h with ⟨h, _⟩ | h
  · exact ⟨_, _, h⟩
  · exact ⟨_, _, h⟩
set_option maxRecDepth 50000 in
set_option maxHeartbeats 6400000 in
theorem rfs_any (a : Addr) (w : World) (v : Value) (xs : List Int) (h : Rdc w v xs) (hn : xs.length ≤ 1048576) (he : ErrA w a) :
    Calls Tryd.prog 22 #[v] w (RsPost a xs w) := by
  have HRF := Lib.hid (fun (lv : Value) (ys : List Int) W (hr : Rdc w lv ys) (hy : ys.length ≤ 1048576) (hb : Below w.heap.size w W) => rfd_any a W lv ys (hr.below hb hr.lies) hy (he.below hb))
  have HRW := Lib.hid h
  have HG : Hid (1 < w.heap.size) := Lib.hid he.2
  have HI0 : Hid (unA xs = (unA xs).map ((([] : List (Fd × Value)).map (·.1)) ++ ·)) := Lib.hid (by cases unA xs <;> simp)
  obtain ⟨i0, hi, hz0, hz1, hz2⟩ := info_parts infoF
  have HI := Lib.hid hi
  have HZ0 := Lib.hid hz0
  have HZ1 := Lib.hid hz1
  have HZ2 := Lib.hid hz2
  clear hi hz0 hz1 hz2 he
  obtain ⟨A, c, rfl, _, _⟩ := h
  go_enter Tryd.func22, Tryd.ntmps22
  go_wp2
  go_loopw [0, 4] (fun lv fv wr => ∃ (Q : List (Fd × Value)) (ys : List Int), Hid (Rdc w lv ys) ∧ Hid (FOwn wr w.heap.size fv Q) ∧ Hid (Apt Q) ∧ Hid (unA xs = (unA ys).map (Q.map (·.1) ++ ·)) ∧ Q.length + ys.length ≤ xs.length ∧ Hid (Below w.heap.size w wr)) (fun lv _ _ => lenOf lv)
  case atStart => exact ⟨[], xs, Lib.hid HRW.out, Lib.hid (FOwn.none _ _), Lib.hid Apt.nil, Lib.hid HI0.out, by simp, Lib.hid (Below.refl _ _)⟩
  case round =>
    obtain ⟨Q, ys, HL, HO, HA, HU, hlen, HB⟩ := hrel
    have hrc := HRF.out _ ys wr HL.out (by omega) HB.out
    have hz := HB.out.size
    obtain ⟨Al, cl, hvl, hcl, hAt⟩ := HL.out
    subst hvl
    obtain ⟨Ao, co, hof⟩ := HO.out.form
    subst hof
    unfold RfPost at hrc
    cases h1 : oneF ys with
    | none =>
      rw [h1] at hrc
      simp only at hrc
      have HRC := Lib.hid hrc
      have HN := Lib.hid (unA_last HU.out h1)
      have HAt := Lib.hid hAt
      clear hrc h1 hcl hAt
      go_wp2_with fail
      refine HRC.out.mono ?_
      rintro e w1 ⟨hb1, er, rfl, herr⟩
      obtain ⟨T, V, hTV⟩ := rfErr_form herr
      subst hTV
      have HE := Lib.hid herr
      have HK : Hid (Keeps 1 wr w1) := Lib.hid (Keeps.of_below hb1)
      have HB1 := Lib.hid (HB.out.trans (hb1.mono hz))
      have hz1 : wr.heap.size ≤ w1.heap.size := hb1.size
      clear hb1 herr
      go_wp2
      go_ret2
      exact ⟨_, Q, ys, _, rfl, HO.out.keeps (HK.out.alloc _) HG.out, HA.out, by omega, by omega, HE.out, HN.out, HB1.out.alloc (by omega) _⟩
    | some p =>
      obtain ⟨f, n⟩ := p
      rw [h1] at hrc
      simp only at hrc
      have HRC := Lib.hid hrc
      obtain ⟨e1, e2, e3, e4⟩ := oneF_some h1
      have hb16 : f.b.length ≤ 16 := (vf_parts e4).2.1
      have HN := Lib.hid (fun u => unA_more (u := u) HU.out h1)
      obtain ⟨b, off, hAl, _⟩ := hAt (by omega)
      subst hAl
      have HLD : Hid (Rdc w (if cl = n then .slice (some ⟨b, off, none⟩) (ys.length - n) (cl - n) else .slice (some ⟨b, off + n, none⟩) (ys.length - n) (cl - n)) (ys.drop n)) := Lib.hid (by
        split
        · have h0 : ys.length - n = 0 := by omega
          exact ⟨_, _, by rw [List.length_drop], by rw [List.length_drop]; omega, fun h1 => by rw [List.length_drop] at h1; omega⟩
        · exact rdc_drop HL.out e3)
      clear hrc h1 hAt e1 e4
      go_wp2_with fail
      refine HRC.out.mono ?_
      rintro e w1 ⟨hb1, A1, c1, rfl, hr1, hp1⟩
      have hb2 := hb1.alloc hb1.size (.cells #[.int .i64 f.t, .slice A1 f.b.length c1] 55)
      have k2 := Blk.new w1 55 #[.int .i64 f.t, .slice A1 f.b.length c1]
      obtain ⟨d0, d1⟩ := two_blk k2
      have HK2 := Lib.hid k2
      have HR2 : Hid (Rds (w1.alloc (.cells #[.int .i64 f.t, .slice A1 f.b.length c1] 55)) (.slice A1 f.b.length c1) f.b) := Lib.hid (hr1.more8 hb2)
      have HB2 := Lib.hid hb2
      have hz2 : w1.heap.size < (w1.alloc (.cells #[.int .i64 f.t, .slice A1 f.b.length c1] 55)).heap.size := by simp
      have hz1 : wr.heap.size ≤ w1.heap.size := hb1.size
      have hle1 : n ≤ ys.length := e3
      have hle2 : ys.length ≤ cl := hcl
      have HP1 := Lib.hid hp1
      clear hb1 hb2 hr1 hp1 k2 e3 hcl HRC HRF
      obtain ⟨t, bs⟩ := f
      simp only at *
      go_upto_region 5 with fail
      generalize w1.alloc (.cells #[.int .i64 t, .slice A1 bs.length c1] 55) = w2 at *
      have HOB := Lib.hid (fun W (h : Rds W (.slice A1 bs.length c1) bs) => iOB_any W (.slice A1 bs.length c1) bs h HP1.out (by omega))
      go_region_law (first
        | (refine step_append_lies _ rfl (.tmp 18) (.tmp 25) 23 rfl w.heap.size 48 i0 (.agg #[.int .i64 0, .slice none 0 0]) 2 32 Tryd.underlying23 HI.out HZ0.out HZ1.out HZ2.out rfl (by decide) (.slice Ao Q.length co) Q.length (flQ Q) (by simp [Act.eval, Act.put]) HOA.out.top ⟨w3.heap.size, 0, none⟩ 1 1 [.int .i64 t, .slice A3 bs.length c3] (by simp [Act.eval, Act.put]) rfl (cell_two_new _ _ _ _) (two_cells _ _ rfl rfl) (by decide) (by rw [mx]; omega) (by omega) (by simp; omega) _ rfl ?_; intro g9 cap9 w9 hown9 hg9 hat9 hlt9)
        | (go_simp; go_at_call 38; refine (HOB.out w2.drew HR2.out).mono ?_; rintro e w3 ⟨u3, rfl, hu3, hb3⟩; obtain ⟨A3, c3, hf3⟩ := own_form hu3; subst hf3; have hb3' : Below w2.heap.size w2 w3 := (below_drewN (Below.refl w2.heap.size w2) 1).trans hb3; have HU3 : Hid (OwnL w3 w2.heap.size (.slice A3 bs.length c3) bs) := Lib.hid hu3; have HBW := Lib.hid (HB2.out.trans (hb3'.mono (by omega))); have HOA := Lib.hid (HO.out.keeps ((Keeps.of_below (g := 1) HBW.out).alloc (.cells #[.int .i64 t, .slice A3 bs.length c3] 48)) HG.out); have hzw : w2.heap.size ≤ w3.heap.size := hb3'.size; obtain ⟨d2, d3⟩ := two_blk (HK2.out.below hb3' hz2); clear hu3 hb3 hb3'))
      all_goals simp only [Act.put]
      all_goals
        have HF9 := Lib.hid (FOwn.push (v' := .slice (some ⟨g9, 0, none⟩) (Q.length + 1) cap9) (f := ⟨t, bs⟩) HOA.out hg9 (hat9.elim (fun e => .inl e.symm) (fun e => .inr (congrArg some e))) hown9 ((HU3.out.keeps ((Keeps.refl 1 w3).alloc (.cells #[.int .i64 t, .slice A3 bs.length c3] 48)) (by have := HG.out; omega)).base (by omega)) (fun k hk e => by
          have := (World.ownsRow.lt HU3.out k hk).1
          have := (World.ownsRow.lt HO.out.top k e).2
          omega))
        have HA9 := Lib.hid (Apt.push (f := ⟨t, bs⟩) (u := .slice A3 bs.length c3) HA.out HO.out (fun k hk => by have := (World.ownsRow.lt HU3.out k hk).1; omega))
        have HB9 := Lib.hid (((HB.out.trans (HBW.out.mono hz)).alloc (by omega) (.cells #[.int .i64 t, .slice A3 bs.length c3] 48)).grown hg9 (by simp; omega) (fun j hj => (World.ownsRow.lt HOA.out.top j hj).1))
        have HN9 := Lib.hid (HN.out (.slice A3 bs.length c3))
        clear hown9 hg9 hat9 hlt9 HOA HBW HU3 d0 d1 d2 d3 HO HA HB HU HN hz hz1 hz2 hzw HK2 HR2 HB2 HOB HP1
      all_goals
        by_cases hcn : cl = n
        · have hr := HLD.out
          rw [if_pos hcn, show ys.length - n = 0 from by omega, show cl - n = 0 from by omega] at hr
          have HR := Lib.hid hr
          clear hr HLD
          subst hcn
          go_wp2
          go_roundw
          case rel => exact ⟨_, ys.drop cl, Lib.hid HR.out, Lib.hid HF9.out, Lib.hid HA9.out, Lib.hid HN9.out, by simp; omega, Lib.hid HB9.out⟩
          case measure => simp [lenOf]; omega
        · have hr := HLD.out
          rw [if_neg hcn] at hr
          have HR := Lib.hid hr
          have hlt : n ≤ cl := by omega
          clear hr HLD
          go_wp2
          go_roundw
          case rel => exact ⟨_, ys.drop n, Lib.hid HR.out, Lib.hid HF9.out, Lib.hid HA9.out, Lib.hid HN9.out, by simp; omega, Lib.hid HB9.out⟩
          case measure => simp [lenOf]; omega
end Go.Proofs.YthogkhifgkgplaaDoor
