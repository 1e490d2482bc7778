/-
  The walk of the laws' function that compares lists of fields. Conditions: where the lists lie, and the lengths that are typed.
-/
import Derived.Test.YthogkhifgkgplaaDoorWfs
import Derived.Deep.RegionWith
set_option linter.unusedSimpArgs false
namespace Go.Proofs.YthogkhifgkgplaaDoor
open Go.RowKit
set_option linter.unusedVariables false

set_option maxHeartbeats 3200000 in
theorem eqFS_any (w : World) (v u : Value) (L : List Fd) (hv : FRds w v L) (hu : FRds w u L) (hL : L.length ≤ 1048576) (hn : ∀ k, (L.getD k f0).b.length ≤ 1048576) :
    Calls Tryd.prog 9 #[v, u] w fun e w' => e = .returned (.bool true) ∧ Below w.heap.size w w' := by
  have HV := Lib.hid (fun W (hb : Below w.heap.size w W) => hv.more hb)
  have HU := Lib.hid (fun W (hb : Below w.heap.size w W) => hu.more hb)
  obtain ⟨A, c, hvf⟩ := hv.form
  subst hvf
  obtain ⟨A2, c2, huf⟩ := hu.form
  subst huf
  have HN := Lib.hid hn
  clear hv hu hn
  go_enter Tryd.func9, Tryd.ntmps9
  go_wp2
  go_loopw [5] (fun iv wr => ∃ k : Nat, k ≤ L.length ∧ iv = .int .i64 k ∧ Below w.heap.size w wr) (fun iv _ => L.length - (intOf iv).toNat)
  case atStart => exact ⟨0, Nat.zero_le _, rfl, Below.refl _ _⟩
  case round =>
    obtain ⟨k, hk, rfl, hb⟩ := hrel
    have HB := Lib.hid hb
    have hz := hb.size
    by_cases hlt : k < L.length
    · obtain ⟨b, off, hA, hat⟩ := (HV.out wr hb).cells (by omega)
      subst hA
      obtain ⟨b2, off2, hA2, hat2⟩ := (HU.out wr hb).cells (by omega)
      subst hA2
      obtain ⟨x0, p, x1, hp, _⟩ := hat.2 k hlt
      obtain ⟨y0, q, y1, hq, _⟩ := hat2.2 k hlt
      have HE : Hid (∀ W, Below wr.heap.size wr W → Calls Tryd.prog 24 #[.agg #[.int .i64 (L.getD k f0).t, p], .agg #[.int .i64 (L.getD k f0).t, q]] W fun e w' => e = .returned (.bool true) ∧ Below w.heap.size w w') := Lib.hid (fun W hw =>
        (eqF_same _ _ p q W (hp.more8 hw) (hq.more8 hw) (HN.out k)).mono fun e w' ⟨h1, h2⟩ => ⟨h1, (HB.out.trans (hw.mono hz)).trans (h2.mono (Nat.le_trans hz hw.size))⟩)
      clear hat hat2 hp hq hb
      generalize (L.getD k f0).t = t at *
      obtain ⟨wn, hwn⟩ : ∃ wn, wn = wr := ⟨_, rfl⟩
      subst hwn
      go_wp2
      go_region_with (go_at_call 24; refine (HE.out _ (by repeat (first | exact Below.refl _ _ | apply below_drewN (n := 1) | apply below_drewN))).mono ?_; rintro e w3 ⟨rfl, hb3⟩)
      all_goals
        have HB3 := Lib.hid hb3
        clear hb3
        go_wp2
        go_roundw
        case rel => exact ⟨k + 1, by omega, by go_num, HB3.out⟩
        case measure => simp [intOf]; omega
    · clear hb
      go_wp2
      go_ret
      exact ⟨rfl, HB.out⟩
end Go.Proofs.YthogkhifgkgplaaDoor
