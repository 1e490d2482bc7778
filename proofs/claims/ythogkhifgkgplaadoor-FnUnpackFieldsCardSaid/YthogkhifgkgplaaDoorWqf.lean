/-
  The walk of the laws' comparison of lists of fields. Conditions: where the lists lie, and the lengths that are typed.
-/
import Derived.Test.YthogkhifgkgplaaDoorWeql
import Derived.Test.YthogkhifgkgplaaDoorFlm
import Derived.BigQuiet
namespace Go.Proofs.YthogkhifgkgplaaDoor
open Go.RowKit
set_option linter.unusedVariables false

set_option maxRecDepth 50000 in
set_option maxHeartbeats 3200000 in
theorem eqlF_same (w : World) (v u : Value) (L : List Fd) (hv : FRds w v L) (hu : FRds w u L) (hL : L.length ≤ 1048576) (hn : ∀ k, (L.getD k f0).b.length ≤ 1048576) :
    Calls Tryd.prog 18 #[v, u] w fun e w' => e = .returned (.bool true) ∧ ∃ m, w' = w.drewN m := by
  obtain ⟨A, c, hvf⟩ := hv.form
  subst hvf
  obtain ⟨A2, c2, huf⟩ := hu.form
  subst huf
  have HV := Lib.hid hv
  have HU := Lib.hid hu
  have HN := Lib.hid hn
  clear hv hu hn
  go_enter Tryd.func18, Tryd.ntmps18
  go_wp2
  go_loopw [5] (fun iv wr => ∃ (k d : Nat), k ≤ L.length ∧ iv = .int .i64 k ∧ wr = w.drewN d) (fun iv _ => L.length - (intOf iv).toNat)
  case atStart => exact ⟨0, 0, Nat.zero_le _, rfl, rfl⟩
  case round =>
    obtain ⟨k, d, hk, rfl, hwr⟩ := hrel
    have HWR := Lib.hid hwr
    by_cases hlt : k < L.length
    · obtain ⟨b, off, hb, hat⟩ := HV.out.cells (by omega)
      subst hb
      obtain ⟨b2, off2, hb2, hat2⟩ := HU.out.cells (by omega)
      subst hb2
      obtain ⟨x0, x, hx, hxr, _⟩ := hat.2 k hlt
      obtain ⟨y0, y, hy, hyr, _⟩ := hat2.2 k hlt
      have hx0 : wr.cell? ⟨b, off + k * 2, none⟩ = some (.int .i64 (L.getD k f0).t) := by rw [hwr]; exact x0
      have hy0 : wr.cell? ⟨b2, off2 + k * 2, none⟩ = some (.int .i64 (L.getD k f0).t) := by rw [hwr]; exact y0
      have hx' : wr.cell? ⟨b, off + k * 2 + 1, none⟩ = some x := by rw [hwr]; exact hx
      have hy' : wr.cell? ⟨b2, off2 + k * 2 + 1, none⟩ = some y := by rw [hwr]; exact hy
      have HE : Hid (∀ n, Calls Tryd.prog 16 #[x, y] (wr.drewN n) fun e w' => e = .returned (.bool true) ∧ ∃ m, w' = (wr.drewN n).drewN m) := Lib.hid (fun n => by rw [hwr]; exact eqL_same ((w.drewN d).drewN n) x y (L.getD k f0).b ((hxr.drewN d).drewN n) ((hyr.drewN d).drewN n) (HN.out k))
      clear hat hat2 hx hy hxr hyr hwr x0 y0
      generalize (L.getD k f0).t = t at *
      have htt : decide (t = t) = true := decide_eq_true rfl
      have htb : (t == t) = true := by simp
      have htn : (t != t) = false := by simp
      go_wp2
      go_quiet ((go_at_call 16; exact Calls.quiet_of (HE.out _)))
      go_wp2
      go_roundw
      case rel => exact ⟨k + 1, d + nq, by omega, by go_num, by rw [HWR.out, World.drewN_drewN]⟩
      case measure => simp [intOf]; omega
    · clear hwr
      go_wp2
      go_ret
      exact ⟨rfl, d, HWR.out⟩
end Go.Proofs.YthogkhifgkgplaaDoor
