/-
  The walks of a gate that is told by its type. Conditions: where it lies, and the bounds that are typed.
-/
import Derived.Test.YteifojanklggmaaWgq
import Derived.Stop.Asserts
namespace Go.Proofs.Yteifojanklggmaa
open Go.RowKit
set_option linter.unusedVariables false

theorem grown_below {w w1 w9 : World} {row : Option Nat} (h : w.grownBy w1 row) (hb : Below w.heap.size w1 w9) : w.grownBy w9 row :=
  ⟨hb.os.trans h.os, hb.tape.trans h.tape, hb.output.trans h.output, Nat.le_trans h.size hb.size, fun i hi hn => (hb.block i hi).trans (h.block i hi hn)⟩
def gateB (g : Nat) : Value := .iface 49 (.pointer (some ⟨g, 0, none⟩))
def gateQ (g : Nat) : Value := .iface 56 (.pointer (some ⟨g, 0, none⟩))

theorem asB (g : Nat) (w : World) : (Instr.typeAssert (.iface 49 (.pointer (some ⟨g, 0, none⟩))) 60 56 true).run Try.prog w = .ok (.tuple #[.pointer none, .bool false]) w := by kernel_rfl
theorem asQ (g : Nat) (w : World) : (Instr.typeAssert (.iface 56 (.pointer (some ⟨g, 0, none⟩))) 60 56 true).run Try.prog w = .ok (.tuple #[.pointer (some ⟨g, 0, none⟩), .bool true]) w := by kernel_rfl
set_option maxHeartbeats 400000 in
theorem wiB_any (w : World) (g : Nat) :
    Calls Try.prog 41 #[.iface 49 (.pointer (some ⟨g, 0, none⟩))] w fun e w' => e = .returned (.int .i64 0) ∧ w = w' := by
  have hB := asB g
  have hQ := asQ g
  go_enter Try.func41, Try.ntmps41
  go_wp2
  go_ret
  exact ⟨rfl, rfl⟩
set_option maxHeartbeats 400000 in
theorem wiQ_any (w : World) (g : Nat) (r t m : Int) (h : Que w g r t m) :
    Calls Try.prog 41 #[.iface 56 (.pointer (some ⟨g, 0, none⟩))] w fun e w' => e = .returned (.int .i64 t) ∧ w = w' := by
  have c1 := Blk.cell h 1
  simp at c1
  have hB := asB g
  have hQ := asQ g
  go_enter Try.func41, Try.ntmps41
  go_wp2
  go_ret
  exact ⟨rfl, rfl⟩

/-- The method's name is the one that the program's own table of types has. -/
theorem mtB (k : Nat) (nm : String) (hn : Try.prog.underlying 60 = some (.interface #[(nm, 61)])) (hk : k = Try.prog.types.size + Made.depth) (g : Nat) (w : World) :
    (method k 49 (.pointer (some ⟨g, 0, none⟩)) nm).run Try.prog w = .ok (60, .pointer (some ⟨g, 0, none⟩)) w := by
  rw [Try.underlying60] at hn
  obtain rfl : _ = nm := by
    have h1 := Option.some.inj hn
    have h2 := TypeDesc.interface.inj h1
    have h3 := congrArg (fun a => a.toList) h2
    simpa using h3
  subst hk
  kernel_rfl
theorem mtQ (k : Nat) (nm : String) (hn : Try.prog.underlying 60 = some (.interface #[(nm, 61)])) (hk : k = Try.prog.types.size + Made.depth) (g : Nat) (w : World) :
    (method k 56 (.pointer (some ⟨g, 0, none⟩)) nm).run Try.prog w = .ok (62, .pointer (some ⟨g, 0, none⟩)) w := by
  rw [Try.underlying60] at hn
  obtain rfl : _ = nm := by
    have h1 := Option.some.inj hn
    have h2 := TypeDesc.interface.inj h1
    have h3 := congrArg (fun a => a.toList) h2
    simpa using h3
  subst hk
  kernel_rfl

set_option maxHeartbeats 1600000 in
theorem rgB_any (w : World) (g : Nat) (r d : Int) (v : Value) (l : List Int) (hr : 0 ≤ r ∧ r ≤ 30) (hd : 0 ≤ d ∧ d ≤ 200) (hl : okL l = true) (hb : Bkt w g r d d) (hv : Rds w v l) (hne : Lies g v l) :
    Calls Try.prog 34 #[.iface 49 (.pointer (some ⟨g, 0, none⟩)), v] w
      fun e w' => ∃ u, e = .returned u ∧ OwnL w' w.heap.size u (thrL r d l l.length) ∧ Bkt w' g r d (hh r d l l.length) ∧ w.grownBy w' (some g) := by
  obtain ⟨A, c, rfl, hA⟩ := hv
  have hlen := okL_len hl
  have HB := Lib.hid hb
  have HA := Lib.hid hA
  have HN := Lib.hid hne
  have HL := Lib.hid hl
  have hgw := Blk.lt HB.out
  clear hb hA hne hl
  go_enter Try.func34, Try.ntmps34
  go_wp2
  go_loopw [5, 10] (fun sv iv wr => ∃ k : Nat, k ≤ l.length ∧ iv = .int .i64 k ∧ OwnL wr w.heap.size sv (thrL r d l k) ∧ Bkt wr g r d (hh r d l k) ∧ w.grownBy wr (some g)) (fun _ iv _ => l.length - (intOf iv).toNat)
  case atStart => exact ⟨0, Nat.zero_le _, rfl, OwnL.nil _ _, HB.out, World.grownBy.refl _ _⟩
  case round =>
    obtain ⟨k, hk, rfl, hown, hb, hg⟩ := hrel
    by_cases hlt : k < l.length
    · obtain ⟨b, off, rfl, hat⟩ := HA.out (by omega)
      have hbg : b < g := HN.out (by omega) b rfl
      have hc1 := World.grownBy.cell hg (hat.2 k hlt) (by simp; omega)
      have hx := lg_bd HL.out k
      have hxe : l.getD k 0 = lg l k := rfl
      rw [hxe] at hc1
      have hbd := hh_bd hr.1 hd.1 HL.out k
      obtain ⟨As, cs, rfl⟩ := hown.form
      have HO := Lib.hid hown
      have HG := Lib.hid hg
      have HC : Hid (Calls Try.prog 60 #[.pointer (some ⟨g, 0, none⟩), .int .i64 (lg l k)] wr
          fun e w' => e = .returned (.int .i64 (thr r d l k)) ∧ Bkt w' g r d (hh r d l (k + 1)) ∧ wr.grownBy w' (some g)) := Lib.hid (blt_any wr g r d (hh r d l k) (lg l k) hr hd (by omega) hx hb)
      have hgz : g < wr.heap.size := Blk.lt hb
      have hsz : w.heap.size ≤ wr.heap.size := hg.size
      have HT := Lib.hid (thrL_succ r d l k)
      have hlt2 := thrL_len r d l k
      rw [hlt2] at HO
      rw [hlt2]
      clear hown hb hg hxe hbd
      generalize hHE : hh r d l (k + 1) = h' at HC
      have HHE := Lib.hid hHE.symm
      clear hHE
      generalize lg l k = x at *
      generalize thr r d l k = y at *
      go_wp2_with fail
      rw [mtB]
      rotate_left
      · exact Try.underlying60
      · kernel_rfl
      go_wp2_with fail
      refine HC.out.mono ?_
      rintro e w1 ⟨rfl, hb1, hg1⟩
      have ho1 : OwnL w1 w.heap.size (.slice As k cs) (thrL r d l k) := World.ownsRow.kept HO.out hg1 (.inr (fun he => by have := (World.ownsRow.lt HO.out g he).1; omega))
      have hb1' := Lib.hid hb1
      have hgr1 := Lib.hid (grown_trans' HG.out hg1)
      have hz1 : w.heap.size ≤ w1.heap.size := Nat.le_trans hsz hg1.size
      clear hb1 hg1
      go_wp2_with (at_builtin; refine append_oneI rfl (.tmp 14) (.tmp 18) rfl w.heap.size _ (thrL r d l k) y rfl rfl ho1 (by omega) hz1 ?_; intro A9 c9 w9 ho9 hg9 hb9 hz9)
      go_roundw
      case rel => exact ⟨k + 1, by omega, by go_num, by rw [HT.out]; rw [hlt2] at ho9; exact ho9, HHE.out ▸ Blk.below hb1'.out hb9 hgw, grown_below hgr1.out hb9⟩
      case measure => simp [intOf]; omega
    · obtain rfl : k = l.length := by omega
      have H0 := Lib.hid (fun W => wiB_any W g)
      go_wp2
      refine wp_loop_rounds 1 ?_
      rw [rounds_succ]
      go_wp2_with (go_at_call 41; refine (H0.out _).mono ?_; rintro e w' ⟨rfl, rfl⟩)
      go_ret
      exact ⟨_, rfl, hown, hb, hg⟩
end Go.Proofs.Yteifojanklggmaa
