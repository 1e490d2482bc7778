/-
  The walks of the laws' own functions on lists of lists of numbers. Conditions: where the lists lie, and the lengths that are typed.
-/
import Derived.Test.YtnghpipkdodgiaaWln
import Derived.BigQuiet
namespace Go.Proofs.Ytnghpipkdodgiaa
open Go.RowKit
set_option linter.unusedVariables false

theorem infoS : (Try.prog.info? 24).map (fun i => (i.zero, i.size, i.bytes)) = some (some (.slice none 0 0), 1, 24) := by kernel_rfl

set_option maxHeartbeats 400000 in
theorem szI_any (w : World) (A : Option Addr) (m c : Nat) (s : Int) (hm : m ≤ maxLen) (hs : 0 ≤ s ∧ s ≤ 1048576) :
    Calls Try.prog 16 #[.slice A m c, .int .i64 s] w fun e w' => e = .returned (.int .i64 (if s - (m : Int) < 0 then -1 else s - (m : Int))) ∧ w = w' := by
  have hmx := mx
  by_cases h : s - (m : Int) < 0
  · rw [if_pos h]
    have hw : IntKind.i64.wrap (s - (m : Int)) = s - (m : Int) := IntWalk.i64_in _ (by omega)
    go_enter Try.func16, Try.ntmps16
    go_wp2
    go_ret
    exact ⟨rfl, rfl⟩
  · rw [if_neg h]
    have hw : IntKind.i64.wrap (s - (m : Int)) = s - (m : Int) := IntWalk.i64_in _ (by omega)
    go_enter Try.func16, Try.ntmps16
    go_wp2
    go_ret
    exact ⟨rfl, rfl⟩

def SzPost (L : List (List Int)) (w : World) (e : Ending) (w' : World) : Prop := ∃ r : Int, e = .returned (.int .i64 r) ∧ w = w' ∧ (r = -1 ∨ (0 ≤ r ∧ r ≤ 1048576 ∧ L.length + allP L ≤ 1048576))

set_option maxHeartbeats 800000 in
theorem szSS_any (w : World) (v : Value) (L : List (List Int)) (hv : RdsL w v L) (hL : L.length ≤ maxLen) (hn : ∀ k, (L.getD k []).length ≤ maxLen) :
    Calls Try.prog 5 #[v, .int .i64 1048576] w (SzPost L w) := by
  obtain ⟨A, c, hvf⟩ := hv.form
  subst hvf
  have HV := Lib.hid hv
  have HN := Lib.hid hn
  have HZ := Lib.hid (fun A m c s h1 h2 => szI_any w A m c s h1 h2)
  have hmx := mx
  clear hv hn
  by_cases h : (1048576 : Int) - (L.length : Int) < 0
  · have hw : IntKind.i64.wrap ((1048576 : Int) - (L.length : Int)) = (1048576 : Int) - (L.length : Int) := IntWalk.i64_in _ (by omega)
    go_enter Try.func5, Try.ntmps5
    go_wp2
    go_ret
    exact ⟨-1, rfl, rfl, .inl rfl⟩
  · have hw : IntKind.i64.wrap ((1048576 : Int) - (L.length : Int)) = (1048576 : Int) - (L.length : Int) := IntWalk.i64_in _ (by omega)
    go_enter Try.func5, Try.ntmps5
    go_wp2
    go_loop [1, 5] (fun sv iv => ∃ (k : Nat) (s : Int), k ≤ L.length ∧ iv = .int .i64 k ∧ sv = .int .i64 s ∧ 0 ≤ s ∧ s = 1048576 - (L.length : Int) - (allP (L.take k) : Int)) (fun _ iv => L.length - (intOf iv).toNat)
    case atStart => exact ⟨0, 1048576 - (L.length : Int), Nat.zero_le _, rfl, rfl, by omega, by simp [allP, sumF]⟩
    case round =>
      obtain ⟨k, s, hk, rfl, rfl, hs0, hs⟩ := hrel
      have hs1 : s ≤ 1048576 := by omega
      have HSS := Lib.hid hs
      clear hs
      by_cases hlt : k < L.length
      · obtain ⟨b, off, Au, cu, hb, hbl, hcu, _⟩ := HV.out.flow k hlt
        subst hb
        have hml := HN.out k
        have HS := Lib.hid (allP_snoc6 L k hlt)
        have hzz := HZ.out Au (L.getD k []).length cu s hml ⟨hs0, hs1⟩
        generalize (L.getD k []).length = m at *
        generalize allP (L.take k) = t at *
        by_cases hneg : s - (m : Int) < 0
        · rw [if_pos hneg] at hzz
          have HZZ := Lib.hid hzz
          clear hzz
          go_wp2_with (go_at_call 16; refine HZZ.out.mono ?_; rintro e w' ⟨rfl, rfl⟩)
          go_ret
          exact ⟨-1, rfl, rfl, .inl rfl⟩
        · rw [if_neg hneg] at hzz
          have HZZ := Lib.hid hzz
          clear hzz
          go_wp2_with (go_at_call 16; refine HZZ.out.mono ?_; rintro e w' ⟨rfl, rfl⟩)
          go_round
          case rel => exact ⟨k + 1, s - m, by omega, by go_num, rfl, by omega, by have := HSS.out; rw [HS.out]; omega⟩
          case measure => simp [intOf]; omega
      · obtain rfl : k = L.length := by omega
        go_wp2
        go_ret
        have hs := HSS.out
        rw [List.take_length] at hs
        exact ⟨s, rfl, rfl, .inr ⟨hs0, by omega, by omega⟩⟩

set_option maxHeartbeats 800000 in
theorem eqSS_any (w : World) (v u : Value) (L : List (List Int)) (hv : RdsL w v L) (hu : RdsL w u L) (hL : L.length ≤ 1048576) (hn : ∀ k, (L.getD k []).length ≤ 1048576) :
    Calls Try.prog 10 #[v, u] w fun e w' => e = .returned (.bool true) ∧ ∃ m, w' = w.drewN m := by
  obtain ⟨A, c, hvf⟩ := hv.form
  subst hvf
  obtain ⟨A2, c2, huf⟩ := hu.form
  subst huf
  have HV := Lib.hid hv
  have HU := Lib.hid hu
  have HN := Lib.hid hn
  clear hv hu hn
  go_enter Try.func10, Try.ntmps10
  go_wp2
  go_loopw [5] (fun iv wr => ∃ (k d : Nat), k ≤ L.length ∧ iv = .int .i64 k ∧ wr = w.drewN d) (fun iv _ => L.length - (intOf iv).toNat)
  case atStart => exact ⟨0, 0, Nat.zero_le _, rfl, rfl⟩
  case round =>
    obtain ⟨k, d, hk, rfl, hwr⟩ := hrel
    have HWR := Lib.hid hwr
    by_cases hlt : k < L.length
    · obtain ⟨b, off, hb, hat⟩ := HV.out.cells (by omega)
      subst hb
      obtain ⟨b2, off2, hb2, hat2⟩ := HU.out.cells (by omega)
      subst hb2
      obtain ⟨x, hx, hxr, _⟩ := hat.2 k hlt
      obtain ⟨y, hy, hyr, _⟩ := hat2.2 k hlt
      have hx' : wr.cell? ⟨b, off + k, none⟩ = some x := by rw [hwr]; exact hx
      have hy' : wr.cell? ⟨b2, off2 + k, none⟩ = some y := by rw [hwr]; exact hy
      have HE : Hid (∀ n, Calls Try.prog 9 #[x, y] (wr.drewN n) fun e w' => e = .returned (.bool true) ∧ ∃ m, w' = (wr.drewN n).drewN m) := Lib.hid (fun n => by rw [hwr]; exact eqI_same ((w.drewN d).drewN n) x y (L.getD k []) ((hxr.drewN d).drewN n) ((hyr.drewN d).drewN n) (HN.out k))
      clear hat hat2 hx hy hxr hyr hwr
      go_wp2
      go_quiet ((go_at_call 9; exact Calls.quiet_of (HE.out _)))
      go_wp2
      go_roundw
      case rel => exact ⟨k + 1, d + nq, by omega, by go_num, by rw [HWR.out, World.drewN_drewN]⟩
      case measure => simp [intOf]; omega
    · clear hwr
      go_wp2
      go_ret
      exact ⟨rfl, d, HWR.out⟩
end Go.Proofs.Ytnghpipkdodgiaa
