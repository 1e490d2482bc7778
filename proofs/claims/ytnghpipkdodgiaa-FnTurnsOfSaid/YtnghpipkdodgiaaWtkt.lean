/-
  The walk of the method that gives a line its turn. Conditions: where the lines lie, and the bounds that are typed.
-/
import Derived.Test.YtnghpipkdodgiaaWvf
import Derived.Test.YtnghpipkdodgiaaFtv
import Derived.RegionTactic
import Derived.BigQuiet
namespace Go.Proofs.Ytnghpipkdodgiaa
open Go.RowKit
set_option linter.unusedVariables false

theorem grown_set7 {w w' : World} {g i : Nat} {u : Value} (h : w.grownBy w' (some g)) : w.grownBy (w'.setCell ⟨g, i, none⟩ u) (some g) :=
  ⟨h.os, h.tape, h.output, by simpa [World.setCell] using h.size, fun j hj hn => (Below.heap_setCell w' ⟨g, i, none⟩ u j (fun e => hn (by rw [e]))).trans (h.block j hj hn)⟩
theorem grown_drewN7 {w w' : World} {row : Option Nat} (h : w.grownBy w' row) (n : Nat) : w.grownBy (w'.drewN n) row := ⟨h.os, h.tape, h.output, h.size, h.block⟩
/-- What is left of a flow's list, told by memory as it was at the begin. -/
def Lin (w0 : World) (m : List Int) (p : Nat) (u : Value) : Prop :=
  ∃ A c, u = .slice A (m.length - p) c ∧ m.length - p ≤ c ∧ (p < m.length → ∃ bb oo, A = some ⟨bb, oo, none⟩ ∧ bb < w0.heap.size ∧ ∀ k, p + k < m.length → w0.cell? ⟨bb, oo + k, none⟩ = some (.int .i64 (lg m (p + k))))
theorem Lin.adv {w0 : World} {m : List Int} {p k bb oo c : Nat} (hk : p + k ≤ m.length) (hc : m.length - p ≤ c) (hb : bb < w0.heap.size) (h : ∀ k, p + k < m.length → w0.cell? ⟨bb, oo + k, none⟩ = some (.int .i64 (lg m (p + k)))) :
    Lin w0 m (p + k) (.slice (some (if c = k then ⟨bb, oo, none⟩ else ⟨bb, oo + k, none⟩)) (m.length - p - k) (c - k)) := by
  refine ⟨_, _, by congr 1; omega, by omega, fun hlt => ⟨bb, oo + k, ?_, hb, fun j hj => ?_⟩⟩
  · rw [if_neg (by omega)]
  · have := h (k + j) (by omega)
    rw [Nat.add_assoc, this, Nat.add_assoc]

theorem Lin.mk {w0 : World} {m : List Int} {p n c : Nat} {A : Option Addr} (hn : n = m.length - p) (hc : n ≤ c) (h : p < m.length → ∃ bb oo, A = some ⟨bb, oo, none⟩ ∧ bb < w0.heap.size ∧ ∀ k, p + k < m.length → w0.cell? ⟨bb, oo + k, none⟩ = some (.int .i64 (lg m (p + k)))) : Lin w0 m p (.slice A n c) := by
  subst hn; exact ⟨A, c, rfl, hc, h⟩
theorem tkt_end {w0 w wr : World} {m : List Int} {p k g o : Nat} {cc : Int} {T : TypeId} {cs : Array Value} {u : Value} {G : Nat × Int} (hG : G = (p + k, cc)) (hu : Lin w0 m (p + k) u) (hk : Blk wr g T (cs.setIfInBounds (o + 1) (.int .i64 cc))) (hgr : w.grownBy wr (some g)) (N : Nat) :
    Ending.returned (.int .i64 (k : Int)) = Ending.returned (.int .i64 ((G.1 - p : Nat) : Int)) ∧ ∃ u', Lin w0 m G.1 u' ∧ Blk ((wr.drewN N).setCell ⟨g, o, none⟩ u) g T ((cs.setIfInBounds (o + 1) (.int .i64 G.2)).setIfInBounds o u') ∧ w.grownBy ((wr.drewN N).setCell ⟨g, o, none⟩ u) (some g) := by
  subst hG
  refine ⟨by simp only [Nat.add_sub_cancel_left], u, hu, (hk.drewN N).set_ o u, grown_set7 (grown_drewN7 hgr N)⟩

set_option maxHeartbeats 3200000 in
theorem tkt_any (w0 w : World) (q c : Int) (m : List Int) (p g o : Nat) (T : TypeId) (cs : Array Value) (u : Value)
    (hB : Below w0.heap.size w0 w) (hg : w0.heap.size ≤ g) (hk : Blk w g T cs) (h0 : cs[o]? = some u) (h1 : cs[o + 1]? = some (.int .i64 c)) (hu : Lin w0 m p u) (hm : okP m = true) (hq : 1 ≤ q ∧ q ≤ 30) (hc : 0 ≤ c ∧ c ≤ 30000) (hp : p ≤ m.length) :
    Calls Try.prog 24 #[.pointer (some ⟨g, o, none⟩), .int .i64 q] w fun e w' =>
      e = .returned (.int .i64 ((go m p (c + q)).1 - p : Nat)) ∧ ∃ u', Lin w0 m (go m p (c + q)).1 u' ∧ Blk w' g T ((cs.setIfInBounds (o + 1) (.int .i64 (go m p (c + q)).2)).setIfInBounds o u') ∧ w.grownBy w' (some g) := by
  obtain ⟨hmL, hm6⟩ := okP_parts hm
  obtain ⟨A, cu, rfl, hcu, hA⟩ := hu
  have HBE := Lib.hid hB
  have HK := Lib.hid hk
  have ho : o + 1 < cs.size := (Array.getElem?_eq_some_iff.1 h1).1
  have HH0 := Lib.hid h0
  have HH1 := Lib.hid h1
  have HA := Lib.hid hA
  obtain ⟨G, hG⟩ : ∃ G, G = go m p (c + q) := ⟨_, rfl⟩
  rw [← hG]
  have HG := Lib.hid hG
  have k0 : w.cell? ⟨g, o, none⟩ = some (.slice A (m.length - p) cu) := by rw [hk.cell]; exact h0
  have k1 : w.cell? ⟨g, o + 1, none⟩ = some (.int .i64 c) := by rw [hk.cell]; exact h1
  have kf := hk.frozen (o + 1)
  have hw : IntKind.i64.wrap (c + q) = c + q := IntWalk.i64_in _ (by omega)
  have HST : Hid (Blk (w.setCell ⟨g, o + 1, none⟩ (.int .i64 (c + q))) g T (cs.setIfInBounds (o + 1) (.int .i64 (c + q)))) := Lib.hid (hk.set_ _ _)
  clear hB hk h0 h1 hA hG hm
  go_enter Try.func24, Try.ntmps24
  go_wp2
  go_loopw [5] (fun kv wr => ∃ (k : Nat) (cc : Int), kv = .int .i64 k ∧ go m (p + k) cc = G ∧ p + k ≤ m.length ∧ 0 ≤ cc ∧ cc ≤ c + q ∧ Blk wr g T (cs.setIfInBounds (o + 1) (.int .i64 cc)) ∧ w.grownBy wr (some g)) (fun kv _ => m.length - (intOf kv).toNat)
  case atStart => exact ⟨0, c + q, rfl, by rw [HG.out]; rfl, hp, by omega, Int.le_refl _, HST.out, grown_set7 (World.grownBy.refl _ _)⟩
  case round =>
    obtain ⟨k, cc, rfl, hgo, hpk, hcn, hcx, hk, hgr⟩ := hrel
    clear k0 k1 kf hw HST HK
    have k0 : wr.cell? ⟨g, o, none⟩ = some (.slice A (m.length - p) cu) := by
      rw [hk.cell, Array.getElem?_setIfInBounds_ne (by omega)]; exact HH0.out
    have k1 : wr.cell? ⟨g, o + 1, none⟩ = some (.int .i64 cc) := by
      rw [hk.cell, Array.getElem?_setIfInBounds_self_of_lt ho]
    have kf0 := hk.frozen o
    have kf1 := hk.frozen (o + 1)
    have HKB := Lib.hid hk
    have HGR := Lib.hid hgr
    have HGO := Lib.hid hgo
    have hBE : Below w0.heap.size w0 wr := HBE.out.grown hgr HBE.out.size (fun j hj => by injection hj with e; omega)
    obtain ⟨n, hn⟩ : ∃ n, n = m.length - p := ⟨_, rfl⟩
    rw [← hn] at k0 hcu
    have HN := Lib.hid hn
    by_cases hpl : p < m.length
    · obtain ⟨bb, oo, hA', hbb, hx⟩ := HA.out hpl
      subst hA'
      have HX := Lib.hid hx
      by_cases hlt : p + k < m.length
      · have kx : wr.cell? ⟨bb, oo + k, none⟩ = some (.int .i64 (lg m (p + k))) := (hBE.cell (p := ⟨bb, oo + k, none⟩) hbb).trans (hx k hlt)
        have hkn : (k : Int) < (n : Int) := by omega
        have hkn2 : k < n := by omega
        have hkd : decide (k < n) = true := decide_eq_true hkn2
        have hxb := lg_bd hmL (p + k)
        by_cases hle : lg m (p + k) ≤ cc
        · have hd : decide (lg m (p + k) ≤ cc) = true := decide_eq_true hle
          have HGN := Lib.hid ((go_on hlt hle).symm.trans hgo)
          generalize lg m (p + k) = x at *
          have hwx : IntKind.i64.wrap (cc - x) = cc - x := IntWalk.i64_in _ (by omega)
          clear hk hgr hgo hx hBE hn
          go_wp2
          go_quiet (fail)
          go_wp2
          go_region
          have hbk : Blk ((wr.drewN (nq + 1)).setCell ⟨g, o + 1, none⟩ (.int .i64 (cc - x))) g T (cs.setIfInBounds (o + 1) (.int .i64 (cc - x))) := by
            have := (HKB.out.drewN (nq + 1)).set_ (o + 1) (.int .i64 (cc - x))
            rwa [Array.setIfInBounds_setIfInBounds] at this
          have HBK := Lib.hid hbk
          have HGR2 := Lib.hid (grown_set7 (i := o + 1) (u := .int .i64 (cc - x)) (grown_drewN7 HGR.out (nq + 1)))
          generalize (wr.drewN (nq + 1)).setCell ⟨g, o + 1, none⟩ (.int .i64 (cc - x)) = w5 at *
          clear k0 k1 kf0 kf1 kx hbk
          go_wp2
          go_roundw
          case rel => exact ⟨k + 1, cc - x, by go_num, by rw [← Nat.add_assoc]; exact HGN.out, by omega, by omega, by omega, HBK.out, HGR2.out⟩
          case measure => simp [intOf]; omega
        · have hd : decide (lg m (p + k) ≤ cc) = false := decide_eq_false hle
          have HGE : Hid (G = (p + k, cc)) := Lib.hid (hgo.symm.trans (go_end (fun h => hle h.2)))
          generalize lg m (p + k) = x at *
          clear hk hgr hgo hx hBE hn
          go_wp2
          go_quiet (fail)
          go_wp2
          go_ret
          exact tkt_end HGE.out (Lin.mk (by have := HN.out; omega) (by have := HN.out; omega) (fun h => ⟨bb, oo + k, rfl, hbb, fun j hj => by rw [Nat.add_assoc, HX.out (k + j) (by omega), Nat.add_assoc]⟩)) HKB.out HGR.out nq
      · have HGE : Hid (G = (p + k, cc)) := Lib.hid (hgo.symm.trans (go_end (fun h => hlt h.1)))
        obtain rfl : k = n := by omega
        have hkd : decide (k < k) = false := decide_eq_false (by omega)
        clear hk hgr hgo hx hBE hn
        go_wp2
        go_quiet (fail)
        go_wp2
        all_goals
          go_ret
          exact tkt_end HGE.out (Lin.mk (by have := HN.out; omega) (by have := HN.out; omega) (fun h => absurd h hlt)) HKB.out HGR.out nq
    · have HGE : Hid (G = (p + k, cc)) := Lib.hid (hgo.symm.trans (go_end (fun h => by omega)))
      obtain rfl : n = 0 := by omega
      obtain rfl : k = 0 := by omega
      clear hk hgr hgo hBE hn
      cases A with
      | none =>
        go_wp2
        go_quiet (fail)
        go_wp2
        go_ret
        exact tkt_end HGE.out (Lin.mk (by have := HN.out; omega) (by have := HN.out; omega) (fun h => absurd h (by omega))) HKB.out HGR.out nq
      | some ad =>
        go_wp2
        go_quiet (fail)
        go_wp2
        go_ret
        exact tkt_end HGE.out (Lin.mk (by have := HN.out; omega) (by have := HN.out; omega) (fun h => absurd h (by omega))) HKB.out HGR.out nq
end Go.Proofs.Ytnghpipkdodgiaa
