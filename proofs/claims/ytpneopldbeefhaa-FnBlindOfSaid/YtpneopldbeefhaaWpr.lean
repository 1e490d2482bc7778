/-
  The walks of the functions that compare, mark and measure lists of pairs. Conditions: where the lists lie, and the lengths that are typed.
-/
import Derived.Test.YtpneopldbeefhaaIrow
namespace Go.Proofs.Ytpneopldbeefhaa
open Go.RowKit
set_option linter.unusedVariables false

/-- Lists of two, as values. -/
def pv (gs : List Nat) : List Value := gs.map fun g => .slice (some ⟨g, 0, none⟩) 2 2
theorem pv_len (gs : List Nat) : (pv gs).length = gs.length := by simp [pv]
theorem pv_get (gs : List Nat) (j : Nat) (h : j < gs.length) : (pv gs)[j]? = some (.slice (some ⟨gs.getD j 0, 0, none⟩) 2 2) := by
  simp [pv, List.getD_eq_getElem?_getD, List.getElem?_eq_getElem h]
/-- A row of the call's own of pairs of numbers. -/
structure PR (w : World) (B : Nat) (v : Value) (gs : List Nat) (f : Nat → Int × Int) : Prop where
  own : w.ownsRow B 33 1 v gs.length (pv gs)
  inn : ∀ j, j < gs.length → w.ownsRow B 3 1 (.slice (some ⟨gs.getD j 0, 0, none⟩) 2 2) 2 (ints [(f j).1, (f j).2])
  ord : gs.Pairwise (· < ·)
theorem PR.drewN {w : World} {B : Nat} {v : Value} {gs : List Nat} {f : Nat → Int × Int} (h : PR w B v gs f) (m : Nat) : PR (w.drewN m) B v gs f := ⟨h.own, h.inn, h.ord⟩
theorem PR.ext {w : World} {B : Nat} {v : Value} {gs : List Nat} {f f' : Nat → Int × Int} (h : PR w B v gs f) (he : ∀ j, j < gs.length → f j = f' j) : PR w B v gs f' :=
  ⟨h.own, fun j hj => by rw [← he j hj]; exact h.inn j hj, h.ord⟩
theorem PR.lt {w : World} {B : Nat} {v : Value} {gs : List Nat} {f : Nat → Int × Int} (h : PR w B v gs f) (j : Nat) (hj : j < gs.length) : B ≤ gs.getD j 0 ∧ gs.getD j 0 < w.heap.size :=
  (h.inn j hj).lt _ rfl
theorem PR.below {w w' : World} {B : Nat} {v : Value} {gs : List Nat} {f : Nat → Int × Int} (h : PR w B v gs f) (hb : Below w.heap.size w w') : PR w' B v gs f :=
  ⟨own_below h.own hb (fun g hg => (h.own.lt g hg).2), fun j hj => own_below (h.inn j hj) hb (fun g hg => ((h.inn j hj).lt g hg).2), h.ord⟩
theorem PR.outer {w : World} {B : Nat} {v : Value} {gs : List Nat} {f : Nat → Int × Int} (h : PR w B v gs f) (g : Nat) (hg : v.ownBlock = some g) (j : Nat) (hj : j < gs.length) : g ≠ gs.getD j 0 := by
  intro e
  rcases h.own.2 with ⟨rfl, _⟩ | ⟨g1, c1, cur1, rfl, _, h1, _⟩
  · simp [Value.ownBlock] at hg
  · have : g1 = g := by simpa [Value.ownBlock] using hg
    rcases (h.inn j hj).2 with ⟨h', _⟩ | ⟨g2, c2, cur2, h2, _, h3, _⟩
    · simp at h'
    · simp only [Value.slice.injEq, Option.some.injEq, Addr.mk.injEq, and_true, true_and] at h2
      rw [this, e, h2.1] at h1
      rw [h3] at h1
      simp at h1
theorem PR.inner {w : World} {B : Nat} {v : Value} {gs : List Nat} {f : Nat → Int × Int} (h : PR w B v gs f) (i j : Nat) (hi : i < gs.length) (hj : j < gs.length) (hne : i ≠ j) : gs.getD i 0 ≠ gs.getD j 0 := by
  have hp := List.pairwise_iff_getElem.1 h.ord
  simp only [List.getD_eq_getElem?_getD, List.getElem?_eq_getElem hi, List.getElem?_eq_getElem hj, Option.getD_some]
  rcases Nat.lt_or_gt_of_ne hne with hlt | hlt
  · have := hp i j hi hj hlt; omega
  · have := hp j i hj hi hlt; omega
/-- One pair is written over. -/
theorem PR.set {w w' : World} {B : Nat} {v : Value} {gs : List Nat} {f : Nat → Int × Int} (h : PR w B v gs f) (k : Nat) (hk : k < gs.length) (p : Int × Int)
    (hin : w'.ownsRow B 3 1 (.slice (some ⟨gs.getD k 0, 0, none⟩) 2 2) 2 (ints [p.1, p.2])) (hg : w.grownBy w' (some (gs.getD k 0))) : PR w' B v gs (fun j => if j = k then p else f j) := by
  refine ⟨h.own.kept hg ?_, fun j hj => ?_, h.ord⟩
  · rcases ho : v.ownBlock with _ | g
    · exact .inl rfl
    · exact .inr (by simpa using h.outer g ho k hk)
  · by_cases hjk : j = k
    · subst hjk
      simpa using hin
    · rw [if_neg hjk]
      exact (h.inn j hj).kept hg (.inr (by simpa [Value.ownBlock] using h.inner j k hj hk hjk))
theorem PR.nil (w : World) (B : Nat) (f : Nat → Int × Int) : PR w B (.slice none 0 0) [] f := ⟨World.ownsRow_nil _ _ _ _, fun j hj => absurd hj (by simp), by simp⟩
theorem PR.at_ {w : World} {B : Nat} {v : Value} {gs : List Nat} {f : Nat → Int × Int} (h : PR w B v gs f) (j : Nat) (hj : j < gs.length) : At w (gs.getD j 0) 0 [(f j).1, (f j).2] :=
  OwnI.at_ (cap := 2) (h.inn j hj)

set_option maxHeartbeats 800000 in
theorem eqPP_any (w : World) (B B' : Nat) (v u : Value) (gs gs' : List Nat) (f : Nat → Int × Int) (h : PR w B v gs f) (h2 : PR w B' u gs' f) (hl : gs'.length = gs.length) (hn : gs.length ≤ 1000) :
    Calls Try.prog 11 #[v, u] w fun e w' => e = .returned (.bool true) ∧ ∃ m, w' = w.drewN m := by
  rcases Nat.eq_zero_or_pos gs.length with h0 | h0
  · obtain ⟨A, c, rfl⟩ := own_form h.own
    obtain ⟨A2, c2, rfl⟩ := own_form h2.own
    rw [hl, h0]
    go_enter Try.func11, Try.ntmps11
    go_wp2
    refine wp_loop_rounds 1 ?_
    rw [rounds_succ]
    go_wp2
    go_ret
    exact ⟨rfl, 0, rfl⟩
  · obtain ⟨g, c, rfl⟩ := own_form_some h.own h0
    obtain ⟨g2, c2, rfl⟩ := own_form_some h2.own (by omega)
    have HC : Hid (∀ k, k < gs.length → w.cell? ⟨g, k, none⟩ = some (.slice (some ⟨gs.getD k 0, 0, none⟩) 2 2)) := fun k hk => (h.own.cellAt k (by omega)).trans (pv_get gs k hk)
    have HC2 : Hid (∀ k, k < gs.length → w.cell? ⟨g2, k, none⟩ = some (.slice (some ⟨gs'.getD k 0, 0, none⟩) 2 2)) := fun k hk => (h2.own.cellAt k (by omega)).trans (pv_get gs' k (by omega))
    have HE : Hid (∀ k, k < gs.length → ∀ m q, Calls Try.prog 27 #[.slice (some ⟨gs.getD k 0, 0, none⟩) 2 2, .slice (some ⟨gs'.getD k 0, 0, none⟩) 2 2] ((w.drewN m).drewN q) fun e w' => e = .returned (.bool true) ∧ ∃ m', w' = ((w.drewN m).drewN q).drewN m') := (by
      intro k hk m q
      have := eqI_at ((w.drewN m).drewN q) (gs.getD k 0) 0 2 (gs'.getD k 0) 0 2 2 [(f k).1, (f k).2] [(f k).1, (f k).2] rfl rfl (by omega) (((h.drewN m).drewN q).at_ k hk) (((h2.drewN m).drewN q).at_ k (by omega))
      simpa using this)
    rw [hl]
    clear h h2 hl
    generalize gs.length = n at *
    go_enter Try.func11, Try.ntmps11
    go_wp2
    go_loopw [5] (fun i wr => ∃ k m : Nat, k ≤ n ∧ i = .int .i64 k ∧ wr = w.drewN m) (fun i _ => n - (intOf i).toNat)
    case atStart => exact ⟨0, 0, Nat.zero_le _, rfl, rfl⟩
    case round =>
      obtain ⟨k, m, hk, rfl, rfl⟩ := hrel
      by_cases hlt : k < n
      · have hc1 : (w.drewN m).cell? ⟨g, k, none⟩ = some (.slice (some ⟨gs.getD k 0, 0, none⟩) 2 2) := HC.out k hlt
        have hc2 : (w.drewN m).cell? ⟨g2, k, none⟩ = some (.slice (some ⟨gs'.getD k 0, 0, none⟩) 2 2) := HC2.out k hlt
        have he := HE.out k hlt m
        generalize hwj : w.drewN m = wj at hc1 hc2 he ⊢
        have HWJ := Lib.hid hwj
        clear hwj
        have hk0 : (0 : Int) ≤ (k : Int) := by omega
        have hkn : (k : Int) < (n : Int) := by omega
        generalize gs.getD k 0 = x at hc1 he
        generalize gs'.getD k 0 = y at hc2 he
        have HEE := Lib.hid he
        clear he
        go_wp2
        go_quiet ((go_at_call 27; exact Calls.quiet_of (HEE.out _)))
        go_wp2
        go_roundw
        case rel => exact ⟨k + 1, m + nq, by omega, by go_num, by rw [← HWJ.out, World.drewN_drewN]⟩
        case measure => simp [intOf]; omega
      · go_wp2
        go_ret
        exact ⟨rfl, m, rfl⟩

theorem seqI2 (k : Int) : seqI k 2 = [k, k + 1] := by simp [seqI, List.range_succ]
def mk2 (k0 : Int) (j : Nat) : Int × Int := (k0 + 2 * (j : Int), k0 + 2 * (j : Int) + 1)

set_option maxHeartbeats 800000 in
theorem markPP_any (w : World) (B : Nat) (v : Value) (gs : List Nat) (f : Nat → Int × Int) (k0 : Int) (hk0 : 0 ≤ k0) (hk1 : k0 ≤ 1000) (h : PR w B v gs f) (hn : gs.length ≤ 1000) (hB : B ≤ w.heap.size) :
    Calls Try.prog 12 #[v, .int .i64 k0] w fun e w' => e = .returned (.int .i64 (k0 + 2 * (gs.length : Int))) ∧ PR w' B v gs (mk2 k0) ∧ Below B w w' := by
  rcases Nat.eq_zero_or_pos gs.length with h0 | h0
  · obtain ⟨A, c, rfl⟩ := own_form h.own
    have h' := h.ext (f' := mk2 k0) (fun j hj => by omega)
    rw [h0] at h' ⊢
    clear h
    go_enter Try.func12, Try.ntmps12
    go_wp2
    refine wp_loop_rounds 1 ?_
    rw [rounds_succ]
    go_wp2
    go_ret
    exact ⟨by simp, h', Below.refl _ _⟩
  · obtain ⟨g, c, rfl⟩ := own_form_some h.own h0
    have H := Lib.hid h
    clear h
    go_enter Try.func12, Try.ntmps12
    go_wp2
    go_loopw [1, 5] (fun kv i wr => ∃ k : Nat, k ≤ gs.length ∧ i = .int .i64 k ∧ kv = .int .i64 (k0 + 2 * (k : Int)) ∧ PR wr B (.slice (some ⟨g, 0, none⟩) gs.length c) gs (fun j => if j < k then mk2 k0 j else f j) ∧ Below B w wr ∧ B ≤ wr.heap.size) (fun _ i _ => gs.length - (intOf i).toNat)
    case atStart => exact ⟨0, Nat.zero_le _, rfl, by simp, H.out.ext (fun j hj => by simp), Below.refl _ _, hB⟩
    case round =>
      obtain ⟨k, hk, rfl, rfl, hown, hbel, hsz⟩ := hrel
      by_cases hlt : k < gs.length
      · have hkl : k < gs.length := hlt
        have hc1 := (hown.own.cellAt k (by omega)).trans (pv_get gs k hkl)
        have hin := hown.inn k hkl
        have hm := markI_at wr B (gs.getD k 0) 2 2 _ (k0 + 2 * (k : Int)) rfl (by omega) (by omega) (by omega) hin
        have hset : ∀ w', w'.ownsRow B 3 1 (.slice (some ⟨gs.getD k 0, 0, none⟩) 2 2) 2 (ints [k0 + 2 * (k : Int), k0 + 2 * (k : Int) + 1]) → wr.grownBy w' (some (gs.getD k 0)) → PR w' B (.slice (some ⟨g, 0, none⟩) gs.length c) gs (fun j => if j < k + 1 then mk2 k0 j else f j) := fun w' hi hg => (hown.set k hkl (k0 + 2 * (k : Int), k0 + 2 * (k : Int) + 1) hi hg).ext (fun j hj => by
          by_cases h1 : j = k
          · subst h1; simp [mk2]
          · by_cases h2 : j < k
            · simp [h1, h2, show j < k + 1 from by omega]
            · simp [h1, h2, show ¬ j < k + 1 from by omega])
        have hge := (hown.lt k hkl).1
        rw [seqI2] at hm
        clear hin
        generalize gs.getD k 0 = x at hc1 hm hset hge
        have HM := Lib.hid hm
        have HSET := Lib.hid hset
        have HBEL := Lib.hid hbel
        clear hm hset hown hkl hbel
        go_wp2_with (go_at_call 28; refine HM.out.mono ?_; rintro e w' ⟨rfl, hi, hg⟩)
        have hp := HSET.out _ hi hg
        have hb2 := below_grown HBEL.out hg hge hsz
        go_roundw
        case rel => exact ⟨k + 1, by omega, by go_num, by go_num, hp, hb2, by have := hg.size; omega⟩
        case measure => simp [intOf]; omega
      · have hkn : k = gs.length := by omega
        have hp := hown.ext (f' := mk2 k0) (fun j hj => by rw [if_pos (by omega)])
        rw [hkn]
        go_wp2
        go_ret
        exact ⟨rfl, hp, hbel⟩

set_option maxHeartbeats 800000 in
theorem heldPP_any (w : World) (B : Nat) (v : Value) (gs : List Nat) (k0 : Int) (hk0 : 0 ≤ k0) (hk1 : k0 ≤ 1000) (h : PR w B v gs (mk2 k0)) (hn : gs.length ≤ 1000) :
    Calls Try.prog 13 #[v, .int .i64 k0] w fun e w' => e = .returned (.int .i64 (k0 + 2 * (gs.length : Int))) ∧ w' = w := by
  rcases Nat.eq_zero_or_pos gs.length with h0 | h0
  · obtain ⟨A, c, rfl⟩ := own_form h.own
    rw [h0]
    clear h
    go_enter Try.func13, Try.ntmps13
    go_wp2
    refine wp_loop_rounds 1 ?_
    rw [rounds_succ]
    go_wp2
    go_ret
    exact ⟨by simp, rfl⟩
  · obtain ⟨g, c, rfl⟩ := own_form_some h.own h0
    have HC : Hid (∀ k, k < gs.length → w.cell? ⟨g, k, none⟩ = some (.slice (some ⟨gs.getD k 0, 0, none⟩) 2 2)) := fun k hk => (h.own.cellAt k (by omega)).trans (pv_get gs k hk)
    have HH : Hid (∀ k, k < gs.length → Calls Try.prog 29 #[.slice (some ⟨gs.getD k 0, 0, none⟩) 2 2, .int .i64 (k0 + 2 * (k : Int))] w fun e w' => e = .returned (.int .i64 (k0 + 2 * (k : Int) + 2)) ∧ w' = w) := (by
      intro k hk
      have := heldI_at w (gs.getD k 0) 0 2 2 (k0 + 2 * (k : Int)) (by omega) (by omega) (by omega) (by rw [seqI2]; exact h.at_ k hk)
      simpa using this)
    clear h
    generalize gs.length = n at *
    go_enter Try.func13, Try.ntmps13
    go_wp2
    go_loop [1, 5] (fun kv i => ∃ k : Nat, k ≤ n ∧ i = .int .i64 k ∧ kv = .int .i64 (k0 + 2 * (k : Int))) (fun _ i => n - (intOf i).toNat)
    case atStart => exact ⟨0, Nat.zero_le _, rfl, by simp⟩
    case round =>
      obtain ⟨k, hk, rfl, rfl⟩ := hrel
      by_cases hlt : k < n
      · have hc1 := HC.out k hlt
        have hh := HH.out k hlt
        generalize gs.getD k 0 = x at hc1 hh
        have HHH := Lib.hid hh
        have hnn : ¬ k0 + 2 * (k : Int) + 2 < 0 := by omega
        clear hh
        go_wp2_with (go_at_call 29; refine HHH.out.mono ?_; rintro e w' ⟨rfl, rfl⟩)
        go_round
        case rel => exact ⟨k + 1, by omega, by go_num, by go_num⟩
        case measure => simp [intOf]; omega
      · obtain rfl : k = n := by omega
        go_wp2
        go_ret
        exact ⟨rfl, rfl⟩
end Go.Proofs.Ytpneopldbeefhaa
