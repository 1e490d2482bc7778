/-
  The walk of the law FnHolesOf: it returns true at every code. No condition but that the code is a list that can be.
-/
import Derived.Test.YteililppbnbfhaaWdh
import Derived.Test.YteililppbnbfhaaWhm
import Derived.Test.YteililppbnbfhaaWep
namespace Go.Proofs.Yteililppbnbfhaa
open Go.RowKit
set_option linter.unusedVariables false

set_option maxHeartbeats 3200000 in
theorem fnHolesOf_walk (a : Option Addr) (len cap : Nat) (zs : List Int) (w : World) (h : IsRow .u8 w a len cap zs) :
    Calls Try.prog 6 #[.slice a len cap] w fun e w' => e = .returned (.bool true) ∧ Below w.heap.size w w' := by
  by_cases hg : (1048576 : Int) < (len : Int)
  · go_enter Try.func6, Try.ntmps6
    go_wp2_with fail
    go_ret
    exact ⟨rfl, Below.refl _ _⟩
  · have H := Lib.hid (dHO_any w a len cap zs h)
    clear h
    go_enter Try.func6, Try.ntmps6
    go_wp2_with fail
    refine H.out.mono ?_
    rintro e w1 ⟨u, l, B, L, rfl, ho, hl, hb1, hL0, hL1⟩
    have HO := Lib.hid ho
    have HU := Lib.hid (PRds.of_own ho)
    have HB1 := Lib.hid hb1
    obtain ⟨A, c, rfl⟩ := own_form3 ho
    clear H ho hb1
    have HI := Lib.hid (fun W v ps L h hn => iHO_any W v ps L h hn)
    have HS := Lib.hid (fun W v ps h hn => sHO_any W v ps L h hn)
    have HQ := Lib.hid (fun W v u ps h h2 hn => eqL_same W v u ps h h2 hn)
    have HV := Lib.hid (fun W h => iVP_any W (.slice A l.length c) l h (by omega))
    go_wp2_with fail
    refine (HI.out _ _ l L HU.out (by omega)).mono ?_
    rintro e w2 ⟨g, R, rfl, hjp, hg2, hb2⟩
    have HJ := Lib.hid hjp
    have hR := hjp.len
    have HGO2 := Lib.hid hg2
    have HG2 := Lib.hid (PRds.of_own hg2)
    have HU2 := Lib.hid (HU.out.more hb2)
    have HO2 : Hid (OwnP w2 B (.slice A l.length c) l) := Lib.hid (own3_below HO.out hb2 (fun k hk => (World.ownsRow.lt HO.out k hk).2))
    have HB2 := Lib.hid (HB1.out.trans (hb2.mono HB1.out.size))
    obtain ⟨A2, c2, rfl⟩ := own_form3 hg2
    clear hjp hg2 hb2 HU HO
    go_wp2_with fail
    refine (HS.out _ _ l HU2.out (by omega)).mono ?_
    rintro e w3 ⟨s, R', rfl, hjp, hs3, hb3⟩
    obtain rfl := HJ.out.uniq hjp
    have HS3 := Lib.hid (PRds.of_own hs3)
    have HG3 := Lib.hid (HG2.out.more hb3)
    have HU3 := Lib.hid (HU2.out.more hb3)
    have HO3 : Hid (OwnP w3 B (.slice A l.length c) l) := Lib.hid (own3_below HO2.out hb3 (fun k hk => (World.ownsRow.lt HO2.out k hk).2))
    have HGO3 : Hid (OwnP w3 w1.heap.size (.slice A2 R.length c2) R) := Lib.hid (own3_below HGO2.out hb3 (fun k hk => (World.ownsRow.lt HGO2.out k hk).2))
    have HB3 := Lib.hid (HB2.out.trans (hb3.mono HB2.out.size))
    clear hjp hs3 hb3 HG2 HU2 HO2 HGO2 HB2
    go_wp2_with fail
    refine (HQ.out _ _ _ R HG3.out HS3.out (by omega)).mono ?_
    rintro e w4 ⟨rfl, m4, hw4⟩
    have HG4 : Hid (PRds w4 (.slice A2 R.length c2) R) := Lib.hid (by rw [hw4]; exact HG3.out.drewN m4)
    have HU4 : Hid (PRds w4 (.slice A l.length c) l) := Lib.hid (by rw [hw4]; exact HU3.out.drewN m4)
    have HO4 : Hid (OwnP w4 B (.slice A l.length c) l) := Lib.hid (by rw [hw4]; exact HO3.out)
    have HGO4 : Hid (OwnP w4 w1.heap.size (.slice A2 R.length c2) R) := Lib.hid (by rw [hw4]; exact HGO3.out)
    have HB4 : Hid (Below w.heap.size w w4) := Lib.hid (by rw [hw4]; exact below_drewN HB3.out m4)
    clear hw4 HG3 HU3 HO3 HGO3 HB3 HS3
    have hcase : okH l L = (vpB l && (decide (1 ≤ L) && decide (L ≤ 60))) := rfl
    go_wp2_with fail
    refine (HV.out _ HU4.out).mono ?_
    rintro e w5 ⟨rfl, hb5⟩
    have HG5 := Lib.hid (HG4.out.more hb5)
    have HU5 := Lib.hid (HU4.out.more hb5)
    have HO5 : Hid (OwnP w5 B (.slice A l.length c) l) := Lib.hid (own3_below HO4.out hb5 (fun k hk => (World.ownsRow.lt HO4.out k hk).2))
    have HGO5 : Hid (OwnP w5 w1.heap.size (.slice A2 R.length c2) R) := Lib.hid (own3_below HGO4.out hb5 (fun k hk => (World.ownsRow.lt HGO4.out k hk).2))
    have HB5 := Lib.hid (HB4.out.trans (hb5.mono HB4.out.size))
    clear hb5 HG4 HU4 HO4 HGO4 HB4 HV
    cases hv : vpB l
    · clear hcase hv
      go_wp2_with fail
      refine (HS.out _ _ l HU5.out (by omega)).mono ?_
      rintro e w6 ⟨s6, R', rfl, hjp, hs6, hb6⟩
      obtain rfl := HJ.out.uniq hjp
      have HX6 := Lib.hid (PRds.of_own hs6)
      have HG6 := Lib.hid (HG5.out.more hb6)
      have HB6 := Lib.hid (HB5.out.trans (hb6.mono HB5.out.size))
      clear hjp hs6 hb6
      go_wp2_with fail
      refine (HQ.out _ _ _ R HG6.out HX6.out (by omega)).mono ?_
      rintro e w7 ⟨rfl, m7, rfl⟩
      go_wp2
      go_ret
      exact ⟨rfl, below_drewN HB6.out m7⟩
    · rw [hv, Bool.true_and] at hcase
      clear hv
      by_cases hL2 : L < 1
      · have q1 : decide (L < 1) = true := by simpa using hL2
        clear hcase hL2
        go_wp2_with fail
        refine (HS.out _ _ l HU5.out (by omega)).mono ?_
        rintro e w6 ⟨s6, R', rfl, hjp, hs6, hb6⟩
        obtain rfl := HJ.out.uniq hjp
        have HX6 := Lib.hid (PRds.of_own hs6)
        have HG6 := Lib.hid (HG5.out.more hb6)
        have HB6 := Lib.hid (HB5.out.trans (hb6.mono HB5.out.size))
        clear hjp hs6 hb6
        go_wp2_with fail
        refine (HQ.out _ _ _ R HG6.out HX6.out (by omega)).mono ?_
        rintro e w7 ⟨rfl, m7, rfl⟩
        go_wp2
        go_ret
        exact ⟨rfl, below_drewN HB6.out m7⟩
      · have q1 : decide (L < 1) = false := by simpa using hL2
        by_cases hL3 : 60 < L
        · have q2 : decide (60 < L) = true := by simpa using hL3
          clear hcase hL2 hL3
          go_wp2_with fail
          refine (HS.out _ _ l HU5.out (by omega)).mono ?_
          rintro e w6 ⟨s6, R', rfl, hjp, hs6, hb6⟩
          obtain rfl := HJ.out.uniq hjp
          have HX6 := Lib.hid (PRds.of_own hs6)
          have HG6 := Lib.hid (HG5.out.more hb6)
          have HB6 := Lib.hid (HB5.out.trans (hb6.mono HB5.out.size))
          clear hjp hs6 hb6
          go_wp2_with fail
          refine (HQ.out _ _ _ R HG6.out HX6.out (by omega)).mono ?_
          rintro e w7 ⟨rfl, m7, rfl⟩
          go_wp2
          go_ret
          exact ⟨rfl, below_drewN HB6.out m7⟩
        · have q2 : decide (60 < L) = false := by simpa using hL3
          have hok : okH l L = true := by rw [hcase]; simp; omega
          obtain ⟨N, rfl⟩ : ∃ N : Nat, L = N := ⟨L.toNat, by omega⟩
          have HFILL := Lib.hid (fun hl => HJ.out.filled hok hl)
          have HEACH := Lib.hid (fun k hk => HJ.out.each hok k hk)
          clear hcase hL2 hL3 hok HS
          go_wp2
          go_loopw [6] (fun iv wr => ∃ k m : Nat, (k ≤ R.length) ∧ iv = .int .i64 k ∧ wr = w5.drewN m) (fun iv _ => R.length - (intOf iv).toNat)
          case atStart => exact ⟨0, 0, Nat.zero_le _, rfl, rfl⟩
          case round =>
            obtain ⟨k, m, hk, rfl, rfl⟩ := hrel
            have k0 : (0 : Int) ≤ (k : Int) := by omega
            by_cases hlt : k + 1 < R.length
            · have hd : decide ((k : Int) + 1 < (R.length : Int)) = true := by simp; omega
              obtain ⟨A', c', hv', h1'⟩ := HG5.out
              obtain ⟨b, off, hA, hat⟩ := h1' (by omega)
              simp only [Value.slice.injEq] at hv'
              obtain ⟨rfl, hx0, rfl⟩ := hv'
              subst hA
              obtain ⟨c0, c1, c2'⟩ := hat.2 k (by omega)
              obtain ⟨e0, e1, e2⟩ := hat.2 (k + 1) (by omega)
              obtain ⟨g0, g1, g2, g3⟩ := HEACH.out k (by omega)
              obtain ⟨g3, g4⟩ := g3 hlt
              clear h1' hat hx0
              generalize R.getD k d0 = q at *
              generalize R.getD (k + 1) d0 = q2 at *
              obtain ⟨x, y, z⟩ := q
              obtain ⟨x2, y2, z2⟩ := q2
              simp only [Pc.e] at c0 c1 c2' e0 e1 e2 g0 g1 g2 g3 g4
              subst g4
              have ew := pwrap (x + y) (by omega)
              have k1 : (k : Int) < (R.length : Int) := by omega
              have k2 : (0 : Int) ≤ (k : Int) + 1 := by omega
              have k3 : (k : Int) + 1 < (R.length : Int) := by omega
              have k4 : ((k : Int) + 1).toNat = k + 1 := by omega
              have q3 : decide (x2 ≤ x + y) = false := by simp; omega
              go_wp2
              go_quiet (fail)
              go_wp2
              go_roundw
              case rel => exact ⟨k + 1, m + nq, by omega, by go_num, by first | rfl | rw [World.drewN_drewN]⟩
              case measure => simp [intOf]; omega
            · have hd : decide ((k : Int) + 1 < (R.length : Int)) = false := by simp; omega
              have HG6 := Lib.hid (HG5.out.drewN m)
              have HO6 : Hid (OwnP (w5.drewN m) B (.slice A l.length c) l) := Lib.hid HO5.out
              have HGO6 : Hid (OwnP (w5.drewN m) w1.heap.size (.slice A2 R.length c2) R) := Lib.hid HGO5.out
              have HB6 := Lib.hid (below_drewN HB5.out m)
              have hk1 : (k : Int) ≤ 100 := by omega
              generalize w5.drewN m = w6 at *
              clear HG5 HU5 HO5 HGO5 HB5 hk
              by_cases h20 : l.length + R.length ≤ 20
              · obtain ⟨_, hfin⟩ := HFILL.out (by rw [List.length_append]; exact h20)
                have HFIN := Lib.hid hfin
                clear hfin
                go_wp2_with (first | (at_builtin; refine append_ownP rfl _ _ rfl w6.heap.size B _ _ [] l rfl rfl (World.ownsRow_made (base := w6.heap.size) (e := 38) (size := 3) w6 #[] 0 (Nat.le_refl _) (by unfold maxLen; omega) rfl) (World.ownsRow.alloc HO6.out _) (by simp; omega) (by simp) ?_; intro A7 c7 w7 ho7 hg7; have HO7 : Hid (OwnP w7 w6.heap.size (.slice A7 l.length c7) l) := Lib.hid (by have := ho7; simp only [List.nil_append, List.length_nil, Nat.zero_add] at this; exact this); have HGO7 : Hid (OwnP w7 w1.heap.size (.slice A2 R.length c2) R) := Lib.hid (World.ownsRow.kept (World.ownsRow.alloc HGO6.out _) hg7 (.inr (fun e => by have := (World.ownsRow.lt HGO6.out w6.heap.size e).2; omega))); have HB7 := Lib.hid ((HB6.out.alloc HB6.out.size (.cells #[] 38)).grown hg7 (by have := HB6.out.size; simp; omega) (fun j hj => by have e : some w6.heap.size = some j := hj; cases e; exact HB6.out.size)); have hz7 := hg7.size; clear ho7 hg7; simp only [List.length_nil, Nat.zero_add]) | (at_builtin; refine append_ownP rfl _ _ rfl w6.heap.size w1.heap.size _ _ l R rfl rfl HO7.out HGO7.out (by omega) (by simp at hz7; omega) ?_; intro A8 c8 w8 ho8 hg8))
                have HO8 := Lib.hid (PRds.of_own ho8)
                have HB8 := Lib.hid (HB7.out.grown hg8 HB7.out.size (fun j hj => by have := (World.ownsRow.lt HO7.out j hj).1; have := HB6.out.size; omega))
                clear ho8 hg8
                go_wp2_with fail
                refine (HI.out _ _ (l ++ R) N HO8.out (by rw [List.length_append]; omega)).mono ?_
                rintro e w9 ⟨u9, R2, rfl, hp2, ho9, hb9⟩
                have hfin := HFIN.out R2 hp2
                obtain ⟨A9, c9, rfl⟩ := own_form3 ho9
                clear hp2 ho9
                go_wp2
                go_ret
                exact ⟨rfl, HB8.out.trans (hb9.mono HB8.out.size)⟩
              · have h21 : 20 < l.length + R.length := by omega
                have h22 : (20 : Int) < (l.length : Int) + (R.length : Int) := by omega
                go_wp2_with (first | (at_builtin; refine append_ownP rfl _ _ rfl w6.heap.size B _ _ [] l rfl rfl (World.ownsRow_made (base := w6.heap.size) (e := 38) (size := 3) w6 #[] 0 (Nat.le_refl _) (by unfold maxLen; omega) rfl) (World.ownsRow.alloc HO6.out _) (by simp; omega) (by simp) ?_; intro A7 c7 w7 ho7 hg7; have HO7 : Hid (OwnP w7 w6.heap.size (.slice A7 l.length c7) l) := Lib.hid (by have := ho7; simp only [List.nil_append, List.length_nil, Nat.zero_add] at this; exact this); have HGO7 : Hid (OwnP w7 w1.heap.size (.slice A2 R.length c2) R) := Lib.hid (World.ownsRow.kept (World.ownsRow.alloc HGO6.out _) hg7 (.inr (fun e => by have := (World.ownsRow.lt HGO6.out w6.heap.size e).2; omega))); have HB7 := Lib.hid ((HB6.out.alloc HB6.out.size (.cells #[] 38)).grown hg7 (by have := HB6.out.size; simp; omega) (fun j hj => by have e : some w6.heap.size = some j := hj; cases e; exact HB6.out.size)); have hz7 := hg7.size; clear ho7 hg7; simp only [List.length_nil, Nat.zero_add]) | (at_builtin; refine append_ownP rfl _ _ rfl w6.heap.size w1.heap.size _ _ l R rfl rfl HO7.out HGO7.out (by omega) (by simp at hz7; omega) ?_; intro A8 c8 w8 ho8 hg8))
                have HO8 := Lib.hid (PRds.of_own ho8)
                have HB8 := Lib.hid (HB7.out.grown hg8 HB7.out.size (fun j hj => by have := (World.ownsRow.lt HO7.out j hj).1; have := HB6.out.size; omega))
                clear ho8 hg8
                go_wp2
                go_ret
                exact ⟨rfl, HB8.out⟩
end Go.Proofs.Yteililppbnbfhaa
