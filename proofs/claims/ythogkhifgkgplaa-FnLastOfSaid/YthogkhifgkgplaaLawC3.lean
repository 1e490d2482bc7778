/-
  The walk of the law FnLastOf: it returns true at every list of bytes. Conditions: the list is one that can be.
-/
import Derived.Test.YthogkhifgkgplaaWdl
namespace Go.Proofs.Ythogkhifgkgplaa
open Go.RowKit
set_option linter.unusedVariables false

set_option maxRecDepth 50000 in
set_option maxHeartbeats 6400000 in
theorem fnLastOf_walk (a : Option Addr) (len cap : Nat) (zs : List Int) (w : World) (h : IsRow .u8 w a len cap zs) :
    Calls Try.prog 5 #[.slice a len cap] w fun e w' => e = .returned (.bool true) ∧ Below w.heap.size w w' := by
  by_cases hg : (1048576 : Int) < (len : Int)
  · go_enter Try.func5, Try.ntmps5
    go_wp2_with fail
    go_ret
    exact ⟨rfl, Below.refl _ _⟩
  · have H := Lib.hid (dlo_any w a len cap zs h)
    clear h
    obtain ⟨i0, hi, hz0, hz1, hz2⟩ := info_parts infoF
    have HI := Lib.hid hi
    have HZ0 := Lib.hid hz0
    have HZ1 := Lib.hid hz1
    have HZ2 := Lib.hid hz2
    clear hi hz0 hz1 hz2
    go_enter Try.func5, Try.ntmps5
    go_wp2_with fail
    refine H.out.mono ?_
    rintro e w1 ⟨v, Q, t, B, rfl, hv, hQ, hQb, hB, hBz, hb1⟩
    have HB1 := Lib.hid hb1
    have HV1 := Lib.hid hv
    have HBB := Lib.hid (And.intro hB hBz)
    have hFR := hv.rds
    have hfl := fds_len hQb
    have hLl : (Q.map (·.1)).length = Q.length := List.length_map _
    have hI := iLA_any t w1 v (Q.map (·.1)) hFR (by omega) (fun k => by have := hfl k; omega)
    have hS := fun W (hw : Below w1.heap.size w1 W) => sLA_any t W v (Q.map (·.1)) (hFR.more hw) (by omega) (fun k => by have := hfl k; omega)
    have HP := Lib.hid (fun (h : (laR (Q.map (·.1)) t).isSome = true) (h5 : Q.length ≠ 5) => laR_push h (by rw [hLl]; exact h5))
    have hRl := laR_len (Q.map (·.1)) t
    have HQB := Lib.hid hQb
    unfold UnPost at hI hS
    generalize hR : (laR (Q.map (·.1)) t).getD [] = R at hI hS hRl
    generalize hbb : (laR (Q.map (·.1)) t).isSome = bb at hI hS HP
    have HI1 := Lib.hid hI
    have HS1 := Lib.hid hS
    have HN1 : Hid (Q ≠ [] ∨ bb = false) := Lib.hid (by
      cases hq : Q with
      | nil => right; rw [← hbb, hq]; rfl
      | cons q l => left; simp)
    obtain ⟨A, c, hvf⟩ := hv.form
    subst hvf
    clear hb1 hv hB hBz hFR hfl hI hS hQb hR hbb hLl H
    obtain ⟨N, hN⟩ : ∃ N, Q.length = N := ⟨_, rfl⟩
    have HNL := Lib.hid hN
    rw [hN] at HV1 HI1 HS1 hQ HP ⊢
    clear hN
    cases bb
    · go_wp2_with fail
      refine HI1.out.mono ?_
      rintro e w2 ⟨u, rfl, hu, hb2⟩
      have hu' : OwnL w2 w1.heap.size u R := hu
      have HU2 := Lib.hid hu'
      have HB2 := Lib.hid (HB1.out.trans (hb2.mono HB1.out.size))
      have HS2 := Lib.hid (HS1.out w2 hb2)
      obtain ⟨Au, cu, rfl⟩ := own_form hu
      clear hu hu' hb2 HI1 HS1
      go_wp2_with fail
      refine HS2.out.mono ?_
      rintro e w3 ⟨s, rfl, hs, hb3⟩
      have HU3 := Lib.hid (OwnL.rds (OwnL.below HU2.out hb3 (Nat.le_refl _)))
      have HT3 := Lib.hid (OwnL.rds (show OwnL w3 w2.heap.size s R from hs))
      have HB3 := Lib.hid (HB2.out.trans (hb3.mono HB2.out.size))
      obtain ⟨As, cs, rfl⟩ := own_form hs
      clear hs hb3 HU2 HB2 HS2
      go_wp2_with fail
      refine (eqL_same _ _ _ R HU3.out HT3.out (by omega)).mono ?_
      rintro e w4 ⟨rfl, m4, rfl⟩
      go_wp2_with fail
      refine (eqL_same _ _ _ R (HU3.out.drewN m4) (HT3.out.drewN m4) (by omega)).mono ?_
      rintro e w5 ⟨rfl, m5, rfl⟩
      go_wp2
      go_ret
      exact ⟨rfl, below_drewN HB3.out (m4 + m5)⟩
    · obtain ⟨b, hA⟩ : ∃ b, A = some ⟨b, 0, none⟩ := by
        rcases HN1.out with hq | hq
        · rcases HV1.out.top.2 with ⟨_, h0⟩ | ⟨k, cap, cur, hv, _⟩
          · exact absurd (List.eq_nil_of_length_eq_zero h0) hq
          · injection hv with e1; exact ⟨k, e1⟩
        · cases hq
      subst hA
      go_wp2_with fail
      refine HI1.out.mono ?_
      rintro e w2 ⟨u, rfl, hu, hb2⟩
      have hu' : OwnL w2 w1.heap.size u R := hu
      have HU2 := Lib.hid hu'
      have HB2 := Lib.hid (HB1.out.trans (hb2.mono HB1.out.size))
      have HS2 := Lib.hid (HS1.out w2 hb2)
      have HV2 := Lib.hid (HV1.out.keeps (Keeps.of_below (g := w.heap.size) hb2) HBB.out.1)
      have HZ2 : Hid (B ≤ w2.heap.size) := Lib.hid (Nat.le_trans HBB.out.2 hb2.size)
      obtain ⟨Au, cu, rfl⟩ := own_form hu
      clear hu hu' hb2 HI1 HS1 HV1
      go_wp2_with fail
      refine HS2.out.mono ?_
      rintro e w3 ⟨s, rfl, hs, hb3⟩
      have HU3 := Lib.hid (OwnL.rds (OwnL.below HU2.out hb3 (Nat.le_refl _)))
      have HT3 := Lib.hid (OwnL.rds (show OwnL w3 w2.heap.size s R from hs))
      have HB3 := Lib.hid (HB2.out.trans (hb3.mono HB2.out.size))
      have HV3 := Lib.hid (HV2.out.keeps (Keeps.of_below (g := w.heap.size) hb3) HBB.out.1)
      have HZ3 : Hid (B ≤ w3.heap.size) := Lib.hid (Nat.le_trans HZ2.out hb3.size)
      obtain ⟨As, cs, rfl⟩ := own_form hs
      clear hs hb3 HU2 HB2 HS2 HV2 HZ2
      go_wp2_with fail
      refine (eqL_same _ _ _ R HU3.out HT3.out (by omega)).mono ?_
      rintro e w4 ⟨rfl, m4, rfl⟩
      have HB4 : Hid (Below w.heap.size w (w3.drewN m4)) := Lib.hid (below_drewN HB3.out m4)
      have HV4 : Hid (FOwn (w3.drewN m4) B (.slice (some ⟨b, 0, none⟩) N c) Q) := Lib.hid (HV3.out.keeps ((Keeps.refl w.heap.size w3).drewN m4) HBB.out.1)
      have HZ4 : Hid (B ≤ (w3.drewN m4).heap.size) := Lib.hid HZ3.out
      clear HB3 HV3 HZ3 HU3 HT3
      generalize w3.drewN m4 = w4 at *
      have HE4 := Lib.hid (World.ownsRow_made (base := B) (e := 40) (size := 2) w4 #[] 0 HZ4.out (by unfold maxLen; omega) rfl)
      have HV4a := Lib.hid (HV4.out.keeps ((Keeps.refl w.heap.size w4).alloc (.cells #[] 40)) HBB.out.1)
      have HSP : Hid (∀ p ∈ Q, ∀ k, p.2.ownBlock = some k → k < w4.heap.size) := Lib.hid (fun p hp k e => (World.ownsRow.lt (HV4.out.each p hp).1 k e).2)
      have HNN := HNL.out
      go_wp2_with (at_builtin; refine wpList_append_own_at _ rfl (.tmp 53) (.tmp 54) 26 rfl B 40 i0 (.agg #[.int .i64 0, .slice none 0 0]) 2 32 Try.underlying26 HI.out HZ0.out HZ1.out HZ2.out rfl (by decide) _ _ _ rfl HE4.out ⟨b, 0, none⟩ N c (flQ Q) rfl (by rw [flQ_len, HNL.out]) (HV4a.out.top.cells (g := b) rfl) (flQ_one HV4a.out) (by rw [mx]; omega) (by omega) (by have := HZ4.out; simp; omega) ?_; intro v6 w6 hown6 hg6 hnil hat6; clear hnil; refine Hid.out ?_)
      refine Lib.hid ?_
      have HV6 := Lib.hid (FOwn.copy HV4a.out HSP.out rfl hg6 hat6 (by rw [HNL.out]; simpa using hown6))
      have HB6 := Lib.hid ((HB4.out.alloc (by have := HB4.out.size; omega) (.cells #[] 40)).grown hg6 (by have := HB4.out.size; simp; omega) (fun j (hj : some w4.heap.size = some j) => by injection hj with hj; have := HB4.out.size; omega))
      have HZ6 : Hid (B ≤ w6.heap.size) := Lib.hid (by have := HZ4.out; have h9 := hg6.size; simp at h9; omega)
      obtain ⟨A6, c6, hf6⟩ := HV6.out.form
      rw [HNL.out] at hf6
      subst hf6
      clear hown6 hg6 hat6 HE4 HV4a HSP HB4 HV4 HZ4 HNN
      have HL6 := Lib.hid (OwnL.lits w6 B [7] HZ6.out (by simp))
      have HU6 := Lib.hid (HL6.out.keeps ((Keeps.refl w.heap.size (w6.alloc (.cells (ints [7]).toArray 3))).alloc (.cells #[.int .i64 t, .slice (some ⟨w6.heap.size, 0, none⟩) 1 1] 40)) HBB.out.1)
      have HV7 := Lib.hid (HV6.out.keeps (((Keeps.refl w.heap.size w6).alloc (.cells #[.int .i64 7] 3)).alloc (.cells #[.int .i64 t, .slice (some ⟨w6.heap.size, 0, none⟩) 1 1] 40)) HBB.out.1)
      have HNE : Hid (∀ k, (Value.slice (some ⟨w6.heap.size, 0, none⟩) 1 1).ownBlock = some k → (Value.slice A6 N c6).ownBlock ≠ some k) := Lib.hid (fun k hk e => by
        have := (World.ownsRow.lt HV6.out.top k e).2
        simp [Value.ownBlock] at hk
        omega)
      have hN6 : N ≤ 6 := hQ
      go_wp2_with (at_builtin; refine wpList_append_own_at _ rfl (.tmp 55) (.tmp 59) 26 rfl B 40 i0 (.agg #[.int .i64 0, .slice none 0 0]) 2 32 Try.underlying26 HI.out HZ0.out HZ1.out HZ2.out rfl (by decide) _ _ _ rfl HV7.out.top ⟨w6.heap.size + 1, 0, none⟩ 1 1 [.int .i64 t, .slice (some ⟨w6.heap.size, 0, none⟩) 1 1] rfl rfl (by have := cell_two_new (w6.alloc (.cells #[.int .i64 7] 3)) (.int .i64 t) (.slice (some ⟨w6.heap.size, 0, none⟩) 1 1) 40; rw [World.size_alloc] at this; exact this) (two_cells _ _ rfl rfl) (by rw [mx, HNL.out]; omega) (by rw [HNL.out]; omega) (by have := HZ6.out; simp; omega) ?_; intro v8 w8 hown8 hg8 hnil hat8; clear hnil; refine Hid.out ?_)
      refine Lib.hid ?_
      have HV8 := Lib.hid (FOwn.push (f := ⟨t, [7]⟩) HV7.out hg8 hat8 hown8 HU6.out HNE.out)
      have HB8 := Lib.hid (((HB6.out.alloc HB6.out.size (.cells #[.int .i64 7] 3)).alloc (by have := HB6.out.size; simp; omega) (.cells #[.int .i64 t, .slice (some ⟨w6.heap.size, 0, none⟩) 1 1] 40)).grown hg8 (by have := HB6.out.size; simp; omega) (fun j hj => by have := (World.ownsRow.lt HV6.out.top j hj).1; have := HBB.out.1; omega))
      have hlQ : (Q ++ [((⟨t, [7]⟩ : Fd), Value.slice (some ⟨w6.heap.size, 0, none⟩) 1 1)]).length = N + 1 := by rw [List.length_append, HNL.out]; rfl
      have hFR8 := HV8.out.rds
      have hq8 : ∀ q ∈ Q ++ [((⟨t, [7]⟩ : Fd), Value.slice (some ⟨w6.heap.size, 0, none⟩) 1 1)], q.1.b.length ≤ 40 := fun q hq => by
        rcases List.mem_append.1 hq with hq | hq
        · exact HQB.out q hq
        · have : q = ((⟨t, [7]⟩ : Fd), Value.slice (some ⟨w6.heap.size, 0, none⟩) 1 1) := by simpa using hq
          subst this; simp
      have hI8 := iLA_any t w8 v8 _ hFR8 (by rw [List.length_map, hlQ]; omega) (fun k => by have := fds_len hq8 k; omega)
      obtain ⟨A8, c8, hf8⟩ := HV8.out.form
      rw [hlQ] at hf8
      subst hf8
      rw [List.map_append] at hI8
      have HI8 := Lib.hid hI8
      clear hown8 hg8 hat8 hlQ hFR8 hq8 hI8 HL6 HU6 HV7 HNE HV6 HB6 HZ6 HV8
      by_cases h5 : N = 5
      · subst h5
        have hI9 := HI8.out
        unfold UnPost at hI9
        have HI9 := Lib.hid hI9
        clear hI9 HI8
        go_wp2_with fail
        refine HI9.out.mono ?_
        rintro e w9 ⟨u9, rfl, hu9, hb9⟩
        have HB9 := Lib.hid (HB8.out.trans (hb9.mono HB8.out.size))
        obtain ⟨A9, c9, rfl⟩ := own_form hu9
        clear hu9 hb9
        go_wp2
        go_ret
        exact ⟨rfl, HB9.out⟩
      · have hI9 := HI8.out
        have e9 := HP.out (by first | rfl | trivial) h5
        simp only [List.map_cons, List.map_nil] at hI9
        rw [e9] at hI9
        have HI9 := Lib.hid hI9
        have hn5 : ((N : Int) == 5) = false := by simp; omega
        clear hI9 HI8 e9
        go_wp2_with fail
        refine HI9.out.mono ?_
        rintro e w9 ⟨u9, rfl, hu9, hb9⟩
        have HB9 := Lib.hid (HB8.out.trans (hb9.mono HB8.out.size))
        have hu9' : OwnL w9 w8.heap.size u9 [7] := hu9
        obtain ⟨A9, c9, rfl⟩ := own_form hu9
        have hba := (Below.refl w9.heap.size w9).alloc (Nat.le_refl _) (.cells #[.int .i64 7] 3)
        have HR9 := Lib.hid ((OwnL.rds hu9').more8 hba)
        have HL9 := Lib.hid (OwnL.rds (OwnL.lits w9 w9.heap.size [7] (Nat.le_refl _) (by simp)))
        have HBA := Lib.hid (HB9.out.trans (hba.mono HB9.out.size))
        clear hu9 hu9' hb9 hba
        go_wp2_with fail
        refine (eqL_same _ _ _ [7] HR9.out HL9.out (by simp)).mono ?_
        rintro e w10 ⟨rfl, m10, rfl⟩
        go_wp2
        go_ret
        exact ⟨rfl, below_drewN HBA.out m10⟩
end Go.Proofs.Ythogkhifgkgplaa
