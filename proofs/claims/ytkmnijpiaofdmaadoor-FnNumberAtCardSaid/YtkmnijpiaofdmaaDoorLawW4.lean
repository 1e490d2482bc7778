/-
  The walk of the law FnNumberAt: it returns true at every list of bytes. Conditions: the list is one that can be, and what the error variable holds.
-/
import Derived.Test.YtkmnijpiaofdmaaDoorWdx
import Derived.Test.YtkmnijpiaofdmaaDoorWna
import Derived.Test.YtkmnijpiaofdmaaDoorWeql
import Derived.Test.YtkmnijpiaofdmaaDoorWofl
import Derived.Deep.RegionWith
namespace Go.Proofs.YtkmnijpiaofdmaaDoor
open Go.RowKit
set_option linter.unusedVariables false

theorem na_back {l : List Int} (h : naN l ≠ 0) : ∃ n : Nat, naN l = n ∧ 1 ≤ n ∧ n ≤ l.length ∧ goR (naA l) = l.take n := by
  unfold naN naA at *
  split at h <;> rename_i hb
  · rw [if_pos hb, if_pos hb]
    unfold nfN nfA at *
    cases hnf : nf l with
    | none => rw [hnf] at h; exact absurd rfl h
    | some p =>
      obtain ⟨x, n⟩ := p
      obtain ⟨h1, h2, h3, h4, h5⟩ := nf_some hnf
      refine ⟨n, rfl, by omega, h3, ?_⟩
      simp only
      unfold goR
      rw [if_pos (btw_mk ⟨by omega, by omega⟩), Int.toNat_natCast, h1]
  · exact absurd rfl h

set_option maxHeartbeats 3200000 in
theorem fnNumberAt_walk (a : Option Addr) (len cap : Nat) (zs : List Int) (w : World) (h : IsRow .u8 w a len cap zs) (he : ErrV w) :
    Calls Tryd.prog 5 #[.slice a len cap] w fun e w' => e = .returned (.bool true) ∧ Below w.heap.size w w' := by
  by_cases hg : (1048576 : Int) < (len : Int)
  · go_enter Tryd.func5, Tryd.ntmps5
    go_wp2_with fail
    go_ret
    exact ⟨rfl, Below.refl _ _⟩
  · have H := Lib.hid (dna_any w a len cap zs h)
    obtain ⟨ea, he1, he2⟩ := he
    have HE0 : Hid (ErrA w ea) := Lib.hid ⟨he1, he2⟩
    clear h he1 he2
    go_enter Tryd.func5, Tryd.ntmps5
    go_wp2_with fail
    refine H.out.mono ?_
    rintro e w1 ⟨v, l, B, rfl, hv, hl, hB, hb1⟩
    obtain ⟨Av, cv, hvf⟩ := hv.form
    subst hvf
    have HB1 := Lib.hid hb1
    have HE1 := Lib.hid (HE0.out.below hb1)
    have HV1 := Lib.hid (Rdc.of_own hv)
    have HS := Lib.hid (fun W h => sNA_any W (.slice Av l.length cv) l h (by omega))
    have HI := Lib.hid (iNA_any ea w1 (.slice Av l.length cv) l HV1.out (by omega) HE1.out)
    have HBK := Lib.hid (na_back (l := l))
    generalize naA l = x at *
    generalize naN l = n at *
    clear hb1 H HE0 hv
    go_wp2_with fail
    refine HI.out.mono ?_
    rintro e w2 ⟨rfl, hb2⟩
    have HB2 := Lib.hid (HB1.out.trans (hb2.mono HB1.out.size))
    have HV2 := Lib.hid (HV1.out.below hb2 HV1.out.lies)
    clear hb2 HB1 HV1 HE1 HI
    go_wp2_with fail
    refine (HS.out w2 HV2.out.rds).mono ?_
    rintro e w3 ⟨rfl, rfl⟩
    clear HS
    by_cases hn : n = 0
    · have hz : (n == 0) = true := by simpa using hn
      clear HBK hn
      go_wp2
      go_ret
      exact ⟨rfl, HB2.out⟩
    · have hz : (n == 0) = false := by simpa using hn
      obtain ⟨k, hk, hk1, hkl, hg⟩ := HBK.out hn
      have hkn : n.toNat = k := by omega
      subst hkn
      have hn0 : 0 ≤ n := by omega
      have hn1 : n ≤ (l.length : Int) := by omega
      have hle : decide (n ≤ (l.length : Int)) = true := decide_eq_true hn1
      have HI := Lib.hid (fun W => iGO_any x W)
      rw [hg] at HI
      have HT2 : Hid (Rds w2 (.slice Av n.toNat cv) (l.take n.toNat)) := Lib.hid (rds_take HV2.out.rds hkl)
      have hcl : l.length ≤ cv := HV2.out.cap
      have hcl2 : n ≤ (cv : Int) := by omega
      have hlt : (l.take n.toNat).length ≤ 1000 := by rw [List.length_take]; omega
      generalize l.take n.toNat = T at *
      clear hg hn HBK HV2 hk hk1 hkl
      go_wp2
      refine wp_region_any (by kernel_rfl) ?_
      change wpAny _ _ _ _ _ _ _ (World.drew _)
      refine wpAny_take (i := 0) (v := ?v0) rfl (by kernel_rfl) (by kernel_rfl) (by kernel_rfl) (fun _ _ _ h => h) (Or.inl ⟨by rfl, ?hy0⟩) ?rest0
      case hy0 => (intro w; go_simp; try (with_reducible rfl))
      simp only [Act.put]
      simp
      refine wpAny_take (i := 1) (v := ?v1) rfl (by kernel_rfl) (by kernel_rfl) (by kernel_rfl) (fun _ _ _ h => h) (Or.inl ⟨by rfl, ?hy1⟩) ?rest1
      case hy1 => (intro w; go_simp; try (with_reducible rfl))
      simp only [Act.put]
      simp
      refine wpAny_take (i := 2) (v := ?v2) rfl (by kernel_rfl) (by kernel_rfl) (by kernel_rfl) (fun _ _ _ h => h) (Or.inl ⟨by rfl, ?hy2⟩) ?rest2
      case hy2 => (intro w; go_simp; try (with_reducible rfl))
      simp only [Act.put]
      simp
      refine wpAny_take (i := 3) (v := ?v3) rfl (by kernel_rfl) (by kernel_rfl) (by kernel_rfl) (fun _ _ _ h => h) (Or.inl ⟨by rfl, ?hy3⟩) ?rest3
      case hy3 => (intro w; go_simp; try (with_reducible rfl))
      simp only [Act.put]
      simp
      refine wpAny_take (i := 4) (v := ?v4) rfl (by kernel_rfl) (by kernel_rfl) (by kernel_rfl) (fun _ _ _ h => h) (Or.inl ⟨by rfl, ?hy4⟩) ?rest4
      case hy4 => (intro w; go_simp; try (with_reducible rfl))
      simp only [Act.put]
      simp
      refine wpAny_take (i := 5) (v := ?v5) rfl (by kernel_rfl) (by kernel_rfl) (by kernel_rfl) (fun _ _ _ h => h) (Or.inl ⟨by rfl, ?hy5⟩) ?rest5
      case hy5 => (intro w; go_simp; try (with_reducible rfl))
      simp only [Act.put]
      simp
      refine wpAny_take (i := 7) (v := ?v7) rfl (by kernel_rfl) (by kernel_rfl) (by kernel_rfl) (fun _ _ _ h => h) (Or.inl ⟨by rfl, ?hy7⟩) ?rest7
      case hy7 => (intro w; go_simp; try (with_reducible rfl))
      simp only [Act.put]
      simp
      refine wpAny_take (i := 8) (v := ?v8) rfl (by kernel_rfl) (by kernel_rfl) (by kernel_rfl) (fun _ _ _ h => h) (Or.inl ⟨by rfl, ?hy8⟩) ?rest8
      case hy8 => (intro w; go_simp; try (with_reducible rfl))
      simp only [Act.put]
      simp
      refine wpAny_take (i := 9) (v := ?v9) rfl (by kernel_rfl) (by kernel_rfl) (by kernel_rfl) (fun _ _ _ h => h) (Or.inl ⟨by rfl, ?hy9⟩) ?rest9
      case hy9 => (intro w; go_simp; try (with_reducible rfl))
      try simp only [Act.put]
      try simp
      refine wpAny_ready (rs := [6]) (by kernel_rfl) (by simp) ?_
      refine AllReady.cons rfl (fun K hK => ?_) AllReady.nil
      go_simp
      go_wp2_with (go_at_call 7; refine (HI.out _).mono ?_; rintro e w6 ⟨u, rfl, hu, hb6⟩)
      have HU6 := Lib.hid hu
      have HT6 := Lib.hid (Rds.more6 (show Rds w2.drew (.slice Av n.toNat cv) T from HT2.out) hb6)
      have HB6 := Lib.hid ((show Below w.heap.size w w2.drew from below_drewN HB2.out 1).trans (hb6.mono HB2.out.size))
      clear hu hb6
      try simp only [Act.put]
      try simp
      refine wpAny_ready (rs := [10]) (by kernel_rfl) (by simp) ?_
      refine AllReady.cons rfl (fun K hK => ?_) AllReady.nil
      go_simp
      go_wp2_with (go_at_call 8; refine (eqL_same _ _ _ T (OwnL.rds HU6.out) HT6.out (by omega)).mono ?_; rintro e w7 ⟨rfl, m7, rfl⟩)
      try simp only [Act.put]
      try simp
      refine wpAny_take (i := 11) (v := ?v11) rfl (by kernel_rfl) (by kernel_rfl) (by kernel_rfl) (fun _ _ _ h => h) (Or.inl ⟨by rfl, ?hy11⟩) ?rest11
      case hy11 => (intro w; go_simp; try (with_reducible rfl))
      try simp only [Act.put]
      try simp
      refine wpAny_take (i := 12) (v := ?v12) rfl (by kernel_rfl) (by kernel_rfl) (by kernel_rfl) (fun _ _ _ h => h) (Or.inl ⟨by rfl, ?hy12⟩) ?rest12
      case hy12 => (intro w; go_simp; try (with_reducible rfl))
      try simp only [Act.put]
      try simp
      refine wpAny_done (by kernel_rfl) ?_ _

      go_wp2
      go_ret
      exact ⟨rfl, below_drewN HB6.out m7⟩
end Go.Proofs.YtkmnijpiaofdmaaDoor
