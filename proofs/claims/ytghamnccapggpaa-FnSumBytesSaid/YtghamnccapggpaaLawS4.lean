/-
  The walk of the law FnTwoSums: it returns true at every code. No condition but that the code is a list that can be.
-/
import Derived.Test.YtghamnccapggpaaWsomy
import Derived.Test.YtghamnccapggpaaWsumb
import Derived.IntWalk
namespace Go.Proofs.Ytghamnccapggpaa
open Go.RowKit
set_option linter.unusedVariables false

set_option maxHeartbeats 400000 in
theorem dts_any (w : World) (a : Option Addr) (len cap : Nat) (zs : List Int) (h : IsRow .u8 w a len cap zs) :
    Calls Try.prog 14 #[.slice a len cap] w fun e w' => ∃ u l B, e = .returned u ∧ w'.ownsRow B 3 1 u l.length (ints l) ∧ l.length ≤ 40 ∧ Below w.heap.size w w' := by
  have H := Lib.hid (nr_any w a len cap zs h)
  clear h
  go_enter Try.func14, Try.ntmps14
  go_wp2_with (first | (go_at_call 22; refine H.out.mono ?_; rintro e w1 ⟨rfl, hr, hb, hz⟩; have HR := Lib.hid hr; clear hr hz) | (go_at_call 21; refine (sy_any HR.out (by omega)).mono ?_; rintro e w2 ⟨u, l, p', rfl, ho, hl, hr2, hp2, hb2⟩; have HO := Lib.hid ho; clear ho hr2))
  go_ret
  exact ⟨u, l, _, rfl, HO.out, hl, hb.trans hb2⟩

theorem onceR_bd {xs : List Int} (h : bytesB 16 xs = true) : 0 ≤ onceR xs ∧ onceR xs < 255 := by unfold onceR; rw [if_pos h]; omega
theorem sumsR_bd {xs : List Int} (h : bytesB 16 xs = true) : 0 ≤ sumsR xs ∧ sumsR xs < 255 := by unfold sumsR; rw [if_pos h]; omega
theorem own_new (w : World) (t : TypeId) : (w.alloc (.cells #[] t)).ownsRow w.heap.size t 1 (.slice (some ⟨w.heap.size, 0, none⟩) 0 0) 0 [] :=
  World.ownsRow_made (base := w.heap.size) (e := t) (size := 1) w #[] 0 (Nat.le_refl _) (by unfold maxLen; omega) rfl

theorem at_cells {w : World} {b off : Nat} {xs : List Int} (h : At w b off xs) : ∀ j u, (ints xs)[j]? = some u → w.cell? ((⟨b, off, none⟩ : Addr).add j) = some u := by
  intro j u hj
  have hjl : j < xs.length := by
    have := (List.getElem?_eq_some_iff.1 hj).1
    simpa [ints] using this
  have e : (⟨b, off, none⟩ : Addr).add j = ⟨b, off + j, none⟩ := by unfold Addr.add; split <;> simp_all
  rw [e, h.2 j hjl, ← hj, ints_get xs j hjl]
theorem ints_one' (xs : List Int) : ∀ u ∈ ints xs, u.oneCell' = true := by
  intro u hu
  obtain ⟨x, _, rfl⟩ := List.mem_map.1 hu
  rfl
theorem At.alloc {w : World} {b off : Nat} {xs : List Int} (h : At w b off xs) (o : Obj) : At (w.alloc o) b off xs :=
  ⟨by rw [World.size_alloc]; exact Nat.lt_succ_of_lt h.1, fun j hj => by rw [World.cell?_alloc_past _ _ _ h.1]; exact h.2 j hj⟩
theorem swp_cells (l : List Int) (k : Nat) : ((ints l).set k (.int .i64 (l.getD (k + 1) 0))).set (k + 1) (.int .i64 (l.getD k 0)) = ints (swp l k) := by
  rw [ints_set, ints_set]; rfl

set_option maxHeartbeats 6400000 in
theorem fnTwoSums_walk (a : Option Addr) (len cap : Nat) (zs : List Int) (w : World) (h : IsRow .u8 w a len cap zs) :
    Calls Try.prog 6 #[.slice a len cap] w fun e w' => e = .returned (.bool true) ∧ Below w.heap.size w w' := by
  by_cases hg : (1048576 : Int) < (len : Int)
  · go_enter Try.func6, Try.ntmps6
    go_wp2_with fail
    go_ret
    exact ⟨rfl, Below.refl _ _⟩
  · have H := Lib.hid (dts_any w a len cap zs h)
    clear h
    obtain ⟨i0, hi, hz0, hz1, hz2⟩ := info_parts info3
    have HI := Lib.hid hi
    have HZ0 := Lib.hid hz0
    have HZ1 := Lib.hid hz1
    have HZ2 := Lib.hid hz2
    clear hi hz0 hz1 hz2
    go_enter Try.func6, Try.ntmps6
    go_wp2_with fail
    refine H.out.mono ?_
    rintro e w1 ⟨u, l, B1, rfl, hu, hl, hb1⟩
    have HU := Lib.hid (Rds.of_own hu)
    have HLU := Lib.hid (own_lies (xs := l) hu)
    obtain ⟨Au, cu, rfl⟩ := own_form hu
    clear H hu
    have hS := fun W v h => sTS_any W v l h (by omega)
    have hI := fun W v h => iTS_any W v l h (by omega)
    cases hv : bytesB 16 l
    · have e1 : onceR l = -1 := onceR_no hv
      have e2 : sumsR l = -1 := sumsR_no hv
      rw [e1, e2] at hS hI
      have HS := Lib.hid hS
      have HII := Lib.hid hI
      clear hS hI e1 e2 hv
      go_wp2_with fail
      refine (HII.out _ _ HU.out).mono ?_
      rintro e w2 ⟨rfl, hb2⟩
      have HU2 := Lib.hid (HU.out.below hb2 HLU.out)
      have hb12 := hb1.trans (hb2.mono hb1.size)
      clear HU hb1 hb2
      go_wp2_with fail
      refine (HS.out _ _ HU2.out).mono ?_
      rintro e w3 ⟨rfl, rfl⟩
      go_wp2
      go_ret
      exact ⟨rfl, hb12⟩
    · have b1 := onceR_bd hv
      have b2 := sumsR_bd hv
      obtain ⟨h16, hall⟩ := bytes16' hv
      have hby := byte_get hall
      have HT := Lib.hid (fun i (hi : i + 1 < l.length) => And.intro (once_swp hv hi) (And.intro (sums_swp hv hi) (fun W v h => iTS_any W v (swp l i) h (by rw [swp_len]; omega))))
      have HBY := Lib.hid hby
      generalize onceR l = x at *
      generalize sumsR l = y at *
      have HS := Lib.hid hS
      have HII := Lib.hid hI
      obtain ⟨x0, x1⟩ := b1
      obtain ⟨y0, y1⟩ := b2
      have hxd : decide (x < 0) = false := by simp; omega
      clear hS hI hv hall hby
      go_wp2_with fail
      refine (HII.out _ _ HU.out).mono ?_
      rintro e w2 ⟨rfl, hb2⟩
      have HU2 := Lib.hid (HU.out.below hb2 HLU.out)
      have hb12 := hb1.trans (hb2.mono hb1.size)
      have hz2 := hb2.size
      clear HU hb1 hb2
      go_wp2_with fail
      refine (HS.out _ _ HU2.out).mono ?_
      rintro e w3 ⟨rfl, rfl⟩
      go_wp2
      go_loopw [8] (fun kv wr => ∃ k : Nat, k ≤ l.length ∧ kv = .int .i64 k ∧ Below w2.heap.size w2 wr) (fun kv _ => l.length - (intOf kv).toNat)
      case atStart => exact ⟨0, Nat.zero_le _, rfl, Below.refl _ _⟩
      case round =>
        obtain ⟨k, hk, rfl, hbel⟩ := hrel
        by_cases hlt : k + 1 < l.length
        · obtain ⟨hE1, hE2, hE3⟩ := HT.out k hlt
          rw [hE1] at hE3
          have hR := HU2.out.below hbel (HLU.out.mono hz2)
          obtain ⟨A', c', hv', h1'⟩ := hR
          cases hv'
          obtain ⟨bo, offo, hA, haO⟩ := h1' (by omega)
          subst hA
          have hbo := haO.1
          have hown0 := own_new wr 3
          have hnews := at_cells (haO.alloc (.cells #[] 3))
          have HOWN0 := Lib.hid hown0
          have HNEWS := Lib.hid hnews
          have HAO := Lib.hid haO
          have HE2 := Lib.hid hE2
          have HE3 := Lib.hid hE3
          have HBEL := Lib.hid hbel
          obtain ⟨p, hp⟩ : ∃ p, p = l.getD k 0 := ⟨_, rfl⟩
          obtain ⟨q, hq⟩ : ∃ q, q = l.getD (k + 1) 0 := ⟨_, rfl⟩
          obtain ⟨p0, p1⟩ := HBY.out k
          obtain ⟨r0, r1⟩ := HBY.out (k + 1)
          have hsc := swp_cells l k
          rw [← hp] at p0 p1 hsc
          rw [← hq] at r0 r1 hsc
          have HP := Lib.hid hp
          have HQ := Lib.hid hq
          have HSC := Lib.hid hsc
          clear hp hq hsc
          clear hE1 hE2 hE3 hown0 hnews haO h1' hbel
          have hd1 : decide ((k : Int) + 1 < (l.length : Int)) = true := by simp; omega
          have hd2 : (k : Int) + 1 < (l.length : Int) := by omega
          go_wp2_with (at_builtin; refine wpList_append_own _ rfl (.tmp 54) (.tmp 55) 22 rfl wr.heap.size 3 i0 (.int .i64 0) 1 8 Try.underlying22 HI.out HZ0.out HZ1.out HZ2.out rfl (by decide) (.slice (some ⟨wr.heap.size, 0, none⟩) 0 0) 0 [] rfl HOWN0.out ⟨bo, offo, none⟩ l.length cu (ints l) rfl (by rw [ints_len, Nat.mul_one]) HNEWS.out (ints_one' l) (by rw [mx]; omega) (by omega) (by simp) ?_; intro v9 w9 hown9 hg9 hnil; clear hnil; have hown9b : w9.ownsRow wr.heap.size 3 1 v9 l.length (ints l) := (by simpa using hown9); obtain ⟨g, c9, rfl⟩ := own_form_some hown9b (by omega); clear hown9; have HO9 := Lib.hid hown9b; have HG9 := Lib.hid hg9; clear hg9 hown9b; have hfz1 := HO9.out.frozenAt k; have hfz2 := HO9.out.frozenAt (k + 1); have hc1 := HO9.out.cellAt k (by omega); have hc2 := HO9.out.cellAt (k + 1) (by omega); rw [ints_get l k (by omega), ← HP.out] at hc1; rw [ints_get l (k + 1) (by omega), ← HQ.out] at hc2; have hb9 : Below wr.heap.size wr w9 := ((Below.refl wr.heap.size wr).alloc (Nat.le_refl _) (.cells #[] 3)).grown HG9.out (by simp) (fun j hj => by simp [Value.ownBlock] at hj; omega); have hgb := (HO9.out.lt g rfl).1; have ha9 := HAO.out.below hb9 hbo; have hl1 := ha9.2 k (by omega); have hl2 := ha9.2 (k + 1) hlt; rw [← HP.out] at hl1; rw [← HQ.out] at hl2; have HB9 := Lib.hid hb9; have HA9 := Lib.hid ha9; clear hb9 ha9)
          have s1 := HO9.out.stored k (.int .i64 q)
          have s2 := s1.1.stored (k + 1) (.int .i64 p)
          rw [HSC.out] at s2
          have hbs1 := below_grown HB9.out s1.2 hgb HB9.out.size
          have hbs2 := below_grown hbs1 s2.2 hgb hbs1.size
          have hrt : Rds ((w9.setCell ⟨g, k, none⟩ (.int .i64 q)).setCell ⟨g, k + 1, none⟩ (.int .i64 p)) (.slice (some ⟨g, 0, none⟩) l.length c9) (swp l k) := by
            have := Rds.of_own (xs := swp l k) (by rw [swp_len]; exact s2.1)
            exact this
          have HRT := Lib.hid hrt
          have HBS2 := Lib.hid hbs2
          clear s1 s2 hbs1 hbs2 hrt hc1 hc2 hl1 hl2 hfz1 hfz2
          refine (HE3.out _ _ HRT.out).mono ?_
          rintro e w10 ⟨rfl, hb10⟩
          have hb10' := HBS2.out.trans (hb10.mono HBS2.out.size)
          have ha10 := HAO.out.below hb10' hbo
          have hl1 := ha10.2 k (by omega)
          have hl2 := ha10.2 (k + 1) hlt
          rw [← HP.out] at hl1
          rw [← HQ.out] at hl2
          have HB10 := Lib.hid (HBEL.out.trans (hb10'.mono (Nat.le_trans (Nat.le_refl _) HBEL.out.size)))
          clear hb10 hb10' ha10 HRT HBS2
          generalize sumsR (swp l k) = d at *
          have hiff := HE2.out
          rw [← HP.out, ← HQ.out] at hiff
          have t1 : p.tmod 255 = p % 255 := Int.tmod_eq_emod_of_nonneg p0
          have t2 : q.tmod 255 = q % 255 := Int.tmod_eq_emod_of_nonneg r0
          have k0 : (0 : Int) ≤ (k : Int) := by omega
          have k1 : (k : Int) < (l.length : Int) := by omega
          have k2 : (0 : Int) ≤ (k : Int) + 1 := by omega
          have k3 : ((k : Int) + 1).toNat = k + 1 := by omega
          have k4 : IntKind.i64.wrap ((k : Int) + 1) = (k : Int) + 1 := IntWalk.i64_in _ (by omega)
          by_cases hdy : d = y
          · have e1 : (d == y) = true := by simpa using hdy
            have e2 : ((p % 255) == (q % 255)) = true := by simpa using hiff.1 hdy
            clear hiff hdy
            go_wp2
            go_quiet (fail)
            clear t1 t2 k3 k4
            go_wp2
            go_roundw
            case rel => exact ⟨k + 1, by omega, by go_num, below_drewN HB10.out nq⟩
            case measure => simp [intOf]; omega
          · have e1 : (d == y) = false := by simpa using hdy
            have e2 : ((p % 255) == (q % 255)) = false := by
              rw [beq_eq_false_iff_ne]; exact fun e => hdy (hiff.2 e)
            clear hiff hdy
            go_wp2
            go_quiet (fail)
            clear t1 t2 k3 k4
            go_wp2
            go_roundw
            case rel => exact ⟨k + 1, by omega, by go_num, below_drewN HB10.out nq⟩
            case measure => simp [intOf]; omega
        · have hx : ¬ (k : Int) + 1 < (l.length : Int) := by omega
          go_wp2
          go_ret
          exact ⟨rfl, hb12.trans (hbel.mono hb12.size)⟩
end Go.Proofs.Ytghamnccapggpaa
