/-
  The walks of PackFields and of the model's functions on fields. Conditions: where the lists lie, and the lengths that are typed.
-/
import Derived.Test.YthogkhifgkgplaaDoorWpk
namespace Go.Proofs.YthogkhifgkgplaaDoor
open Go.RowKit
set_option linter.unusedVariables false

theorem pkR_no {L : List Fd} (h : vfsB L = false) : pkR L = [] := by unfold pkR; rw [h]; rfl
theorem pkR_yes {L : List Fd} (h : vfsB L = true) : pkR L = pkA L := by unfold pkR; rw [if_pos h]
theorem vfs_len {L : List Fd} (h : vfsB L = true) : L.length ≤ 5 := by simp only [vfsB, Bool.and_eq_true, decide_eq_true_eq] at h; exact h.1

set_option maxHeartbeats 3200000 in
theorem iPK_any (w : World) (v : Value) (L : List Fd) (h : FRds w v L) (hL : L.length ≤ 1048576) (hn : ∀ k, (L.getD k f0).b.length ≤ 1048576) :
    Calls Tryd.prog 15 #[v] w (RowPost (pkR L) w) := by
  have hv := ivf_any w v L h hL hn
  have HF := Lib.hid (fun W (hb : Below w.heap.size w W) => h.more hb)
  obtain ⟨A, c, hf⟩ := h.form
  subst hf
  cases hvb : vfsB L
  · rw [hvb] at hv
    rw [pkR_no hvb]
    have HV := Lib.hid hv
    clear hv hvb h
    go_enter Tryd.func15, Tryd.ntmps15
    go_wp2_with fail
    refine HV.out.mono ?_
    rintro e w1 ⟨rfl, hb1⟩
    go_wp2
    go_ret
    exact rowPost_nil rfl hb1
  · rw [hvb] at hv
    rw [pkR_yes hvb]
    have HV := Lib.hid hv
    have hl5 := vfs_len hvb
    have HG := Lib.hid (fun k hk => vfs_get hvb k hk)
    have HPL := Lib.hid (pkA_len hvb)
    clear hv hvb h
    go_enter Tryd.func15, Tryd.ntmps15
    go_wp2_with fail
    refine HV.out.mono ?_
    rintro e w0 ⟨rfl, hb0⟩
    have HB0 := Lib.hid hb0
    have hz0 := hb0.size
    clear hb0
    go_wp2
    go_loopw [3, 11] (fun sv iv wr => ∃ k : Nat, k ≤ L.length ∧ iv = .int .i64 k ∧ OwnL wr w0.heap.size sv (pkA (L.take k)) ∧ Below w0.heap.size w0 wr) (fun _ iv _ => L.length - (intOf iv).toNat)
    case atStart => exact ⟨0, Nat.zero_le _, rfl, OwnL.nil _ _, Below.refl _ _⟩
    case round =>
      obtain ⟨k, hk, rfl, hown, hb⟩ := hrel
      have HB := Lib.hid hb
      have hz := hb.size
      have HBW := Lib.hid (HB0.out.trans (hb.mono hz0))
      by_cases hlt : k < L.length
      · obtain ⟨b, off, hA, hat⟩ := (HF.out wr HBW.out).cells (by omega)
        subst hA
        obtain ⟨x0, u, x1, hu, hp⟩ := hat.2 k hlt
        have HPK := Lib.hid (fun W h hp => pkd_any (L.getD k f0) u W h hp (HG.out k hlt))
        have hl1 := pk1_len (HG.out k hlt)
        have hl2 := HPL.out k hk
        have HS := Lib.hid (pkA_snoc L k hlt)
        have HU := Lib.hid hu
        have HP := Lib.hid hp
        obtain ⟨Au, cu, rfl, _⟩ := hu
        generalize pk1 (L.getD k f0) = P at *
        generalize (L.getD k f0).t = t at *
        generalize (L.getD k f0).b = bs at *
        generalize pkA (L.take k) = Q at *
        obtain ⟨As, cs, hsf⟩ := hown.form
        subst hsf
        obtain ⟨wn, hwn⟩ : ∃ wn, wn = wr := ⟨_, rfl⟩
        subst hwn
        have hb1 := (Below.refl wn.heap.size wn).alloc (Nat.le_refl _) (.cells #[.int .i64 t, .slice Au bs.length cu] 48)
        have HB1 := Lib.hid (HB.out.trans (hb1.mono hz))
        have HU1 := Lib.hid (HU.out.more8 hb1)
        have HO1 := Lib.hid (OwnL.below hown hb1 (Nat.le_refl _))
        obtain ⟨c0, c1⟩ := two_blk (Blk.new wn 48 #[.int .i64 t, .slice Au bs.length cu])
        have hz1 : w0.heap.size ≤ (wn.alloc (.cells #[.int .i64 t, .slice Au bs.length cu] 48)).heap.size := by simp; omega
        clear hat hb HU hb1 hown hp
        go_upto_region 7 with fail
        generalize wn.alloc (.cells #[.int .i64 t, .slice Au bs.length cu] 48) = w1 at *
        go_wp2_with fail
        refine (onw_any t Au bs.length cu w1).mono ?_
        rintro e w2 ⟨rfl, hb2⟩
        have HU2 := Lib.hid (HU1.out.more8 hb2)
        have HB2 := Lib.hid (HB1.out.trans (hb2.mono hz1))
        have HO2 := Lib.hid (OwnL.below HO1.out hb2 (Nat.le_refl _))
        have hz2 : w0.heap.size ≤ w2.heap.size := Nat.le_trans hz1 hb2.size
        clear hb2 HB1 HU1 HO1 c0 c1 x0 x1
        go_wp2_with fail
        refine (HPK.out w2 HU2.out HP.out).mono ?_
        rintro e w3 ⟨u3, rfl, hu3, hb3⟩
        have HB3 := Lib.hid (HB2.out.trans (hb3.mono hz2))
        have HO3 := Lib.hid (OwnL.below HO2.out hb3 (Nat.le_refl _))
        have HU3 := Lib.hid (OwnL.rds hu3)
        have HP3 := Lib.hid (OwnL.proper hu3)
        have hz3 : w0.heap.size ≤ w3.heap.size := Nat.le_trans hz2 hb3.size
        clear hb3 hu3 HB2 HU2 HO2
        go_wp2_with (at_builtin; refine append_rowV rfl (.tmp 15) (.tmp 18) rfl w0.heap.size _ _ Q P rfl rfl HO3.out HU3.out HP3.out (by omega) hz3 ?_; intro v9 w9 hown9 hg9 hb9 hz9)
        obtain ⟨A9, c9, hf9⟩ := hown9.form
        subst hf9
        go_roundw
        case rel => exact ⟨k + 1, by omega, by go_num, by rw [HS.out]; exact hown9, HB3.out.trans hb9⟩
        case measure => simp [intOf] <;> omega
      · obtain rfl : k = L.length := by omega
        have HO := Lib.hid hown
        rw [List.take_length] at HO
        clear hown
        go_wp2
        go_ret
        exact ⟨_, rfl, HO.out.base hz0, HBW.out⟩

set_option maxHeartbeats 800000 in
theorem svf_any (f : Fd) (u : Value) (w : World) (h : Rds w u f.b) (hn : f.b.length ≤ 1048576) :
    Calls Tryd.prog 48 #[.agg #[.int .i64 f.t, u]] w fun e w' => e = .returned (.bool (vfB f)) ∧ Below w.heap.size w w' := by
  have hb0 := (Below.refl w.heap.size w).alloc (Nat.le_refl _) (.cells #[.int .i64 f.t, u] 48)
  obtain ⟨c0, c1⟩ := two_blk (Blk.new w 48 #[.int .i64 f.t, u])
  have HB := Lib.hid hb0
  have hv : Calls Tryd.prog 20 #[u, .int .i64 16] (w.alloc (.cells #[.int .i64 f.t, u] 48)) fun e w' => e = .returned (.bool (bytesB 16 f.b)) ∧ (w.alloc (.cells #[.int .i64 f.t, u] 48)) = w' := svy_any _ u f.b 16 (h.more8 hb0) hn (by omega)
  have hi : Calls Tryd.prog 35 #[.int .i64 f.t, .int .i64 0, .int .i64 300] (w.alloc (.cells #[.int .i64 f.t, u] 48)) fun e w' => e = .returned (.bool (tagB f.t)) ∧ (w.alloc (.cells #[.int .i64 f.t, u] 48)) = w' := inq_any f.t 0 300 _
  have hres : vfB f = (tagB f.t && bysB f.b) := rfl
  rw [hres, ← bys_eq]
  generalize bytesB 16 f.b = b at *
  have HV := Lib.hid hv
  cases htb : tagB f.t
  · rw [htb] at hi
    have HI := Lib.hid hi
    clear hb0 hv hi htb h hres
    obtain ⟨t, bs⟩ := f
    go_enter Tryd.func48, Tryd.ntmps48
    go_wp2_with (go_at_call 35; refine HI.out.mono ?_; rintro e w' ⟨rfl, rfl⟩)
    go_ret
    exact ⟨rfl, HB.out⟩
  · rw [htb] at hi
    have HI := Lib.hid hi
    clear hb0 hv hi htb h hres
    obtain ⟨t, bs⟩ := f
    go_enter Tryd.func48, Tryd.ntmps48
    go_wp2_with (first | (go_at_call 35; refine HI.out.mono ?_; rintro e w' ⟨rfl, rfl⟩) | (go_at_call 20; refine HV.out.mono ?_; rintro e w' ⟨rfl, rfl⟩))
    go_ret
    exact ⟨ret_bool (by simp), HB.out⟩

set_option maxHeartbeats 1600000 in
theorem svs_any (w : World) (v : Value) (L : List Fd) (h : FRds w v L) (hL : L.length ≤ 1048576) (hn : ∀ k, (L.getD k f0).b.length ≤ 1048576) :
    Calls Tryd.prog 31 #[v] w fun e w' => e = .returned (.bool (vfsB L)) ∧ Below w.heap.size w w' := by
  have HF := Lib.hid (fun W (hb : Below w.heap.size w W) => h.more hb)
  obtain ⟨A, c, hf⟩ := h.form
  subst hf
  have HN := Lib.hid hn
  have HA := fun (h : L.all vfB = true) => Lib.hid (show vfsB L = decide (L.length ≤ 5) from by unfold vfsB; rw [h]; simp)
  have HZ := fun (h : L.all vfB = false) => Lib.hid (show vfsB L = false from by unfold vfsB; rw [h]; simp)
  clear h hn
  go_enter Tryd.func31, Tryd.ntmps31
  go_wp2
  go_loopw [3] (fun iv wr => ∃ k : Nat, k ≤ L.length ∧ iv = .int .i64 k ∧ Hid ((L.take k).all vfB = true) ∧ Below w.heap.size w wr) (fun iv _ => L.length - (intOf iv).toNat)
  case atStart => exact ⟨0, Nat.zero_le _, rfl, Lib.hid (by simp), Below.refl _ _⟩
  case round =>
    obtain ⟨k, hk, rfl, hall, hb⟩ := hrel
    have HB := Lib.hid hb
    have hz := hb.size
    by_cases hlt : k < L.length
    · obtain ⟨b, off, hA, hat⟩ := (HF.out wr hb).cells (by omega)
      subst hA
      obtain ⟨x0, u, x1, hu, _⟩ := hat.2 k hlt
      have HV := Lib.hid (fun W h => svf_any (L.getD k f0) u W h (HN.out k))
      have HSN : ∀ r, vfB (L.getD k f0) = r → Hid (r = true → (L.take (k + 1)).all vfB = true) := fun r hr => Lib.hid (fun h => by rw [takeF_snoc L k hlt, List.all_append, hall.out]; rw [h] at hr; simpa using hr)
      have HSZ : ∀ r, vfB (L.getD k f0) = r → Hid (r = false → L.all vfB = false) := fun r hr => Lib.hid (fun h => by
        rw [List.all_eq_false]
        exact ⟨L.getD k f0, by rw [List.getD_eq_getElem?_getD, List.getElem?_eq_getElem hlt]; exact List.getElem_mem hlt, by rw [hr, h]; simp⟩)
      have HU := Lib.hid hu
      obtain ⟨Au, cu, rfl, _⟩ := hu
      have HSN := HSN _ rfl
      have HSZ := HSZ _ rfl
      generalize hvr : vfB (L.getD k f0) = vr at *
      generalize (L.getD k f0).t = t at *
      generalize (L.getD k f0).b = bs at *
      obtain ⟨wn, hwn⟩ : ∃ wn, wn = wr := ⟨_, rfl⟩
      subst hwn
      clear hat hb hvr
      go_wp2_with fail
      refine (HV.out wn HU.out).mono ?_
      rintro e w3 ⟨rfl, hb3⟩
      have HB3 := Lib.hid (HB.out.trans (hb3.mono hz))
      cases vr
      · go_wp2
        go_ret
        exact ⟨ret_bool (HZ (HSZ.out (by first | rfl | trivial))).out.symm, HB3.out⟩
      · go_wp2
        go_roundw
        case rel => exact ⟨k + 1, by omega, by go_num, Lib.hid (HSN.out (by first | rfl | trivial)), HB3.out⟩
        case measure => simp [intOf] <;> omega
    · obtain rfl : k = L.length := by omega
      have HR := HA (by have := hall.out; rwa [List.take_length] at this)
      go_wp2
      go_ret
      exact ⟨ret_bool (by rw [HR.out]; exact decide_eq_decide.2 (by omega)), HB.out⟩

set_option maxHeartbeats 3200000 in
theorem spk_any (w : World) (v : Value) (L : List Fd) (h : FRds w v L) (hvb : vfsB L = true) :
    Calls Tryd.prog 32 #[v] w (RowPost (pkA L) w) := by
  have HF := Lib.hid (fun W (hb : Below w.heap.size w W) => h.more hb)
  obtain ⟨A, c, hf⟩ := h.form
  subst hf
  have hl5 := vfs_len hvb
  have HG := Lib.hid (fun k hk => vfs_get hvb k hk)
  have HPL := Lib.hid (pkA_len hvb)
  have HO0 := Lib.hid (OwnL.empty w w.heap.size (Nat.le_refl _))
  have HB0 := Lib.hid ((Below.refl w.heap.size w).alloc (Nat.le_refl _) (.cells #[] 3))
  clear hvb h
  go_enter Tryd.func32, Tryd.ntmps32
  go_wp2
  go_loopw [3, 4] (fun sv iv wr => ∃ k : Nat, k ≤ L.length ∧ iv = .int .i64 k ∧ OwnL wr w.heap.size sv (pkA (L.take k)) ∧ Below w.heap.size w wr) (fun _ iv _ => L.length - (intOf iv).toNat)
  case atStart => exact ⟨0, Nat.zero_le _, rfl, HO0.out, HB0.out⟩
  case round =>
    obtain ⟨k, hk, rfl, hown, hb⟩ := hrel
    have HB := Lib.hid hb
    have hz := hb.size
    by_cases hlt : k < L.length
    · obtain ⟨b, off, hA, hat⟩ := (HF.out w (Below.refl _ _)).cells (by omega)
      subst hA
      obtain ⟨x0, u, x1, hu, hp⟩ := hat.2 k hlt
      have hbl : b < w.heap.size := hat.1
      obtain ⟨⟨ht0, ht1⟩, hbl16, _⟩ := vf_parts (HG.out k hlt)
      have hl2 := HPL.out k hk
      have HS : Hid (pkA (L.take (k + 1)) = ((pkA (L.take k) ++ gr (L.getD k f0).t.toNat) ++ gr (L.getD k f0).b.length) ++ (L.getD k f0).b) := Lib.hid (by rw [pkA_snoc L k hlt]; simp [pk1])
      have HP := Lib.hid hp
      obtain ⟨Au, cu, rfl, _⟩ := id hu
      obtain ⟨t, ht⟩ : ∃ t : Nat, (L.getD k f0).t = t := ⟨(L.getD k f0).t.toNat, by omega⟩
      rw [ht] at x0 HS
      rw [Int.toNat_natCast] at HS
      have l1 := gr_len3 (n := t) (by omega)
      have l2 := gr_len3 (n := (L.getD k f0).b.length) (by omega)
      have HG1 := Lib.hid (fun W => sgr_any t W (by omega))
      have HG2 := Lib.hid (fun W => sgr_any (L.getD k f0).b.length W (by omega))
      have HC := Lib.hid (fun W (hw : Below w.heap.size w W) => And.intro ((hw.cell (p := ⟨b, off + k * 2, none⟩) hbl).trans x0) (And.intro ((hw.cell (p := ⟨b, off + k * 2 + 1, none⟩) hbl).trans x1) (hu.more8 hw)))
      clear ht0 ht1 ht hat x0 x1 hu hp hbl
      generalize (L.getD k f0).b = bs at *
      generalize gr t = G1 at *
      generalize gr bs.length = G2 at *
      generalize pkA (L.take k) = Q at *
      obtain ⟨As, cs, hsf⟩ := hown.form
      subst hsf
      obtain ⟨wn, hwn⟩ : ∃ wn, wn = wr := ⟨_, rfl⟩
      subst hwn
      have HO := Lib.hid hown
      obtain ⟨c0, c1, cu0⟩ := HC.out wn hb
      clear hb hown c1 cu0
      go_wp2_with fail
      refine (HG1.out wn).mono ?_
      rintro e w2 ⟨u2, rfl, hu2, hb2⟩
      have HO2 := Lib.hid (OwnL.below HO.out hb2 (Nat.le_refl _))
      have HB2 := Lib.hid (HB.out.trans (hb2.mono hz))
      have HR2 := Lib.hid (OwnL.rds hu2)
      have HP2 := Lib.hid (OwnL.proper hu2)
      have hz2 : w.heap.size ≤ w2.heap.size := Nat.le_trans hz hb2.size
      clear hu2 hb2 HO c0
      go_wp2_with (at_builtin; refine append_rowV rfl (.tmp 12) (.tmp 18) rfl w.heap.size _ _ Q G1 rfl rfl HO2.out HR2.out HP2.out (by omega) hz2 ?_; intro v3 w3 hown3 hg3 hb3 hz3; refine Hid.out ?_)
      refine Lib.hid ?_
      have HB3 := Lib.hid (HB2.out.trans hb3)
      have hz4 : w.heap.size ≤ w3.heap.size := Nat.le_trans hz2 hz3
      have lq3 : (Q ++ G1).length = Q.length + G1.length := List.length_append
      generalize Q ++ G1 = Q3 at *
      obtain ⟨n3, A3, d3, hf3⟩ : ∃ n A d, v3 = .slice A n d := ⟨_, hown3.form⟩
      subst hf3
      have HO3 := Lib.hid hown3
      obtain ⟨c0, c1, cu0⟩ := HC.out w3 HB3.out
      clear hown3 hg3 hb3 hz3 HO2 HR2 HP2 HB2 hz2 c0 cu0
      go_wp2_with fail
      refine (HG2.out w3).mono ?_
      rintro e w5 ⟨u5, rfl, hu5, hb5⟩
      have HO5 := Lib.hid (OwnL.below HO3.out hb5 (Nat.le_refl _))
      have HB5 := Lib.hid (HB3.out.trans (hb5.mono hz4))
      have HR5 := Lib.hid (OwnL.rds hu5)
      have HP5 := Lib.hid (OwnL.proper hu5)
      have hz5 : w.heap.size ≤ w5.heap.size := Nat.le_trans hz4 hb5.size
      clear hu5 hb5 HO3 c1
      go_wp2_with (at_builtin; refine append_rowV rfl (.tmp 20) (.tmp 27) rfl w.heap.size _ _ Q3 G2 rfl rfl HO5.out HR5.out HP5.out (by omega) hz5 ?_; intro v6 w6 hown6 hg6 hb6 hz6; refine Hid.out ?_)
      refine Lib.hid ?_
      have HB6 := Lib.hid (HB5.out.trans hb6)
      have hz7 : w.heap.size ≤ w6.heap.size := Nat.le_trans hz5 hz6
      have lq6 : (Q3 ++ G2).length = Q3.length + G2.length := List.length_append
      generalize Q3 ++ G2 = Q6 at *
      obtain ⟨n6, A6, d6, hf6⟩ : ∃ n A d, v6 = .slice A n d := ⟨_, hown6.form⟩
      subst hf6
      have HO6 := Lib.hid hown6
      obtain ⟨c0, c1, cu0⟩ := HC.out w6 HB6.out
      have HU6 := Lib.hid cu0
      clear hown6 hg6 hb6 hz6 HO5 HR5 HP5 HB5 hz5 c0 cu0
      go_wp2_with (at_builtin; refine append_rowV rfl (.tmp 29) (.tmp 34) rfl w.heap.size _ _ Q6 bs rfl rfl HO6.out HU6.out HP.out (by omega) hz7 ?_; intro v9 w9 hown9 hg9 hb9 hz9)
      obtain ⟨n9, A9, c9, hf9⟩ : ∃ n A d, v9 = .slice A n d := ⟨_, hown9.form⟩
      subst hf9
      go_roundw
      case rel => exact ⟨k + 1, by omega, by go_num, by rw [HS.out]; exact hown9, HB6.out.trans hb9⟩
      case measure => simp [intOf] <;> omega
    · obtain rfl : k = L.length := by omega
      have HO := Lib.hid hown
      rw [List.take_length] at HO
      clear hown
      go_wp2
      go_ret
      exact ⟨_, rfl, HO.out, HB.out⟩

set_option maxHeartbeats 1600000 in
theorem sPK_any (w : World) (v : Value) (L : List Fd) (h : FRds w v L) (hL : L.length ≤ 1048576) (hn : ∀ k, (L.getD k f0).b.length ≤ 1048576) :
    Calls Tryd.prog 17 #[v] w (RowPost (pkR L) w) := by
  have HV := Lib.hid (svs_any w v L h hL hn)
  have HF := Lib.hid (fun W (hb : Below w.heap.size w W) => h.more hb)
  obtain ⟨A, c, hf⟩ := h.form
  subst hf
  clear h
  cases hvb : vfsB L
  · rw [hvb] at HV
    rw [pkR_no hvb]
    clear hvb
    go_enter Tryd.func17, Tryd.ntmps17
    go_wp2_with fail
    refine HV.out.mono ?_
    rintro e w1 ⟨rfl, hb1⟩
    go_wp2
    go_ret
    exact rowPost_nil rfl hb1
  · rw [hvb] at HV
    rw [pkR_yes hvb]
    have HK := Lib.hid (fun W (hb : Below w.heap.size w W) => spk_any W _ L (HF.out W hb) hvb)
    clear hvb
    go_enter Tryd.func17, Tryd.ntmps17
    go_wp2_with fail
    refine HV.out.mono ?_
    rintro e w0 ⟨rfl, hb0⟩
    have HB0 := Lib.hid hb0
    have HK := Lib.hid (HK.out w0 hb0)
    have hz := hb0.size
    clear hb0
    go_wp2_with fail
    refine HK.out.mono ?_
    rintro e w2 ⟨u2, rfl, hu2, hb2⟩
    have HO := Lib.hid hu2
    have HB := Lib.hid (HB0.out.trans (hb2.mono hz))
    obtain ⟨A2, c2, hf2⟩ := hu2.form
    subst hf2
    clear hu2 hb2
    go_wp2
    go_ret
    exact ⟨_, rfl, HO.out.base hz, HB.out⟩
end Go.Proofs.YthogkhifgkgplaaDoor
