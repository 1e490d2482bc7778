/-
  The walks of LastOf. Conditions: where the lists lie, and the lengths that are typed.
-/
import Derived.Test.YthogkhifgkgplaaWpf
namespace Go.Proofs.Ythogkhifgkgplaa
open Go.RowKit
set_option linter.unusedVariables false

set_option maxHeartbeats 800000 in
theorem iOB_any (w : World) (u : Value) (m : List Int) (h : Rds w u m) (hp : Proper u) (hn : m.length ≤ 1000) :
    Calls Try.prog 27 #[u] w (RowPost m w) := by
  have HR := Lib.hid h
  have HP := Lib.hid hp
  obtain ⟨A, c, rfl, _⟩ := h
  have HO := Lib.hid (OwnL.nil w w.heap.size)
  clear hp
  go_enter Try.func27, Try.ntmps27
  go_wp2_with (at_builtin; refine append_rowV rfl (.const (.slice none 0 0)) (.tmp 3) rfl w.heap.size _ _ [] m rfl rfl HO.out HR.out HP.out (by simp; omega) (Nat.le_refl _) ?_; intro v9 w9 hown9 hg9 hb9 hz9)
  have HW := Lib.hid hown9
  have HB := Lib.hid hb9
  obtain ⟨n9, A9, c9, hf9⟩ : ∃ n A d, v9 = .slice A n d := ⟨_, hown9.form⟩
  subst hf9
  clear hown9 hg9 hb9
  go_wp2
  go_ret
  exact ⟨_, rfl, HW.out, HB.out⟩

theorem laR_no {L : List Fd} {t : Int} (h : vfsB L = false) : laR L t = none := by unfold laR; rw [h]; rfl
theorem laR_yes {L : List Fd} {t : Int} (h : vfsB L = true) : laR L t = laF L t L.length := by unfold laR; rw [if_pos h]

set_option maxHeartbeats 3200000 in
theorem iLA_any (t : Int) (w : World) (v : Value) (L : List Fd) (h : FRds w v L) (hL : L.length ≤ 1048576) (hn : ∀ k, (L.getD k f0).b.length ≤ 1048576) :
    Calls Try.prog 16 #[v, .int .i64 t] w (UnPost (laR L t) w) := by
  have hv := ivf_any w v L h hL hn
  have HF := Lib.hid (fun W (hb : Below w.heap.size w W) => h.more hb)
  obtain ⟨A, c, hf⟩ := h.form
  subst hf
  cases hvb : vfsB L
  · rw [hvb] at hv
    have HR := laR_no (t := t) hvb
    have HV := Lib.hid hv
    clear hv hvb h
    go_enter Try.func16, Try.ntmps16
    go_wp2_with fail
    refine HV.out.mono ?_
    rintro e w1 ⟨rfl, hb1⟩
    go_wp2
    go_ret2
    exact unPost_none HR hb1
  · rw [hvb] at hv
    have HR := Lib.hid (laR_yes (t := t) hvb)
    have HV := Lib.hid hv
    have hl5 := vfs_len hvb
    have HG := Lib.hid (fun k hk => (vf_parts (vfs_get hvb k hk)).2.1)
    clear hv hvb h
    go_enter Try.func16, Try.ntmps16
    go_wp2_with fail
    refine HV.out.mono ?_
    rintro e w0 ⟨rfl, hb0⟩
    have HB0 := Lib.hid hb0
    have hz0 := hb0.size
    clear hb0
    have hw0 : IntKind.i64.wrap ((L.length : Int) - 1) = (L.length : Int) - 1 := IntWalk.i64_in _ (by omega)
    go_wp2
    go_loopw [6] (fun iv wr => ∃ (k : Nat) (x : Int), k ≤ L.length ∧ iv = .int .i64 x ∧ x = (k : Int) - 1 ∧ Hid (laF L t k = laF L t L.length) ∧ Below w.heap.size w wr) (fun iv _ => (intOf iv + 1).toNat)
    case atStart => exact ⟨L.length, (L.length : Int) - 1, Nat.le_refl _, rfl, rfl, Lib.hid rfl, HB0.out⟩
    case round =>
      obtain ⟨k, x, hk, rfl, hx, hla, hb⟩ := hrel
      have HB := Lib.hid hb
      have hz := hb.size
      cases k with
      | zero =>
        have hx' : x = -1 := by omega
        subst hx'
        have HN : Hid (laR L t = none) := Lib.hid (by rw [HR.out, ← hla.out]; rfl)
        clear hx hla hb
        go_wp2
        go_ret2
        exact unPost_none HN.out HB.out
      | succ j =>
        have hx' : x = (j : Int) := by omega
        subst hx'
        have hlt : j < L.length := by omega
        obtain ⟨b, off, hA, hat⟩ := (HF.out wr hb).cells (by omega)
        subst hA
        obtain ⟨x0, u, x1, hu, hp⟩ := hat.2 j hlt
        have hg := HG.out j hlt
        have hst : Hid (laF L t (j + 1) = if (L.getD j f0).t = t then some (L.getD j f0).b else laF L t j) := Lib.hid rfl
        have HP := Lib.hid hp
        have HU := Lib.hid hu
        have HLA := Lib.hid hla.out
        obtain ⟨Au, cu, rfl, _⟩ := id hu
        clear hat hu hp hb hla hx
        generalize (L.getD j f0).b = bs at *
        generalize (L.getD j f0).t = y at *
        by_cases hyt : y = t
        · subst hyt
          have HN : Hid (laR L y = some bs) := Lib.hid (by have := hst.out; rw [if_pos rfl] at this; rw [HR.out, ← HLA.out, this])
          obtain ⟨wn, hwn⟩ : ∃ wn, wn = wr := ⟨_, rfl⟩
          subst hwn
          clear hst HLA
          go_wp2_with fail
          refine (iOB_any wn _ bs HU.out HP.out (by omega)).mono ?_
          rintro e w3 ⟨u3, rfl, hu3, hb3⟩
          have HO := Lib.hid (hu3.base hz)
          have HB3 := Lib.hid (HB.out.trans (hb3.mono hz))
          obtain ⟨n9, A9, c9, hf9⟩ : ∃ n A d, u3 = .slice A n d := ⟨_, hu3.form⟩
          subst hf9
          clear hu3 hb3
          go_wp2
          go_ret2
          exact unPost_some HN.out HO.out HB3.out
        · have HN : Hid (laF L t j = laF L t L.length) := Lib.hid (by have := hst.out; rw [if_neg hyt] at this; rw [← HLA.out, this])
          have hw1 : IntKind.i64.wrap ((j : Int) - 1) = (j : Int) - 1 := IntWalk.i64_in _ (by omega)
          clear hst HLA
          go_wp2
          go_roundw
          case rel => exact ⟨j, (j : Int) - 1, by omega, rfl, rfl, Lib.hid HN.out, HB.out⟩
          case measure => simp [intOf] <;> omega

set_option maxHeartbeats 3200000 in
theorem sLA_any (t : Int) (w : World) (v : Value) (L : List Fd) (h : FRds w v L) (hL : L.length ≤ 1048576) (hn : ∀ k, (L.getD k f0).b.length ≤ 1048576) :
    Calls Try.prog 15 #[v, .int .i64 t] w (UnPost (laR L t) w) := by
  have hv := svs_any w v L h hL hn
  have HF := Lib.hid (fun W (hb : Below w.heap.size w W) => h.more hb)
  obtain ⟨A, c, hf⟩ := h.form
  subst hf
  cases hvb : vfsB L
  · rw [hvb] at hv
    have HR := laR_no (t := t) hvb
    have HV := Lib.hid hv
    clear hv hvb h
    go_enter Try.func15, Try.ntmps15
    go_wp2_with fail
    refine HV.out.mono ?_
    rintro e w1 ⟨rfl, hb1⟩
    go_wp2
    go_ret2
    exact unPost_none HR hb1
  · rw [hvb] at hv
    have HR := Lib.hid (laR_yes (t := t) hvb)
    have HV := Lib.hid hv
    have hl5 := vfs_len hvb
    have HG := Lib.hid (fun k hk => (vf_parts (vfs_get hvb k hk)).2.1)
    clear hv hvb h
    go_enter Try.func15, Try.ntmps15
    go_wp2_with fail
    refine HV.out.mono ?_
    rintro e w0 ⟨rfl, hb0⟩
    have HB0 := Lib.hid hb0
    have hz0 := hb0.size
    clear hb0
    have hw0 : IntKind.i64.wrap ((L.length : Int) - 1) = (L.length : Int) - 1 := IntWalk.i64_in _ (by omega)
    go_wp2
    go_loopw [6] (fun iv wr => ∃ (k : Nat) (x : Int), k ≤ L.length ∧ iv = .int .i64 x ∧ x = (k : Int) - 1 ∧ Hid (laF L t k = laF L t L.length) ∧ Below w.heap.size w wr) (fun iv _ => (intOf iv + 1).toNat)
    case atStart => exact ⟨L.length, (L.length : Int) - 1, Nat.le_refl _, rfl, rfl, Lib.hid rfl, HB0.out⟩
    case round =>
      obtain ⟨k, x, hk, rfl, hx, hla, hb⟩ := hrel
      have HB := Lib.hid hb
      have hz := hb.size
      cases k with
      | zero =>
        have hx' : x = -1 := by omega
        subst hx'
        have HN : Hid (laR L t = none) := Lib.hid (by rw [HR.out, ← hla.out]; rfl)
        clear hx hla hb
        go_wp2
        go_ret2
        exact unPost_none HN.out HB.out
      | succ j =>
        have hx' : x = (j : Int) := by omega
        subst hx'
        have hlt : j < L.length := by omega
        obtain ⟨b, off, hA, hat⟩ := (HF.out wr hb).cells (by omega)
        subst hA
        obtain ⟨x0, u, x1, hu, hp⟩ := hat.2 j hlt
        have hbl := hat.1
        have hg := HG.out j hlt
        have hst : Hid (laF L t (j + 1) = if (L.getD j f0).t = t then some (L.getD j f0).b else laF L t j) := Lib.hid rfl
        have HP := Lib.hid hp
        have HU := Lib.hid hu
        have HLA := Lib.hid hla.out
        have HX1 := Lib.hid x1
        obtain ⟨Au, cu, rfl, _⟩ := id hu
        clear hat hu hp hb hla hx x1
        generalize (L.getD j f0).b = bs at *
        generalize (L.getD j f0).t = y at *
        by_cases hyt : y = t
        · subst hyt
          have HN : Hid (laR L y = some bs) := Lib.hid (by have := hst.out; rw [if_pos rfl] at this; rw [HR.out, ← HLA.out, this])
          obtain ⟨wn, hwn⟩ : ∃ wn, wn = wr := ⟨_, rfl⟩
          subst hwn
          have hba := (Below.refl wn.heap.size wn).alloc (Nat.le_refl _) (.cells #[] 3)
          have y1 := (hba.cell (p := ⟨b, off + j * 2 + 1, none⟩) hbl).trans HX1.out
          have HU1 := Lib.hid (HU.out.more8 hba)
          have HB1 := Lib.hid (HB.out.trans (hba.mono hz))
          have HO1 := Lib.hid (OwnL.empty wn wn.heap.size (Nat.le_refl _))
          have hz1 : w.heap.size ≤ (wn.alloc (.cells #[] 3)).heap.size := Nat.le_trans hz hba.size
          have hz2 : wn.heap.size ≤ (wn.alloc (.cells #[] 3)).heap.size := hba.size
          clear hst HLA HU hba
          go_wp2_with (at_builtin; refine append_rowV rfl (.tmp 24) (.tmp 29) rfl wn.heap.size _ _ [] bs rfl rfl HO1.out HU1.out HP.out (by simp; omega) hz2 ?_; intro v9 w9 hown9 hg9 hb9 hz9)
          have HO := Lib.hid (hown9.base hz)
          have HB3 := Lib.hid (HB1.out.trans (hb9.mono hz))
          obtain ⟨n9, A9, c9, hf9⟩ : ∃ n A d, v9 = .slice A n d := ⟨_, hown9.form⟩
          subst hf9
          clear hown9 hg9 hb9
          go_wp2
          go_ret2
          exact unPost_some HN.out HO.out HB3.out
        · have HN : Hid (laF L t j = laF L t L.length) := Lib.hid (by have := hst.out; rw [if_neg hyt] at this; rw [← HLA.out, this])
          have hw1 : IntKind.i64.wrap ((j : Int) - 1) = (j : Int) - 1 := IntWalk.i64_in _ (by omega)
          clear hst HLA
          go_wp2
          go_roundw
          case rel => exact ⟨j, (j : Int) - 1, by omega, rfl, rfl, Lib.hid HN.out, HB.out⟩
          case measure => simp [intOf] <;> omega
end Go.Proofs.Ythogkhifgkgplaa
