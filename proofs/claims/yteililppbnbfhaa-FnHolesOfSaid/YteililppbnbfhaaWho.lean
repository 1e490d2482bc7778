/-
  The walk of the program's HolesOf. Conditions: where the list lies, and its length.
-/
import Derived.Test.YteililppbnbfhaaWsrt
import Derived.Test.YteililppbnbfhaaHol
import Derived.Test.YteililppbnbfhaaWcu
import Derived.Shelf.SlSortCmp.NoneTotal
namespace Go.Proofs.Yteililppbnbfhaa
open Go.RowKit Go.Maps
set_option linter.unusedVariables false

/-- Nothing is put in order. -/
theorem sort_none (w : World) (p : Option Addr) (cap : Nat) :
    Calls Try.prog 32 #[.slice p 0 cap, .func (.func 33) #[] #[]] w
      fun e w' => e = .returned (.tuple #[]) ∧ w' = w := by
  have hcon := AnyF.slices_SortFunc_none Try.sortP p cap (.func (.func 33) #[] #[]) w
  change Calls Try.prog 32 _ _ _ at hcon
  exact hcon
theorem order_any (w : World) (B : Nat) (v : Value) (ps : List Pc) (hn : ps.length ≤ 1000) (h : OwnP w B v ps) :
    Calls Try.prog 32 #[v, .func (.func 33) #[] #[]] w
      fun e w' => e = .returned (.tuple #[]) ∧ ∃ ts : List Pc, ts.Perm ps ∧ ts.Pairwise (fun p q => p.a ≤ q.a) ∧ OwnP w' B v ts ∧ w.grownBy w' v.ownBlock := by
  rcases h.2 with ⟨rfl, h0⟩ | ⟨g, cap, cur, rfl, _⟩
  · obtain rfl : ps = [] := List.eq_nil_of_length_eq_zero h0
    exact (sort_none w none 0).mono fun e w' ⟨h1, h2⟩ => by
      subst h2
      exact ⟨h1, [], List.Perm.refl _, by simp, h, World.grownBy.refl _ _⟩
  · exact sort_any w B g cap ps.length ps rfl hn h

set_option maxHeartbeats 1600000 in
theorem iHO_bad (w : World) (v : Value) (ps : List Pc) (L : Int) (h : PRds w v ps) (hn : ps.length ≤ 1048576) (hb : okH ps L = false) :
    Calls Try.prog 12 #[v, .int .i64 L] w (HPost ps L w) := by
  have H1 := fun W h => iVP_any W v ps h hn
  have H2 := fun W => wit_any W L 1 60
  have HB := Lib.hid (HP.none hb)
  have HR0 := Lib.hid h
  unfold okH at hb
  obtain ⟨A, c, rfl, _⟩ := h
  cases hv : vpB ps
  · rw [hv] at H1
    have HH1 := Lib.hid H1
    clear H1 H2 hb hv
    go_enter Try.func12, Try.ntmps12
    go_wp2_with (go_at_call 22; refine (HH1.out _ HR0.out).mono ?_; rintro e w' ⟨rfl, hb1⟩; have HB1 := Lib.hid hb1; clear hb1)
    go_ret
    exact ⟨_, [], rfl, HB.out, OwnP.nil _ _, HB1.out⟩
  · rw [hv, Bool.true_and] at hb
    rw [hv] at H1
    rw [hb] at H2
    have HH1 := Lib.hid H1
    have HH2 := Lib.hid H2
    clear H1 H2 hb hv
    go_enter Try.func12, Try.ntmps12
    go_wp2_with (first | (go_at_call 22; refine (HH1.out _ HR0.out).mono ?_; rintro e w' ⟨rfl, hb1⟩; have HB1 := Lib.hid hb1; clear hb1) | (go_at_call 29; refine (HH2.out _).mono ?_; rintro e w' ⟨rfl, rfl⟩))
    go_ret
    exact ⟨_, [], rfl, HB.out, OwnP.nil _ _, HB1.out⟩

set_option maxHeartbeats 3200000 in
theorem iHO_ok (w : World) (v : Value) (ps : List Pc) (N : Nat) (h : PRds w v ps) (hb : okH ps N = true) :
    Calls Try.prog 12 #[v, .int .i64 N] w (HPost ps N w) := by
  obtain ⟨hvp, hall, h20, N', hNN, hN1, hN2⟩ := okH_valid hb
  obtain rfl : N = N' := by omega
  have H1 := fun W h => iVP_any W v ps h (by omega)
  rw [hvp] at H1
  have H2 := fun W => wit_any W N 1 60
  have t2 : (decide ((1 : Int) ≤ (N : Int)) && decide ((N : Int) ≤ 60)) = true := by simp; omega
  rw [t2] at H2
  have H3 := fun W h => mis_any W v ps N h (by omega) hall hN1 hN2
  have HH1 := Lib.hid H1
  have HH2 := Lib.hid H2
  have HH3 := Lib.hid H3
  have HJ := Lib.hid (fun acc ts l => HP.of_acc (acc := acc) (ts := ts) (l := l) hb)
  have HBD := Lib.hid (fun j h => mis_bd (ps := ps) (N := N) j h)
  have HR0 := Lib.hid h
  obtain ⟨i0, hi, hz0, hz1, hz2⟩ := info_parts infoP
  have HI := Lib.hid hi
  have HZ0 := Lib.hid hz0
  have HZ1 := Lib.hid hz1
  have HZ2 := Lib.hid hz2
  clear H1 H2 H3 t2 hb hvp hall hNN hi hz0 hz1 hz2
  generalize mis ps N = f at *
  obtain ⟨A, c, rfl, _⟩ := h
  go_enter Try.func12, Try.ntmps12
  go_wp2_with (first | (go_at_call 22; refine (HH1.out _ HR0.out).mono ?_; rintro e w1 ⟨rfl, hb1⟩; have HB1 := Lib.hid hb1; have HR1 := Lib.hid (HR0.out.more hb1); clear hb1) | (go_at_call 29; refine (HH2.out _).mono ?_; rintro e w' ⟨rfl, rfl⟩) | (go_at_call 30; refine (HH3.out _ HR1.out).mono ?_; rintro e w2 ⟨rfl, hm2, hb2⟩; have HM2 := Lib.hid hm2; have HB2 := Lib.hid (HB1.out.trans (hb2.mono HB1.out.size)); clear hm2 hb2) | (at_range; refine wp_range rfl _ rfl w1.heap.size N f rfl HM2.out ?_; intro w3 cnt hc hr3 hg3 hs3; have HR3 := Lib.hid hr3; have HG3 := Lib.hid hg3; clear hr3 hg3))
  go_frame
  obtain ⟨b, hbb⟩ : ∃ b, b = w1.heap.size := ⟨_, rfl⟩
  obtain ⟨r, hrr⟩ : ∃ r, r = w2.heap.size := ⟨_, rfl⟩
  rw [← hbb] at HR3 ⊢
  rw [← hrr] at HR3 hs3 ⊢
  have hbr : b < r := by rw [hbb, hrr]; have := HM2.out.lt; exact this
  have hwb : w.heap.size ≤ b := by rw [hbb]; exact HB1.out.size
  have HB3 : Hid (Below w.heap.size w w3) := Lib.hid (HB2.out.grown HG3.out HB2.out.size (fun k hk => by cases hk))
  clear hbb hrr HM2 HB2 HG3 HR1 HB1
  go_loopw [5] (fun hv wr => ∃ (acc : List Pc) (l : Int → Bool) (cnt : Nat), OwnP wr (r + 1) hv acc ∧ Rng wr b r N f l cnt ∧ Acc f N l acc ∧ acc.length + cnt ≤ 60 ∧ Below w.heap.size w wr) (fun _ wr => wr.rangeLeft b r)
  case atStart => exact ⟨[], f, cnt, OwnP.nil _ _, HR3.out, Acc.start _ _, by simp; omega, HB3.out⟩
  case round =>
    obtain ⟨acc, l, cn, hown, hrng, hacc, hcn, hbel⟩ := hrel
    have HO := Lib.hid hown
    have HRG := Lib.hid hrng
    have HA := Lib.hid hacc
    have HBEL := Lib.hid hbel
    obtain ⟨A5, c5, rfl⟩ := own_form3 hown
    clear hown hrng hacc hbel
    go_wp2_with (at_next; refine wp_next rfl _ rfl b r N f l cn rfl HRG.out ?_ ?_)
    · intro _ hl0
      have hgl : ∀ k, (Value.slice A5 acc.length c5).ownBlock = some k → w.heap.size ≤ k := fun k hk => by have := (World.ownsRow.lt HO.out k hk).1; omega
      go_wp2_with (go_at_call 32; refine (order_any _ (r + 1) _ acc (by omega) HO.out).mono ?_; rintro e w5 ⟨rfl, ts, hp, hs, ho5, hg5⟩)
      go_ret
      exact ⟨_, ts, rfl, HJ.out acc ts l HA.out hl0 hp hs, own3_base ho5 hgl, HBEL.out.grown hg5 HBEL.out.size hgl⟩
    · intro x w4 cn4 hwx hlx hfx hr4 hlt4 hg4 hs4 hen
      have hxb := HBD.out x hfx
      have hxb0 : 0 ≤ x ∧ x < (N : Int) := hxb
      have hgl : ∀ k, (Value.slice A5 acc.length c5).ownBlock = some k → r + 1 ≤ k := fun k hk => (World.ownsRow.lt HO.out k hk).1
      have HO4 : Hid (OwnP w4 (r + 1) (.slice A5 acc.length c5) acc) := Lib.hid (World.ownsRow.kept HO.out hg4 (.inr (fun e => by have := hgl r e; omega)))
      have HB4 : Hid (Below w.heap.size w w4) := Lib.hid (below_grown HBEL.out hg4 (by omega) HBEL.out.size)
      have HR4 := Lib.hid hr4
      have hrl := hr4.lt
      have hl := hr4.map.look (x - 1) (WalkArith.wf_i64 (by omega))
      have HT := Lib.hid (fun p hf h1 h2 => HA.out.take (x := x) (p := p) hlx hf h1 h2)
      have HSK := Lib.hid (fun h => HA.out.skip (x := x) h)
      have HRA := Lib.hid (rowAt_any w4 b N N f x hr4.map (fun j hj => by have h1 := HBD.out j hj; have h2 : 0 ≤ j ∧ j < (N : Int) := h1; omega) hfx hN2)
      clear hxb hr4 hg4 hlx hfx
      cases hf1 : f (x - 1)
      · rw [hf1] at hl
        have HF1 := Lib.hid hf1
        clear hf1
        go_wp2_with (first | (go_at_call 31; refine HRA.out.mono ?_; rintro e w5 ⟨⟨pa, ps', pm⟩, rfl, hpa, hrow, hb5⟩; simp only [Pc.val]; have HPA := Lib.hid hpa; have HROW := Lib.hid hrow; have HO5 : Hid (OwnP w5 (r + 1) (.slice A5 acc.length c5) acc) := Lib.hid (own3_below HO4.out hb5 (fun g hg => (World.ownsRow.lt HO4.out g hg).2)); have HR5 := Lib.hid (HR4.out.below hb5 (by omega) hrl); have HB5 := Lib.hid (HB4.out.trans (hb5.mono HB4.out.size)); have hz5 := hb5.size; clear hpa hrow hb5) | (at_builtin; refine wpList_append_own _ rfl (.tmp 30) (.tmp 35) 24 rfl (r + 1) 38 i0 (.agg #[.int .i64 0, .int .i64 0, .bool false]) 3 24 Try.underlying24 HI.out HZ0.out HZ1.out HZ2.out rfl (by decide) _ _ _ rfl (HO5.out.alloc _) ⟨w5.heap.size, 0, none⟩ 1 1 (pcs [⟨pa, ps', pm⟩]) rfl rfl (new3 _ _ _ _ _) (one3 _ _ _) (by rw [mx]; omega) (by omega) (by simp; omega) ?_; intro v9 w9 hown9 hg9 hnil; clear hnil))
        have R2 := push3_below (own3_base HO5.out (B' := w.heap.size) (fun g hg => by have := hgl g hg; omega)) hg9 HB5.out HB5.out.size
        have hr9 : Rng w9 b r N f (fun k => l k && !decide (k = x)) cn4 := (HR5.out.kept (World.grownBy_alloc w5 (.cells #[.int .i64 pa, .int .i64 ps', .bool pm] 38) none) (by simp) (by simp)).kept hg9 (fun e => by have := hgl b e.symm; omega) (fun e => by have := hgl r e.symm; omega)
        go_roundw
        case rel => exact ⟨acc ++ [⟨pa, ps', pm⟩], _, cn4, ownP_snoc hown9, hr9, HT.out _ HF1.out HPA.out HROW.out, by simp; omega, R2.1⟩
        case measure => rw [hr9.left_eq, HRG.out.left_eq]; exact hlt4
      · rw [hf1] at hl
        have HF1 := Lib.hid hf1
        clear hf1
        go_wp2
        go_roundw
        case rel => exact ⟨acc, _, cn4, HO4.out, HR4.out, HSK.out HF1.out, by omega, HB4.out⟩
        case measure => rw [HR4.out.left_eq, HRG.out.left_eq]; exact hlt4
theorem iHO_any (w : World) (v : Value) (ps : List Pc) (L : Int) (h : PRds w v ps) (hn : ps.length ≤ 1048576) :
    Calls Try.prog 12 #[v, .int .i64 L] w (HPost ps L w) := by
  cases hb : okH ps L
  · exact iHO_bad w v ps L h hn hb
  · obtain ⟨_, _, _, N, rfl, _, _⟩ := okH_valid hb
    exact iHO_ok w v ps N h hb
end Go.Proofs.Yteililppbnbfhaa
