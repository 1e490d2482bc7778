/-
  The walk of TurnsOf. Conditions: where the lists lie, and the bounds that are typed.
-/
import Derived.Test.YtnghpipkdodgiaaWln
namespace Go.Proofs.Ytnghpipkdodgiaa
open Go.RowKit
set_option linter.unusedVariables false

theorem made_lines {w1 : World} {g n : Nat} (h : w1.ownsRow g 40 2 (.slice (some ⟨g, 0, none⟩) n n) n (madeCells (Value.agg #[.slice none 0 0, .int .i64 0]).cells (n * 2)).toList) : Blk w1 g 40 (madeCells (Value.agg #[.slice none 0 0, .int .i64 0]).cells (n * 2)) := by
  rcases h.2 with ⟨h0, _⟩ | ⟨g', cap, cur, hv, hB, hg, hn, hcap, hcs, htk⟩
  · cases h0
  · simp only [Value.slice.injEq, Option.some.injEq, Addr.mk.injEq, and_true, true_and] at hv
    obtain ⟨rfl, rfl⟩ := hv
    rw [List.take_of_length_le (by rw [Array.length_toList, hcs]; exact Nat.le_refl _)] at htk
    have e : cur = madeCells (Value.agg #[.slice none 0 0, .int .i64 0]).cells (n * 2) := Array.toList_inj.1 htk
    rw [← e]; exact hg

set_option maxHeartbeats 6400000 in
set_option maxRecDepth 20000 in
theorem itu_ok (q : Int) (w : World) (v : Value) (L : List (List Int)) (hv : RdsL w v L) (hcap : CapL w v L) (hn : ∀ k, (L.getD k []).length ≤ 1048576) (hq : 1 ≤ q ∧ q ≤ 30) (hF : okF L = true) :
    Calls Try.prog 8 #[.int .i64 q, v] w (RowPost (turR q L) w) := by
  have hlen := okF_len hF
  have HTB : Hid (turB q L = true) := Lib.hid (by simp [turB, quaB, hq, hF])
  have H1 : Calls Try.prog 21 #[.int .i64 q, .int .i64 1, .int .i64 30] w fun e w' => e = .returned (.bool true) ∧ w = w' := by
    have := wit_any w q 1 30
    rwa [show (decide ((1 : Int) ≤ q) && decide (q ≤ 30)) = true from by simp [hq]] at this
  have H2 := iVf_any w v L hv (by omega) hn
  rw [hF] at H2
  have HW := Lib.hid H1
  have HVF := Lib.hid H2
  have HV := Lib.hid (fun wr (hb : Below w.heap.size w wr) => hv.more hb)
  obtain ⟨A, c, hvf⟩ := hv.form
  subst hvf
  have HLS2 := Lib.hid (fun f hf => lin_start hv hcap f hf)
  have HF := Lib.hid hF
  have HQ := Lib.hid hq
  have HPL := Lib.hid (allP_le hF)
  obtain ⟨i0, hi, hz0, hz1, hz2⟩ := info_parts infoLn
  have HI := Lib.hid hi
  have HZ0 := Lib.hid hz0
  have HZ1 := Lib.hid hz1
  have HZ2 := Lib.hid hz2
  clear hF hi hz0 hz1 hz2 hv hcap hn H1 H2
  go_enter Try.func8, Try.ntmps8
  go_wp2_with (first
    | (go_at_call 21; refine HW.out.mono ?_; rintro e w' ⟨rfl, rfl⟩)
    | (go_at_call 22; refine HVF.out.mono ?_; rintro e w' ⟨rfl, rfl⟩)
    | (at_make; refine wpList_make_full _ rfl _ _ 38 rfl w.heap.size 40 i0 (.agg #[.slice none 0 0, .int .i64 0]) 2 Try.underlying38 HI.out HZ0.out HZ1.out _ _ _ _ L.length rfl rfl rfl rfl (by rw [HZ2.out]; omega) (by unfold maxLen; omega) (Nat.le_refl _) ?_; intro w1 hown1 hg1))
  have hz1 := (World.ownsRow.lt hown1 _ rfl).2
  have HB1 := Lib.hid ((Below.refl w.heap.size w).grown hg1 (Nat.le_refl _) (fun k hk => by cases hk))
  have HK1 := Lib.hid (made_lines hown1)
  clear hown1 hg1 HI HZ0 HZ1 HZ2
  go_loopw [6, 7, 25] (fun _ _ iv wr => ∃ (k : Nat) (cs : Array Value), k ≤ L.length ∧ iv = .int .i64 k ∧ Blk wr w.heap.size 40 cs ∧ LinI L w k cs ∧ Below w.heap.size w wr) (fun _ _ iv _ => L.length - (intOf iv).toNat)
  case atStart => exact ⟨0, _, Nat.zero_le _, rfl, HK1.out, linI_start L w, HB1.out⟩
  case round =>
    obtain ⟨k, cs, hk, rfl, hblk, hlin, hbel⟩ := hrel
    clear hz1 HB1 HK1
    by_cases hlt : k < L.length
    · obtain ⟨b, off, u, hb, hbl, hcu0, hln, hone⟩ := HLS2.out k hlt
      subst hb
      obtain ⟨uo, huo⟩ := hlin.some_ hlt
      obtain ⟨Au, cu, hu, _⟩ := id hln
      have HLI := Lib.hid (hlin.step hlt hln)
      generalize (L.getD k []).length - 0 = mu at hu
      subst hu
      have hcu : wr.cell? ⟨b, off + k, none⟩ = some (.slice Au mu cu) := (hbel.cell (p := ⟨b, off + k, none⟩) hbl).trans hcu0
      have hco : wr.cell? ⟨w.heap.size, k * 2, none⟩ = some uo := by rw [hblk.cell]; exact huo
      have hfo := hblk.frozen (k * 2)
      have HBS := Lib.hid (hblk.set_ (k * 2) (.slice Au mu cu))
      have HBE := Lib.hid (below_grown hbel (grown_set7 (g := w.heap.size) (i := k * 2) (u := .slice Au mu cu) (World.grownBy.refl wr (some w.heap.size))) (Nat.le_refl _) hbel.size)
      clear hblk hlin hbel hln hcu0 huo
      go_wp2
      go_roundw
      case rel => exact ⟨k + 1, _, by omega, by go_num, HBS.out, HLI.out, HBE.out⟩
      case measure => simp [intOf]; omega
    · obtain rfl : k = L.length := by omega
      have hzl : w.heap.size + 1 ≤ wr.heap.size := hblk.lt
      have HBS := Lib.hid hblk
      have HLN := Lib.hid (hlin.all (st := stR q L 0 0) (fun j hj => by unfold stR; rw [if_neg (by omega)]; rfl))
      have HBE := Lib.hid hbel
      have HV1 := Lib.hid (HV.out wr hbel)
      have HCT := Lib.hid (cct_any wr _ L HV1.out (by omega) (by have := HPL.out; omega))
      obtain ⟨ws, hws⟩ : ∃ ws, ws = wr := ⟨_, rfl⟩
      subst hws
      clear hblk hlin hbel HV HV1
      go_wp2_with (go_at_call 23; refine HCT.out.mono ?_; rintro e w2 ⟨u2, rfl, hu2, hb2⟩; have HB2 := Lib.hid hb2; obtain ⟨A2, c2, hf2⟩ := hu2.form; have hfl := flat_len L; rw [hfl] at hf2; subst hf2; clear hu2 hb2 hfl)
      have hz2 : w.heap.size + 1 ≤ w2.heap.size := by have := HB2.out.size; omega
      have HK2 := Lib.hid (HBS.out.below HB2.out (by omega))
      have HE2 := Lib.hid (HBE.out.trans (HB2.out.mono (by omega)))
      clear HBS HBE HB2 HCT hzl
      go_loopw [9] (fun sv wr => ∃ (r : Nat) (cs : Array Value), r ≤ 744 ∧ (∀ i, i < r → left q L i ≠ 0) ∧ OwnL wr (w.heap.size + 1) sv (outA q L r 0) ∧ Blk wr w.heap.size 40 cs ∧ LinA L w (stR q L r 0) cs ∧ Below w.heap.size w wr ∧ w.heap.size + 1 ≤ wr.heap.size) (fun _ wr => mesX wr w.heap.size L.length)
      case atStart => exact ⟨0, cs, Nat.zero_le _, fun i hi => absurd hi (by omega), OwnL.nil _ _, HK2.out, HLN.out, HE2.out, hz2⟩
      case round =>
        obtain ⟨r, cs, hr, hst, hown, hblk, hA, hbel, hzr⟩ := hrel
        clear HK2 HLN HE2 hz2
        have hgl := gone_left HQ.out HF.out r
        have htl : (outA q L r 0).length = gone q L r := by rw [outA_zero, turns_len HQ.out HF.out r]
        obtain ⟨As, c9, hsv⟩ := hown.form
        subst hsv
        by_cases hlz : left q L r = 0
        · have HE : Hid (turR q L = outA q L r 0) := Lib.hid (by rw [turR_ok HTB.out, turT_is hr hlz hst, outA_zero])
          have HO := Lib.hid hown
          have HBL := Lib.hid hbel
          have hd : decide ((outA q L r 0).length < allP L) = false := decide_eq_false (by omega)
          clear hown hblk hA hbel hst hgl htl
          go_wp2
          go_ret
          exact rowPost_mk HE.out (own_base7 HO.out (by omega)) HBL.out
        · have HM : Hid (mesX wr w.heap.size L.length = sumF (fun l => mes q l r) L) := Lib.hid (by have := mesX_is hblk hA L.length (Nat.le_refl _); rwa [List.take_length] at this)
          have hd : decide ((outA q L r 0).length < allP L) = true := decide_eq_true (by omega)
          have HO := Lib.hid hown
          have HK := Lib.hid hblk
          have HAA := Lib.hid hA
          have HBL := Lib.hid hbel
          have HST := Lib.hid hst
          obtain ⟨wo, hwo⟩ : ∃ wo, wo = wr := ⟨_, rfl⟩
          subst hwo
          clear hown hblk hA hbel hst hgl htl
          go_wp2
          go_loopw [9, 45] (fun sv iv wr => ∃ (f : Nat) (cs : Array Value), f ≤ L.length ∧ iv = .int .i64 f ∧ OwnL wr (w.heap.size + 1) sv (outA q L r f) ∧ Blk wr w.heap.size 40 cs ∧ LinA L w (stR q L r f) cs ∧ Below w.heap.size w wr ∧ w.heap.size + 1 ≤ wr.heap.size) (fun _ iv _ => L.length - (intOf iv).toNat)
          case atStart => exact ⟨0, cs, Nat.zero_le _, rfl, HO.out, HK.out, HAA.out, HBL.out, hzr⟩
          case round =>
            obtain ⟨f, cs, hf, rfl, hown, hblk, hA, hbel, hzf⟩ := hrel
            clear HO HK HAA HBL
            obtain ⟨Af, c8, hsv⟩ := hown.form
            subst hsv
            by_cases hlt : f < L.length
            · obtain ⟨⟨u, hu0, hlin⟩, hu1⟩ := hA.2 f hlt
              have hOK := okF_at HF.out f
              have HPUT := Lib.hid (fun (u' : Value) (h : Lin w (L.getD f []) (stt q (L.getD f []) (r + 1)).1 u') => hA.put (st' := stR q L r (f + 1)) hlt (by rw [stR_next]; exact h) (by rw [stR_next] : (stt q (L.getD f []) (r + 1)).2 = _) (fun j _ hj => stR_else q L r f j hj))
              have HOS := Lib.hid (outA_succ (q := q) (L := L) r f)
              have hl48 := outA_len HQ.out HF.out r f hf
              rw [stR_here] at hlin hu1
              have HT := tkt_any w wr q (stt q (L.getD f []) r).2 (L.getD f []) (stt q (L.getD f []) r).1 w.heap.size (f * 2) _ cs u hbel (Nat.le_refl _) hblk hu0 hu1 hlin hOK HQ.out (by have := stt_bd HQ.out (okP_parts hOK).1 r; omega) (stt_bd HQ.out (okP_parts hOK).1 r).1
              rw [← stt_succ] at HT
              have hct : (stt q (L.getD f []) (r + 1)).1 - (stt q (L.getD f []) r).1 = cnt q (L.getD f []) r := rfl
              rw [hct] at HT
              have hc6 : cnt q (L.getD f []) r ≤ 6 := by
                have h1 := (stt_bd HQ.out (okP_parts hOK).1 (r + 1)).1
                have h2 := (okP_parts hOK).2
                omega
              have HTT := Lib.hid HT
              have HO := Lib.hid hown
              have HBL := Lib.hid hbel
              obtain ⟨wn, hwn⟩ : ∃ wn, wn = wr := ⟨_, rfl⟩
              subst hwn
              clear HT hown hbel hlin hu0 hu1 hA hct
              generalize hcn : cnt q (L.getD f []) r = n at *
              have HCN := Lib.hid hcn
              clear hcn
              go_wp2_with fail
              refine HTT.out.mono ?_
              rintro e w3 ⟨rfl, u3, hl3, hk3, hg3⟩
              have HA3 := Lib.hid (HPUT.out u3 hl3)
              have HK3 := Lib.hid hk3
              have hz3 : w.heap.size + 1 ≤ w3.heap.size := by have := hg3.size; omega
              have HB3 := Lib.hid (below_grown HBL.out hg3 (Nat.le_refl _) HBL.out.size)
              have HO3 : Hid (OwnL w3 (w.heap.size + 1) (.slice Af (outA q L r f).length c8) (outA q L r f)) := Lib.hid (World.ownsRow.kept HO.out hg3 (by
                cases hob : (Value.slice Af (outA q L r f).length c8).ownBlock with
                | none => exact .inl rfl
                | some k => exact .inr (fun e => by have := (World.ownsRow.lt HO.out k hob).1; injection e with e; omega)))
              have hrp := rep_any (w3.alloc (.cells #[.int .i64 (f : Int)] 3)) f w3.heap.size 1 n hc6 (cell_of_row _ _ 0 _ _ (0, 0) (heap_alloc_new w3 _))
              have HRP := Lib.hid hrp
              clear hl3 hk3 hg3 HO HBL HTT HPUT hrp hblk
              go_wp2_with fail
              refine HRP.out.mono ?_
              rintro e w4 ⟨u4, rfl, ho4, hb4⟩
              have HB34 : Hid (Below w3.heap.size w3 w4) := Lib.hid (((Below.refl w3.heap.size w3).alloc (Nat.le_refl _) _).trans (hb4.mono (by simp)))
              have HU4 := Lib.hid (Rds.of_own ho4)
              have HP4 := Lib.hid ho4.proper
              have HO4 := Lib.hid (OwnL.below HO3.out HB34.out (by omega))
              have hz4 : w.heap.size + 1 ≤ w4.heap.size := by have := HB34.out.size; omega
              have hrl : (List.replicate n (f : Int)).length = n := by simp
              have HRL := Lib.hid hrl
              clear ho4 hb4 HRP HO3 hrl
              go_wp2_with (at_builtin; refine append_rowI rfl (.tmp 53) (.tmp 57) rfl (w.heap.size + 1) _ _ (outA q L r f) (List.replicate n (f : Int)) rfl rfl HO4.out HU4.out HP4.out (by have := HRL.out; omega) hz4 ?_; intro A9 c9 w9 ho9 hg9 hb9 hz9)
              go_roundw
              case rel =>
                have hb49 := HB34.out.mono (show w.heap.size + 1 ≤ w3.heap.size from hz3)
                refine ⟨f + 1, _, by omega, by go_num, by rw [HOS.out]; have h := ho9; rw [HRL.out] at h; exact h, (HK3.out.below hb49 (by omega)).below hb9 (by omega), HA3.out, (HB3.out.trans (hb49.mono (by omega))).trans (hb9.mono (by omega)), by omega⟩
              case measure => simp [intOf]; omega
            · obtain rfl : f = L.length := by omega
              have HAW := Lib.hid (hA.congr (st' := stR q L (r + 1) 0) (fun j hj => stR_wrap q L r j hj))
              have HMN := Lib.hid (mesX_is hblk HAW.out L.length (Nat.le_refl _))
              have HX := Lib.hid (mes_step HQ.out HF.out r hlz)
              have hr2 : r + 1 ≤ 744 := turns_bd HQ.out HF.out (r + 1) (fun i hi => by
                rcases (show i < r ∨ i = r from by omega) with h | rfl
                · exact HST.out i h
                · exact hlz)
              have HE0 : Hid (outA q L r L.length = outA q L (r + 1) 0) := Lib.hid (by rw [outA_end, outA_zero])
              have HO := Lib.hid hown
              have HK := Lib.hid hblk
              have HBL := Lib.hid hbel
              clear hown hblk hA hbel
              go_wp2
              go_roundw
              case rel => exact ⟨r + 1, cs, hr2, fun i hi => by
                rcases (show i < r ∨ i = r from by omega) with h | rfl
                · exact HST.out i h
                · exact hlz, by rw [← HE0.out]; exact HO.out, HK.out, HAW.out, HBL.out, hzf⟩
              case measure => rw [HMN.out, HM.out, List.take_length]; exact HX.out

set_option maxHeartbeats 800000 in
theorem iTu_any (q : Int) (w : World) (v : Value) (L : List (List Int)) (hv : RdsL w v L) (hcap : CapL w v L) (hL : L.length ≤ 1048576) (hn : ∀ k, (L.getD k []).length ≤ 1048576) :
    Calls Try.prog 8 #[.int .i64 q, v] w (RowPost (turR q L) w) := by
  have H1 : Calls Try.prog 21 #[.int .i64 q, .int .i64 1, .int .i64 30] w fun e w' => e = .returned (.bool (quaB q)) ∧ w = w' := wit_any w q 1 30
  have H2 := iVf_any w v L hv hL hn
  have HQB : quaB q = true → 1 ≤ q ∧ q ≤ 30 := fun h => by simpa [quaB] using h
  have HB1 : Hid (quaB q = false → turR q L = []) := Lib.hid (fun h => turR_bad (by simp [turB, h]))
  have HB2 : Hid (okF L = false → turR q L = []) := Lib.hid (fun h => turR_bad (by simp [turB, h]))
  cases hq : quaB q
  · rw [hq] at H1
    have HR := Lib.hid H1
    have HE := Lib.hid (HB1.out hq)
    obtain ⟨A, c, hvf⟩ := hv.form
    subst hvf
    clear H1 H2 hq hv hcap hn HQB
    go_enter Try.func8, Try.ntmps8
    go_wp2_with (go_at_call 21; refine HR.out.mono ?_; rintro e w' ⟨rfl, rfl⟩)
    go_ret
    exact rowPost_nil HE.out (Below.refl _ _)
  · cases hf : okF L
    · rw [hq] at H1
      have HR := Lib.hid H1
      rw [hf] at H2
      have HF := Lib.hid H2
      have HE := Lib.hid (HB2.out hf)
      obtain ⟨A, c, hvf⟩ := hv.form
      subst hvf
      clear H1 H2 hq hf hv hcap hn HQB
      go_enter Try.func8, Try.ntmps8
      go_wp2_with (first | (go_at_call 21; refine HR.out.mono ?_; rintro e w' ⟨rfl, rfl⟩) | (go_at_call 22; refine HF.out.mono ?_; rintro e w' ⟨rfl, rfl⟩))
      go_ret
      exact rowPost_nil HE.out (Below.refl _ _)
    · exact itu_ok q w v L hv hcap hn (HQB hq) hf
end Go.Proofs.Ytnghpipkdodgiaa
