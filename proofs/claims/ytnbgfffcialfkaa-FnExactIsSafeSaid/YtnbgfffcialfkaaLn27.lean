/-
  The walk of the model's search: the sequential contract. Condition: a plan.
-/
import Derived.Test.YtnbgfffcialfkaaLn26
set_option linter.unusedSimpArgs false
set_option linter.unusedVariables false
namespace Go.Proofs.Ytnbgfffcialfkaa
open Go.RowKit
set_option linter.unusedVariables false

theorem sr_S {w wr W : World} {n a k m : Int} {N : Nat} {f : Nat → Bool} {g c ln i : Nat} {ls : List Lk} {l : Lk} (h : SrW w wr #[.int .i64 n, .int .i64 a, .int .i64 k, .int .i64 m] N f (.slice (some ⟨g, 0, none⟩) ln c) ls) (hl : ls[i]? = some l) (ht : Below wr.heap.size wr W) :
    (fun w' => Below wr.heap.size wr w' ∧ w'.cell? ⟨w.heap.size, 0, none⟩ = some (.int .i64 n) ∧ w'.cell? ⟨w.heap.size, 1, none⟩ = some (.int .i64 a) ∧ w'.cell? ⟨w.heap.size, 2, none⟩ = some (.int .i64 k) ∧ w'.cell? ⟨w.heap.size, 3, none⟩ = some (.int .i64 m) ∧ w'.cell? ⟨g, i * 6, none⟩ = some (.int .i64 l.kn) ∧ w'.cell? ⟨g, i * 6 + 1, none⟩ = some (.int .i64 l.s) ∧ w'.cell? ⟨g, i * 6 + 2, none⟩ = some (.int .i64 l.d) ∧ w'.cell? ⟨g, i * 6 + 3, none⟩ = some (.int .i64 l.h) ∧ w'.cell? ⟨g, i * 6 + 4, none⟩ = some (.int .i64 l.da) ∧ w'.cell? ⟨g, i * 6 + 5, none⟩ = some (.int .i64 l.wo)) W := by
  have h' := h.more ht
  have c := h'.cells hl
  have p := h'.p.c4
  exact ⟨ht, p.1, p.2.1, p.2.2.1, p.2.2.2, c 0 (by omega), c 1 (by omega), c 2 (by omega), c 3 (by omega), c 4 (by omega), c 5 (by omega)⟩

/-- What the model's search answers. -/
def ReaP (B : Bool) (L : Nat) (w : World) (e : Ending) (w' : World) : Prop := ∃ (g ln c : Nat), e = .returned (.tuple #[.slice (some ⟨g, 0, none⟩) ln c, .bool B]) ∧ (B = true → ln = L) ∧ Below w.heap.size w w'
set_option maxRecDepth 100000 in
set_option maxHeartbeats 12800000 in
theorem sre_any (n a k m : Int) (hp : vpB ⟨n, a, k, m⟩ = true) (l0 : List Lk) (hg0 : GoodL (Inv ⟨n, a, k, m⟩) l0) (h0 : ∀ l, l ∈ l0 ↔ Reach ⟨n, a, k, m⟩ l) (w : World) :
    Calls Try.prog 26 #[.agg #[.int .i64 n, .int .i64 a, .int .i64 k, .int .i64 m]] w
      fun e w' => ReaP (l0.all (takR ⟨n, a, k, m⟩)) l0.length w e w' := by
  obtain ⟨B, hB⟩ : ∃ B, l0.all (takR ⟨n, a, k, m⟩) = B := ⟨_, rfl⟩
  rw [hB]
  generalize hL0 : l0.length = L0
  obtain ⟨i0, hi, hz0, hz1, hz2⟩ := info_partsK infoBk
  obtain ⟨j0, hj, hy0, hy1, hy2⟩ := info_partsK infoLk
  have HI := Lib.hid hi
  have HZ0 := Lib.hid hz0
  have HZ1 := Lib.hid hz1
  have HZ2 := Lib.hid hz2
  have HJ := Lib.hid hj
  have HY0 := Lib.hid hy0
  have HY1 := Lib.hid hy1
  have HY2 := Lib.hid hy2
  have HP := Lib.hid hp
  have HG0 := Lib.hid hg0
  have H0 := Lib.hid h0
  have HPW := Lib.hid (fun K hK W => spow_at K (2 ^ K) hK rfl W)
  have HC := Lib.hid (fun l hi W => sco_any hp (l := l) hi W)
  have HSP := Lib.hid (fun (l : Lk) (hi : Inv ⟨n, a, k, m⟩ l) W act hact => sSP_any (n := n) (a := a) (k := k) (m := m) (kn := l.kn) (s := l.s) (d := l.d) (h := l.h) (da := l.da) (wo := l.wo) hp hi W act hact)
  have HLT := Lib.hid (fun (l : Lk) (hi : Inv ⟨n, a, k, m⟩ l) => codeK_lt (inv_smallK hp hi))
  have HNI := Lib.hid (newL_inv ⟨n, a, k, m⟩ hp)
  have hb := plan_bd hp
  have hN := sizeK_eq hp
  obtain ⟨N, hNs, hN3, hNe⟩ := hN
  have HBB := Lib.hid hB
  have HL0 := Lib.hid hL0
  clear hB hL0
  obtain ⟨K, rfl⟩ : ∃ K : Nat, k = (K : Int) := ⟨k.toNat, by omega⟩
  have HNS := Lib.hid hNs
  have HK : Hid (K ≤ 4) := Lib.hid (by omega)
  have hB2 : m + 2 ≤ 7 ∧ 3 ≤ m + 2 := by omega
  obtain ⟨P, hP⟩ : ∃ P : Int, (2 : Int) ^ K = P := ⟨_, rfl⟩
  have hPb : 0 ≤ P ∧ P ≤ 16 := by
    rw [← hP]
    rcases (show K = 1 ∨ K = 2 ∨ K = 3 ∨ K = 4 from by omega) with e | e | e | e <;> rw [e] <;> decide
  rw [show ((K : Int)).toNat = K from by omega, hP] at hNe
  have HPW2 : Hid (∀ W, Calls Try.prog 40 #[.int .i64 (K : Int)] W fun e w' => e = .returned (.int .i64 P) ∧ W = w') := Lib.hid (by rw [← hP]; exact fun W => HPW.out K HK.out W)
  clear hP HPW
  obtain ⟨q, hq⟩ : ∃ q : Int, m + 2 = q := ⟨_, rfl⟩
  rw [hq] at hNe hB2
  have B1 := mulK (x := q) (q := q) (X := 7) (Q := 7) (by omega) (by omega)
  have B2 := mulK (x := q * q) (q := q) (X := 49) (Q := 7) (by omega) (by omega)
  have B3 := mulK (x := q * q * q) (q := P) (X := 343) (Q := 16) (by omega) (by omega)
  have B4 := mulK (x := q * q * q * P) (q := q) (X := 5488) (Q := 7) (by omega) (by omega)
  have B5 := mulK (x := q * q * q * P * q) (q := q) (X := 38416) (Q := 7) (by omega) (by omega)
  have e0 : IntKind.i64.wrap (m + 2) = q := by rw [hq]; exact IntWalk.i64_in _ (by omega)
  obtain ⟨v1, e1⟩ : ∃ v, IntKind.i64.wrap (q * q) = v := ⟨_, rfl⟩
  obtain ⟨v2, e2⟩ : ∃ v, IntKind.i64.wrap (v1 * q) = v := ⟨_, rfl⟩
  obtain ⟨v3, e3⟩ : ∃ v, IntKind.i64.wrap (v2 * P) = v := ⟨_, rfl⟩
  obtain ⟨v4, e4⟩ : ∃ v, IntKind.i64.wrap (v3 * q) = v := ⟨_, rfl⟩
  have e5 : IntKind.i64.wrap (v4 * q) = (N : Int) := by
    rw [← e4, ← e3, ← e2, ← e1, IntWalk.i64_in (q * q) (by omega), IntWalk.i64_in (q * q * q) (by omega), IntWalk.i64_in (q * q * q * P) (by omega), IntWalk.i64_in (q * q * q * P * q) (by omega), hNe]
    exact IntWalk.i64_in _ (by omega)
  clear hi hz0 hz1 hz2 hj hy0 hy1 hy2 hp hg0 h0 hb B1 B2 B3 B4 B5 hPb hB2 hq hNe hNs
  have hp2 : (w.alloc (.cells #[.int .i64 n, .int .i64 a, .int .i64 (K : Int), .int .i64 m] 25)).heap.size = w.heap.size + 1 := by simp
  go_enter Try.func26, Try.ntmps26
  go_wp2_with fail
  refine (HPW2.out _).mono ?_
  rintro e w1 ⟨rfl, rfl⟩
  go_wp2_with (at_make; refine wpList_make_full _ rfl _ _ 59 rfl (w.heap.size + 1) 4 i0 (.bool false) 1 Try.underlying59 HI.out HZ0.out HZ1.out _ _ _ _ N rfl rfl rfl rfl (by rw [HZ2.out]; omega) (by unfold maxLen; omega) (by simp) ?_; intro w1 hown1 hg1; have HG1 := Lib.hid hg1; have HO1 := Lib.hid hown1; clear hown1 hg1)
  refine (sst_any _).mono ?_
  rintro e w2 ⟨rfl, hb2⟩
  have HS0 := Lib.hid (SrW.start HG1.out (by have := HO1.out; simpa only [hp2] using this) (blsN_none N _ fun _ => rfl) hb2)
  clear hb2 HG1 HO1
  unfold lv
  go_upto_region 4 with fail
  have HC0 := Lib.hid (HC.out newL HNI.out)
  have hlt0 := HLT.out newL HNI.out
  rw [← HNS.out] at hlt0
  have HSE := Lib.hid (fun j => seenK_snoc ⟨n, a, K, m⟩ [] newL j)
  generalize codeK ⟨n, a, K, m⟩ newL = c0 at HC0 hlt0 HSE
  have hc1 : (0 : Int) ≤ (c0 : Int) := by omega
  have hc2 : (c0 : Int) < (N : Int) := by omega
  have hT' := HS0.out
  clear HS0
  generalize hw3 : w2.alloc (.cells #[.int .i64 newL.kn, .int .i64 newL.s, .int .i64 newL.d, .int .i64 newL.h, .int .i64 newL.da, .int .i64 newL.wo] 35) = w3 at hT' ⊢
  clear hw3
  generalize w2.heap.size = g2 at hT' ⊢
  go_region_held3 (fun w' => w'.cell? ⟨w.heap.size, 0, none⟩ = some (.int .i64 n) ∧ w'.cell? ⟨w.heap.size, 1, none⟩ = some (.int .i64 a) ∧ w'.cell? ⟨w.heap.size, 2, none⟩ = some (.int .i64 (K : Int)) ∧ w'.cell? ⟨w.heap.size, 3, none⟩ = some (.int .i64 m) ∧ w'.cell? ⟨g2, 0, none⟩ = some (.int .i64 newL.kn) ∧ w'.cell? ⟨g2, 1, none⟩ = some (.int .i64 newL.s) ∧ w'.cell? ⟨g2, 2, none⟩ = some (.int .i64 newL.d) ∧ w'.cell? ⟨g2, 3, none⟩ = some (.int .i64 newL.h) ∧ w'.cell? ⟨g2, 4, none⟩ = some (.int .i64 newL.da) ∧ w'.cell? ⟨g2, 5, none⟩ = some (.int .i64 newL.wo) ∧ w'.frozen? ⟨w.heap.size + 1, c0, none⟩ = false ∧ w'.cell? ⟨w.heap.size + 1, c0, none⟩ = some (cellK (w.heap.size + 1) c0 w'))
    (first
      | (with_reducible exact sr_S0 hT' hlt0)
      | (with_reducible exact sr_S0 (SrW.drew hT') hlt0)
      | (with_reducible exact sr_S0 (SrW.mark hT' hlt0) hlt0)
      | fail)
    (first
      | (go_at_call 41; ((with_reducible refine (HC0.out _).mono ?_); rintro e w' ⟨rfl, hbb⟩); (first | (with_reducible have hT' := SrW.more hT' hbb) | (with_reducible have hT' := SrW.moreD hT' hbb))))
  have HS1 := Lib.hid ((SrW.mark hT' hlt0).ext (f' := seenK ⟨n, a, K, m⟩ [newL]) (fun j => by have := HSE.out j; simpa [seenK] using this))
  generalize hw4 : w'.setCell ⟨w.heap.size + 1, c0, none⟩ (.bool true) = w4 at HS1 ⊢
  clear hw4 hT' HC0 hlt0 HSE hc1 hc2
  clear hbb
  obtain ⟨hsz, acts⟩ : (ByteArray.mk #[115, 48, 49, 50, 51, 100, 120, 97, 121]).size = 9 ∧ ∀ k : Nat, k < 9 → ∃ h : k < (ByteArray.mk #[115, 48, 49, 50, 51, 100, 120, 97, 121]).size, actsM[k]? = some (((ByteArray.mk #[115, 48, 49, 50, 51, 100, 120, 97, 121])[k].toNat : Nat) : Int) := ⟨rfl, fun k hk => actsS ⟨k, hk⟩⟩
  have HAC := Lib.hid acts
  clear acts
  go_wp2
  generalize hS : (ByteArray.mk #[115, 48, 49, 50, 51, 100, 120, 97, 121]) = S at hsz HAC ⊢
  clear hS
  go_loopg [6, 8] 900001 (fun g sv si wr => ∃ (i : Nat) (ls : List Lk), i ≤ ls.length ∧ g = 900001 - i ∧ si = .int .i64 i ∧ SrM ⟨n, a, K, m⟩ ls i 0 ∧ SrW w wr #[.int .i64 n, .int .i64 a, .int .i64 (K : Int), .int .i64 m] N (seenK ⟨n, a, K, m⟩ ls) sv ls)
  case atStart => exact ⟨0, [newL], by simp, rfl, rfl, SrM.start HP.out, HS1.out⟩
  case round =>
    obtain ⟨i, ls, hi, hg, rfl, hM, hW⟩ := hrel
    have HM := Lib.hid hM
    have HWW := Lib.hid hW
    have hlen := hM.len HP.out
    have hne : 0 < ls.length := List.length_pos_of_mem hM.new
    obtain ⟨gl, cl, rfl, hcl⟩ := own_someK hW.o hne
    have HGo := Lib.hid hg
    clear hM hW hg
    by_cases hlt : i < ls.length
    · have hlt' : (i : Int) < (ls.length : Int) := by omega
      have hi0 : (0 : Int) ≤ (i : Int) := by omega
      go_wp2
      go_loopg [6, 9] 9 (fun g sv sk wr => ∃ (k : Nat) (ls : List Lk), k ≤ 9 ∧ g = 9 - k ∧ sk = .int .i64 k ∧ i < ls.length ∧ SrM ⟨n, a, K, m⟩ ls i k ∧ SrW w wr #[.int .i64 n, .int .i64 a, .int .i64 (K : Int), .int .i64 m] N (seenK ⟨n, a, K, m⟩ ls) sv ls)
      case atStart => exact ⟨0, ls, by omega, rfl, rfl, hlt, HM.out, HWW.out⟩
      case round =>
        clear HM HWW hlen hne hlt hlt' hcl hi hi0
        obtain ⟨k, ls, hk9, hg, rfl, hil, hM, hW⟩ := hrel
        have HM := Lib.hid hM
        have HWW := Lib.hid hW
        have hlen := hM.len HP.out
        obtain ⟨gl, cl, rfl, hcl⟩ := own_someK hW.o (by omega)
        have HG := Lib.hid hg
        clear hM hW hg
        by_cases hlt : k < 9
        · obtain ⟨hks, hact⟩ := HAC.out k hlt
          obtain ⟨l, hl⟩ : ∃ l, ls[i]? = some l := ⟨_, List.getElem?_eq_getElem hil⟩
          have hinv := HM.out.good.all l (List.mem_of_getElem? hl)
          have hcn : S[k].toNat ≤ 255 := by have := S[k].toNat_lt; omega
          have hmem := actsM_mem.1 (List.mem_of_getElem? hact)
          have hbs := behF_step ⟨n, a, K, m⟩ l S[k].toNat hinv hmem
          have HST := Lib.hid (fun W => HSP.out l hinv W S[k].toNat hcn)
          unfold actV lv at HST
          have HIR := beh_inv ⟨n, a, K, m⟩ l _ HP.out hinv hmem
          have HX := fun (hr : (behF ⟨n, a, K, m⟩ l (S[k].toNat : Int)).2 = false) => HM.out.wrong hl (a := (S[k].toNat : Int)) hr H0.out
          have HN1 := fun (hn : (behF ⟨n, a, K, m⟩ l (S[k].toNat : Int)).1 ∈ ls) (hr : (behF ⟨n, a, K, m⟩ l (S[k].toNat : Int)).2 = true) => HM.out.skip hl hact hn hr
          have HN2 := fun (hn : (behF ⟨n, a, K, m⟩ l (S[k].toNat : Int)).1 ∉ ls) (hr : (behF ⟨n, a, K, m⟩ l (S[k].toNat : Int)).2 = true) => HM.out.push HP.out hl hact hn hr
          have HST3 : mayF ⟨n, a, K, m⟩ l S[k].toNat = false → stepL ⟨n, a, K, m⟩ l S[k].toNat = l := fun h => by unfold stepL; rw [h]; rfl
          rw [hbs] at HIR HX HN1 HN2
          dsimp only at HIR HX HN1 HN2
          generalize hst : stepL ⟨n, a, K, m⟩ l S[k].toNat = r at HST HIR HX HN1 HN2 HST3
          generalize hmt : mayF ⟨n, a, K, m⟩ l S[k].toNat = b1 at HST HIR HX HN1 HN2 HST3
          generalize hrt : stepR ⟨n, a, K, m⟩ l S[k].toNat = b2 at HST HIR HX HN1 HN2 HST3
          have HIR := Lib.hid HIR
          have HX := Lib.hid HX
          have HN1 := Lib.hid HN1
          have HN2 := Lib.hid HN2
          have HST3 := Lib.hid HST3
          have HL := Lib.hid hl
          have HLM := Lib.hid (List.mem_of_getElem? hl)
          clear hst hmt hrt hbs hmem hinv hact hl hcn
          have hi0 : (0 : Int) ≤ (i : Int) := by omega
          have hi1 : (i : Int) < (ls.length : Int) := by omega
          have hk0 : (0 : Int) ≤ (k : Int) := by omega
          have hk1 : (k : Int) < 9 := by omega
          have hks' : (k : Int) < (S.size : Int) := by omega
          go_upto_region 12 with fail
          go_cut [10, 11, 12] (fun s10 s11 s12 wx => ∃ g : Nat, s10 = .pointer (some ⟨g, 0, none⟩) ∧ s11 = .bool b1 ∧ s12 = .bool b2 ∧ Blk wx g 35 #[.int .i64 r.kn, .int .i64 r.s, .int .i64 r.d, .int .i64 r.h, .int .i64 r.da, .int .i64 r.wo] ∧ wr.heap.size ≤ g ∧ Below wr.heap.size wr wx)
          case first =>
            have hT' := Below.refl wr.heap.size wr
            go_region_held3 (fun w' => Below wr.heap.size wr w' ∧ w'.cell? ⟨w.heap.size, 0, none⟩ = some (.int .i64 n) ∧ w'.cell? ⟨w.heap.size, 1, none⟩ = some (.int .i64 a) ∧ w'.cell? ⟨w.heap.size, 2, none⟩ = some (.int .i64 (K : Int)) ∧ w'.cell? ⟨w.heap.size, 3, none⟩ = some (.int .i64 m) ∧ w'.cell? ⟨gl, i * 6, none⟩ = some (.int .i64 l.kn) ∧ w'.cell? ⟨gl, i * 6 + 1, none⟩ = some (.int .i64 l.s) ∧ w'.cell? ⟨gl, i * 6 + 2, none⟩ = some (.int .i64 l.d) ∧ w'.cell? ⟨gl, i * 6 + 3, none⟩ = some (.int .i64 l.h) ∧ w'.cell? ⟨gl, i * 6 + 4, none⟩ = some (.int .i64 l.da) ∧ w'.cell? ⟨gl, i * 6 + 5, none⟩ = some (.int .i64 l.wo))
              (first
                | (with_reducible exact sr_S HWW.out HL.out hT')
                | (with_reducible exact sr_S HWW.out HL.out (nb_drew hT'))
                | (with_reducible exact sr_S HWW.out HL.out (nb_drew (nb_alloc hT' _)))
                | (with_reducible exact sr_S HWW.out HL.out (nb_alloc hT' _))
                | (with_reducible exact sr_S HWW.out HL.out (nb_set6 hT' hO _ _ _ _ _ _))
                | fail)
              (first
                | (go_at_call 30; ((with_reducible refine (HST.out _).mono ?_); rintro e w' ⟨rfl, hbb⟩); (first | (with_reducible have hO := OwnN.keepNew hT' hbb) | (with_reducible have hO := OwnN.keepNewD hT' hbb) | (with_reducible have hO := OwnN.keep hO hbb) | skip); (first | (with_reducible have hT' := nb_more hT' hbb) | (with_reducible have hT' := nb_moreA hT' hbb) | (with_reducible have hT' := nb_moreD hT' hbb) | (with_reducible have hT' := nb_moreAD hT' hbb)); try (obtain ⟨o0, o1, o2, o3, o4, o5⟩ := hO.k.c6; obtain ⟨z0, z1, z2, z3, z4, z5⟩ := hO.k.f6)))
            all_goals
              go_wp2_with fail
              go_meet
              refine ⟨_, rfl, rfl, rfl, ?_, ?_, ?_⟩
              · first | (with_reducible exact Blk.set6 hO.k _ _ _ _ _ _) | (with_reducible exact Blk.drew (Blk.set6 hO.k _ _ _ _ _ _)) | (with_reducible exact Blk.new _ _ _) | (with_reducible exact Blk.drew (Blk.new _ _ _)) | fail
              · first | (with_reducible exact hO.z) | (with_reducible exact hT'.size) | fail
              · first | (with_reducible exact nb_set6 hT' hO _ _ _ _ _ _) | (with_reducible exact nb_drew (nb_set6 hT' hO _ _ _ _ _ _)) | (with_reducible exact nb_alloc hT' _) | (with_reducible exact nb_drew (nb_alloc hT' _)) | fail
          case rest =>
            obtain ⟨g, rfl, rfl, rfl, hBk, hgz, hT⟩ := hcut
            have HW1 := Lib.hid (HWW.out.more hT)
            have HBk := Lib.hid hBk
            clear hBk hT
            have HB := Lib.hid HW1.out.b
            cases b2
            · have hB : B = false := by rw [← HBB.out]; exact HX.out rfl
              have hBh := Lib.hid hB
              clear hB
              go_wp2
              exact bodyPost_ret (v := .tuple #[.slice (some ⟨gl, 0, none⟩) ls.length cl, .bool false]) (by simp [results, Try.results26, go_sem]) rfl (show ReaP _ _ _ _ _ from ⟨gl, ls.length, cl, by rw [hBh.out], (fun h => by rw [hBh.out] at h; exact absurd h (by decide)), HB.out⟩)
            · cases b1
              · have HM2 := Lib.hid (HN1.out (HST3.out (by first | rfl | trivial) ▸ HLM.out) (by first | rfl | trivial))
                go_wp2
                go_roundg (9 - (k + 1))
                case measure => have := HG.out; omega
                case rel => exact ⟨k + 1, ls, by omega, rfl, by go_num, hil, HM2.out, HW1.out⟩
              · have HCr := Lib.hid (HC.out r HIR.out)
                have hlr := HLT.out r HIR.out
                rw [← HNS.out] at hlr
                have HSA := seenK_at HP.out HM.out.good.all HIR.out
                have HSN := Lib.hid (fun j => seenK_snoc ⟨n, a, K, m⟩ ls r j)
                generalize codeK ⟨n, a, K, m⟩ r = cr at HCr hlr HSA HSN
                have HSA := Lib.hid HSA
                have hr0 : (0 : Int) ≤ (cr : Int) := by omega
                have hr1 : (cr : Int) < (N : Int) := by omega
                obtain ⟨p0, p1, p2, p3⟩ := HW1.out.p.c4
                obtain ⟨x0, x1, x2, x3, x4, x5⟩ := HBk.out.c6
                go_wp2_with fail
                refine (HCr.out _).mono ?_
                rintro e w5 ⟨rfl, hb5⟩
                have HW5 := Lib.hid (HW1.out.more hb5)
                have HBk5 := Lib.hid (HBk.out.below hb5 HBk.out.lt)
                have hcell := HW5.out.cellS hlr
                rw [HSA.out] at hcell
                clear p0 p1 p2 p3 x0 x1 x2 x3 x4 x5 hb5
                by_cases hmem : r ∈ ls
                · rw [decide_eq_true hmem] at hcell
                  have HM2 := Lib.hid (HN1.out hmem (by first | rfl | trivial))
                  clear hmem
                  go_wp2
                  go_roundg (9 - (k + 1))
                  case measure => have := HG.out; omega
                  case rel => exact ⟨k + 1, ls, by omega, rfl, by go_num, hil, HM2.out, HW5.out⟩
                · rw [decide_eq_false hmem] at hcell
                  have HM2 := Lib.hid (HN2.out hmem (by first | rfl | trivial))
                  clear hmem
                  obtain ⟨p0, p1, p2, p3⟩ := HW5.out.p.c4
                  obtain ⟨x0, x1, x2, x3, x4, x5⟩ := HBk5.out.c6
                  go_wp2_with fail
                  refine (HCr.out _).mono ?_
                  rintro e w6 ⟨rfl, hb6⟩
                  have HW6 := Lib.hid (HW5.out.more hb6)
                  have HBk6 := Lib.hid (HBk5.out.below hb6 HBk5.out.lt)
                  clear p0 p1 p2 p3 x0 x1 x2 x3 x4 x5 hb6 hcell
                  have hcell := HW6.out.cellS hlr
                  have hfz := World.ownsRow.frozenAt HW6.out.s cr
                  have hgne : w.heap.size + 1 < g := by have := HWW.out.z; omega
                  have HBk7 := Lib.hid (HBk6.out.far (p := ⟨w.heap.size + 1, cr, none⟩) (by simp; omega) (.bool true))
                  have HW7 := Lib.hid ((HW6.out.mark hlr).ext (fun j => HSN.out j))
                  go_upto_region 17 with fail
                  generalize w6.setCell ⟨w.heap.size + 1, cr, none⟩ (.bool true) = w7 at HBk7 HW7 ⊢
                  clear hcell hfz
                  obtain ⟨x0, x1, x2, x3, x4, x5⟩ := HBk7.out.c6
                  have hz7 := HW7.out.z
                  go_wp2_with (at_builtin; refine wpList_append_own _ rfl (.tmp 82) (.tmp 84) 44 rfl (w.heap.size + 2) 35 j0 (.agg #[.int .i64 0, .int .i64 0, .int .i64 0, .int .i64 0, .int .i64 0, .int .i64 0]) 6 48 Try.underlying44 HJ.out HY0.out HY1.out HY2.out rfl (by decide) _ _ _ rfl (own_belowK HW7.out.o ((Below.refl _ _).alloc (Nat.le_refl _) _) (Nat.le_refl _)) ⟨w7.heap.size, 0, none⟩ 1 1 (lv r).cells.toList rfl rfl (new6K _ r _) (one6K r) (by unfold maxLen; omega) (by omega) (by simp; omega) ?_; intro v9 w9 hown9 hg9 hnil; clear hnil; have HW9 := Lib.hid (HW7.out.push hown9 hg9); obtain ⟨A9, c9, rfl⟩ := own_formK hown9; clear hown9 hg9)
                  go_roundg (9 - (k + 1))
                  case measure => have := HG.out; omega
                  case rel => exact ⟨k + 1, ls ++ [r], by omega, rfl, by go_num, by simp; omega, HM2.out, by simpa using HW9.out⟩
        · obtain rfl : k = 9 := by omega
          have hlt' : ¬ ((9 : Nat) : Int) < 9 := by omega
          go_wp2
          go_roundg (900001 - (i + 1))
          case measure => have := HGo.out; omega
          case rel => exact ⟨i + 1, ls, by omega, rfl, by go_num, HM.out.turn, HWW.out⟩
    · have HE := Lib.hid (HM.out.end_ (by omega) HG0.out H0.out)
      have hlt' : ¬ (i : Int) < (ls.length : Int) := by omega
      have HB := Lib.hid HWW.out.b
      go_wp2
      exact bodyPost_ret (v := .tuple #[.slice (some ⟨gl, 0, none⟩) ls.length cl, .bool true]) (by simp [results, Try.results26, go_sem]) rfl (show ReaP _ _ _ _ _ from ⟨gl, ls.length, cl, by rw [← HBB.out, HE.out.1], fun _ => by rw [HE.out.2]; exact HL0.out, HB.out⟩)
end Go.Proofs.Ytnbgfffcialfkaa
