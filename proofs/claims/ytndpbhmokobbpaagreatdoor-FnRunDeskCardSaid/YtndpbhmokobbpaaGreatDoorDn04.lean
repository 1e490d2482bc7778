/-
  Plain facts on the desk's answers: they hold no newline, and what is written is written line by line. No condition.
  The walk of the law FnRunDesk: it returns true at every row of letters. Condition: what the desk wants of the library's variables.
-/
import Derived.Test.YtndpbhmokobbpaaGreatDoorDn03
namespace Go.Proofs.YtndpbhmokobbpaaGreatDoor
open Go.RowKit
set_option linter.unusedVariables false

/-- A text with no newline in it. -/
def nn (l : List UInt8) : Prop := ∀ c ∈ l, c ≠ 10
theorem nn_bits {l : List UInt8} (h : l.all isBit = true) : nn l := fun c hc => by
  rcases isBit_cases (List.all_eq_true.1 h c hc) with rfl | rfl <;> decide
theorem nn_app {a b : List UInt8} (ha : nn a) (hb : nn b) : nn (a ++ b) := fun c hc => by
  rcases List.mem_append.1 hc with h | h
  · exact ha c h
  · exact hb c h
theorem nn_dd (n : Nat) : nn (Lib.decDigits n) := fun c hc => by
  have := dd_digits n c hc
  rintro rfl
  have h : (10 : UInt8).toNat = 10 := rfl
  omega
theorem nn_ltx : ∀ l : List Int, nn (ltx l)
  | [] => fun c hc => by simp [ltx] at hc
  | [x] => nn_dd _
  | x :: y :: l => by
    show nn (Lib.decDigits x.toNat ++ 44 :: ltx (y :: l))
    refine nn_app (nn_dd _) (fun c hc => ?_)
    rcases List.mem_cons.1 hc with rfl | h
    · decide
    · exact nn_ltx (y :: l) c h
theorem nn_mb (l : List UInt8) : nn (mbR l).1.data.toList := by
  unfold mbR
  split
  · rename_i h
    have hall : l.length ≤ 40 ∧ l.all isBit = true := by simpa [bitsB] using h.1
    have hb : ∀ j, j < 7 → l.getD j 0 = 48 ∨ l.getD j 0 = 49 := fun j hj => by
      rw [List.getD_eq_getElem?_getD, List.getElem?_eq_getElem (by omega : j < l.length)]
      exact isBit_cases (List.all_eq_true.1 hall.2 _ (List.getElem_mem _))
    unfold mendR
    split
    · rename_i p _
      have h4 := four_bits (y := fun j => l.getD j 0) p hb
      show nn (four (tp (fun j => l.getD j 0) p))
      intro c hc
      obtain ⟨k, hk, rfl⟩ := List.getElem_of_mem hc
      have hk4 : k < 4 := hk
      have := h4 k hk4
      rw [List.getD_eq_getElem?_getD, List.getElem?_eq_getElem hk] at this
      simp only [Option.getD_some] at this
      rcases this with e | e <;> rw [e] <;> decide
    · intro c hc; cases hc
  · intro c hc; cases hc
theorem nn_seal (p s : List UInt8) : nn (sealR p s) := by
  unfold sealR
  split
  · rename_i h
    obtain ⟨Q, rfl, hQ1, hQ8, _⟩ := polyB_of h.1
    have hb : (s ++ List.replicate ((txt (true :: Q)).length - 1) 48).length ≤ 40 ∧ (s ++ List.replicate ((txt (true :: Q)).length - 1) 48).all isBit = true := by
      have := h.2
      unfold bitsB at this
      rw [Bool.and_eq_true, decide_eq_true_eq] at this
      exact this
    obtain ⟨S, hS⟩ := txt_of hb.2
    have hsl := congrArg List.length hS
    rw [txt_len, List.length_append, List.length_replicate, txt_len, List.length_cons] at hsl
    have hs : s.all isBit = true := by
      have := hb.2
      rw [List.all_append, Bool.and_eq_true] at this
      exact this.1
    refine nn_app (nn_bits hs) ?_
    rw [hS, remU_txt Q S hQ1 (by omega)]
    exact nn_bits (txt_bits _)
  · intro c hc; cases hc
theorem nn_mk {l : List UInt8} (h : nn l) : nn (mkT l).data.toList := by rw [mkT_list]; exact h
theorem nn_wrong : nn tWrong.data.toList := by unfold tWrong; rw [mkT_list]; intro c hc; simp at hc; rcases hc with rfl | rfl | rfl | rfl | rfl <;> decide
theorem nn_what : nn tWhat.data.toList := by unfold tWhat; rw [mkT_list]; intro c hc; simp at hc; rcases hc with rfl | rfl | rfl | rfl <;> decide
theorem nn_yes : nn tYes.data.toList := by unfold tYes; rw [mkT_list]; intro c hc; simp at hc; rcases hc with rfl | rfl | rfl <;> decide
theorem nn_no : nn tNo.data.toList := by unfold tNo; rw [mkT_list]; intro c hc; simp at hc; rcases hc with rfl | rfl <;> decide
theorem nn_ansT (wd tx : ByteArray) : nn (ansT wd tx).data.toList := by
  unfold ansT
  split
  · split
    · rename_i h
      have hall : tx.data.toList.length ≤ 40 ∧ tx.data.toList.all isBit = true := by simpa [bitsB] using h
      exact nn_mk (nn_bits (stf_bits _ hall.2))
    · exact nn_wrong
  · split
    · split
      · exact nn_mb _
      · exact nn_wrong
    · split
      · split
        · exact nn_mk (nn_ltx _)
        · exact nn_wrong
      · split
        · split
          · exact nn_mk (nn_ltx _)
          · exact nn_wrong
        · exact nn_what
theorem nn_ansB (wd p s : ByteArray) : nn (ansB wd p s).data.toList := by
  unfold ansB
  split
  · split
    · exact nn_mk (nn_seal _ _)
    · exact nn_wrong
  · split
    · split
      · split
        · exact nn_yes
        · exact nn_no
      · exact nn_wrong
    · exact nn_what
theorem nn_ans (s : ByteArray) : nn (ans s).data.toList := by
  unfold ans
  match ptT 32 s with
  | [] => exact nn_what
  | [a] => exact nn_what
  | [a, b] => exact nn_ansT a b
  | [a, b, c] => exact nn_ansB a b c
  | a :: b :: c :: d :: t => exact nn_what
/-- How many newlines there are. -/
def nlc : List UInt8 → Nat
  | [] => 0
  | c :: l => (if c = 10 then 1 else 0) + nlc l
theorem nlc_app : ∀ a b : List UInt8, nlc (a ++ b) = nlc a + nlc b
  | [], b => by simp [nlc]
  | c :: a, b => by rw [List.cons_append, nlc, nlc, nlc_app a b]; omega
theorem nlc_nn : ∀ {l : List UInt8}, nn l → nlc l = 0
  | [], _ => rfl
  | c :: l, h => by
    rw [nlc, if_neg (h c List.mem_cons_self), nlc_nn (fun x hx => h x (List.mem_cons_of_mem _ hx))]
theorem nlc_le : ∀ l : List UInt8, nlc l ≤ l.length
  | [] => Nat.le_refl _
  | c :: l => by
    have := nlc_le l
    rw [nlc, List.length_cons]
    split <;> omega
theorem nlc_step (l : List UInt8) (k : Nat) (h : k < l.length) : nlc (l.take (k + 1)) = nlc (l.take k) + if l[k] = 10 then 1 else 0 := by
  rw [List.take_add_one, List.getElem?_eq_getElem h]
  simp only [Option.toList_some]
  rw [nlc_app]
  simp [nlc]
theorem nlc_rdk : ∀ l : List ByteArray, nlc (rdk l) = l.length
  | [] => rfl
  | s :: l => by
    rw [rdk, nlc_app, nlc_nn (nn_ans s), nlc, if_pos rfl, nlc_rdk l, List.length_cons]
    omega
theorem rdk_app2 : ∀ a b : List ByteArray, rdk (a ++ b) = rdk a ++ rdk b
  | [], b => rfl
  | s :: a, b => by rw [List.cons_append, rdk, rdk, rdk_app2 a b]; simp
theorem rdk_take (l : List ByteArray) (n : Nat) : rdk l = rdk (l.take n) ++ rdk (l.drop n) := by
  rw [← rdk_app2, List.take_append_drop]
theorem rdk_ne {l : List ByteArray} (h : 0 < l.length) : ¬ rdk l = [] := by
  match l, h with
  | s :: t, _ => intro e; have := congrArg List.length e; rw [rdk] at this; simp at this
theorem rdR_few {l : List ByteArray} (h : l.length ≤ 5) : rdR l = mkT (rdk l) := by unfold rdR; rw [if_neg (by omega)]
theorem cut_pre (a b : List UInt8) : (mkT (a ++ b)).extract 0 a.length = mkT a := by
  rw [mkT_ext, mkT_list]
  congr 1
  simp
set_option maxHeartbeats 800000 in
theorem nl_any (s : ByteArray) (w : World) (hs : s.size ≤ 1048576) :
    Calls Tryz.prog 11 #[.string s] w fun e w' => e = .returned (.int .i64 (nlc s.data.toList)) ∧ w = w' := by
  have hsl : s.data.toList.length = s.size := Array.length_toList
  go_enter Tryz.func11, Tryz.ntmps11
  go_wp2
  go_loop [3, 4] (fun nv iv => ∃ n k : Nat, nv = .int .i64 n ∧ iv = .int .i64 k ∧ k ≤ s.size ∧ n ≤ k ∧ Hid (n = nlc (s.data.toList.take k))) (fun _ iv => s.size - (intOf iv).toNat)
  case atStart => exact ⟨0, 0, rfl, rfl, Nat.zero_le _, Nat.le_refl _, Lib.hid rfl⟩
  case round =>
    obtain ⟨n, k, rfl, rfl, hk, hnk, HN⟩ := hrel
    by_cases hlt : k < s.size
    · have hst := nlc_step s.data.toList k (by omega)
      have hgi : s.data.toList[k]'(by omega) = s[k] := rfl
      rw [hgi, ← HN.out] at hst
      by_cases hc : s[k] = 10
      · rw [if_pos hc] at hst
        have HST := Lib.hid hst
        have e1 : ((s[k].toNat : Int) == 10) = true := by rw [hc]; rfl
        clear hst hgi hc HN
        go_wp2
        go_round
        case rel => exact ⟨n + 1, k + 1, by go_num, by go_num, by omega, by omega, Lib.hid HST.out.symm⟩
        case measure => simp [intOf]; omega
      · rw [if_neg hc] at hst
        have HST := Lib.hid hst
        have e1 : ((s[k].toNat : Int) == 10) = false := by
          rw [beq_eq_false_iff_ne]
          intro e
          apply hc
          rw [← UInt8.toNat_inj]
          show s[k].toNat = 10
          omega
        clear hst hgi hc HN
        go_wp2
        go_round
        case rel => exact ⟨n, k + 1, rfl, by go_num, by omega, by omega, Lib.hid HST.out.symm⟩
        case measure => simp [intOf]; omega
    · have hke : k = s.size := by omega
      have hN : n = nlc s.data.toList := by have := HN.out; rwa [hke, List.take_of_length_le (by omega)] at this
      have HNN := Lib.hid hN
      clear HN hN
      go_wp2
      go_ret
      exact ⟨by rw [← HNN.out]; rfl, rfl⟩
end Go.Proofs.YtndpbhmokobbpaaGreatDoor

namespace Go.Proofs.YtndpbhmokobbpaaGreatDoor
open Go.RowKit
set_option linter.unusedVariables false

theorem rss_take {w : World} {g d k : Nat} {l : List ByteArray} (h : AtS w g 0 l) (hk : k ≤ l.length) : Rss w (.slice (some ⟨g, 0, none⟩) k d) (l.take k) := by
  have hl : (l.take k).length = k := by rw [List.length_take]; omega
  refine ⟨_, d, by rw [hl], fun _ => ⟨g, 0, rfl, h.1, fun j hj => ?_⟩⟩
  have h2 := h.2 j (by omega)
  rw [h2]
  simp [List.getD_eq_getElem?_getD, show j < k from by omega]
theorem take_size {l : List ByteArray} {k m : Nat} (h : ∀ x ∈ l, x.size ≤ m) : ∀ j, j < (l.take k).length → ((l.take k).getD j ByteArray.empty).size ≤ m := fun j hj => by
  rw [List.getD_eq_getElem?_getD, List.getElem?_eq_getElem hj]
  exact h _ (List.mem_of_mem_take (List.getElem_mem hj))
theorem own_tab {w : World} {B : Nat} {v : Value} {l : List ByteArray} (h : OwnT w B v l) (hn : 0 < l.length) : ∃ g c, v = .slice (some ⟨g, 0, none⟩) l.length c ∧ l.length ≤ c ∧ AtS w g 0 l := by
  rcases h.2 with ⟨hv, h0⟩ | ⟨g, cap, cur, hv, _, _, hnc, _⟩
  · omega
  · subst hv
    exact ⟨g, cap, rfl, hnc, OwnS.at_ h⟩

set_option maxHeartbeats 3200000 in
theorem fnRunDesk_walk (a : Option Addr) (len cap : Nat) (zs : List Int) (w : World) (h : IsRow .u8 w a len cap zs) (hD : Dk w) :
    Calls Tryz.prog 4 #[.slice a len cap] w fun e w' => e = .returned (.bool true) ∧ Below w.heap.size w w' := by
  by_cases hbig : (1048576 : Int) < (len : Int)
  · go_enter Tryz.func4, Tryz.ntmps4
    go_wp2
    go_ret
    exact ⟨rfl, Below.refl _ _⟩
  · have H := Lib.hid (ddk_any w a len cap zs h)
    have HD := Lib.hid hD
    clear h hD
    go_enter Tryz.func4, Tryz.ntmps4
    go_wp2_with fail
    refine H.out.mono ?_
    rintro e w1 ⟨v, l, rfl, ho1, hl5, hxs, hb1⟩
    have HB1 := Lib.hid hb1
    have HX := Lib.hid hxs
    have hr1 := OwnT.rss ho1
    have hg1 := OwnT.rss ho1
    have hli : LiesS w1.heap.size v l := fun _ g hg => (World.ownsRow.lt ho1 g hg).2
    have hsz : ∀ j, j < l.length → (l.getD j ByteArray.empty).size ≤ 1048575 := fun j hj => by
      rw [List.getD_eq_getElem?_getD, List.getElem?_eq_getElem hj]
      exact Nat.le_trans (hxs _ (List.getElem_mem hj)) (by omega)
    have hI := fun W hW (hb : Below w1.heap.size w1 W) => iRD_any W v l (hr1.below hb hli) (hli.mono hb.size) (by omega) hsz hW
    have hS := fun W (hb : Below w1.heap.size w1 W) => sRD_any W v l (hr1.below hb hli) (hli.mono hb.size) (by omega) hsz
    rw [rdR_few hl5] at hI hS
    have HI := Lib.hid hI
    have HS := Lib.hid hS
    have HO := Lib.hid ho1
    obtain ⟨A, c, hvf⟩ := ho1.form
    subst hvf
    clear H hb1 hxs hr1 hg1 hli hsz hI hS ho1
    by_cases hl0 : l.length = 0
    · have hln : l = [] := List.eq_nil_of_length_eq_zero hl0
      have hT : (mkT (rdk l)).toList = [] := by rw [hln, Lib.toList_data, mkT_list]; rfl
      have hTe := empty_yes hT
      generalize mkT (rdk l) = T at *
      clear hln hl0
      go_wp2_with fail
      refine (HI.out _ (HD.out.below HB1.out) (Below.refl _ _)).mono ?_
      rintro e w2 ⟨rfl, hb2⟩
      have HB2 := Lib.hid hb2
      clear hb2
      go_wp2_with fail
      refine (HS.out _ HB2.out).mono ?_
      rintro e w3 ⟨rfl, hb3⟩
      have HB3 := Lib.hid (HB2.out.trans (hb3.mono HB2.out.size))
      clear hb3
      go_wp2_with fail
      refine (HS.out _ HB3.out).mono ?_
      rintro e w4 ⟨rfl, hb4⟩
      have HB4 := Lib.hid (HB3.out.trans (hb4.mono HB3.out.size))
      clear hb4
      go_wp2_with fail
      go_ret
      exact ⟨rfl, HB1.out.trans (HB4.out.mono HB1.out.size)⟩
    · obtain ⟨g, c', e1, hcc, hat⟩ := own_tab HO.out (by omega)
      injection e1 with e2 e3 e4
      subst e2
      subst e4
      have HAT := Lib.hid hat
      have hT : ¬ (mkT (rdk l)).toList = [] := by rw [Lib.toList_data, mkT_list]; exact rdk_ne (by omega)
      have hTe := empty_no hT
      have hTs : (mkT (rdk l)).size ≤ 100005 := by have := rdk_len l; rw [mkT_size]; omega
      have hNL : nlc (mkT (rdk l)).data.toList = l.length := by rw [mkT_list, nlc_rdk]
      have HP := Lib.hid (fun n => show mkT (rdk l) = mkT (rdk (l.take n) ++ rdk (l.drop n)) from by rw [← rdk_take])
      generalize mkT (rdk l) = T at *
      clear hat e3
      go_wp2_with fail
      refine (HI.out _ (HD.out.below HB1.out) (Below.refl _ _)).mono ?_
      rintro e w2 ⟨rfl, hb2⟩
      have HB2 := Lib.hid hb2
      clear hb2
      go_wp2_with fail
      refine (HS.out _ HB2.out).mono ?_
      rintro e w3 ⟨rfl, hb3⟩
      have HB3 := Lib.hid (HB2.out.trans (hb3.mono HB2.out.size))
      clear hb3
      go_wp2_with fail
      go_loopw [5] (fun iv wr => ∃ k : Nat, iv = .int .i64 k ∧ k ≤ l.length + 1 ∧ Hid (Below w1.heap.size w1 wr)) (fun iv _ => l.length + 1 - (intOf iv).toNat)
      case atStart => exact ⟨0, rfl, Nat.zero_le _, Lib.hid HB3.out⟩
      case round =>
        obtain ⟨k, rfl, hk, HB⟩ := hrel
        by_cases hlt : k ≤ l.length
        · have hkl : (l.take k).length = k := by rw [List.length_take]; omega
          have hgw := HAT.out.1
          have hi : ∀ d, Calls Tryz.prog 8 #[.slice (some ⟨g, 0, none⟩) k d] wr fun e w' => e = .returned (.string (mkT (rdk (l.take k)))) ∧ Below wr.heap.size wr w' := fun d => by
            have hli : LiesS wr.heap.size (.slice (some ⟨g, 0, none⟩) k d) (l.take k) := fun _ j hj => by
              have e : g = j := by simpa [Value.ownBlock] using hj
              rw [← e]
              exact Nat.lt_of_lt_of_le HAT.out.1 HB.out.size
            have := iRD_any wr (.slice (some ⟨g, 0, none⟩) k d) (l.take k) (rss_take (HAT.out.below HB.out HAT.out.1) hlt) hli (by omega) (fun j hj => Nat.le_trans (take_size HX.out j hj) (by omega)) (HD.out.below (HB1.out.trans (HB.out.mono HB1.out.size)))
            rwa [rdR_few (by omega)] at this
          have hp := HP.out k
          have hps : (mkT (rdk (l.take k))).size ≤ T.size := by rw [hp, mkT_size, mkT_size, List.length_append]; omega
          have hex : T.extract 0 (mkT (rdk (l.take k))).size = mkT (rdk (l.take k)) := by rw [hp, mkT_size]; exact cut_pre _ _
          have HC := Lib.hid hi
          generalize mkT (rdk (l.take k)) = R at *
          have s1 : ¬ ((T.size : Int) < (R.size : Int)) := by omega
          have s2 : (R.size : Int) ≤ (T.size : Int) := by omega
          have s3 : (k : Int) ≤ (l.length : Int) := by omega
          have s4 : (k : Int) ≤ (c : Int) := by omega
          have s5 : k ≤ c := by omega
          have s6 : (0 : Int) ≤ (k : Int) := by omega
          clear hi hp
          go_wp2_with fail
          refine (HC.out _).mono ?_
          rintro e w4 ⟨rfl, hb4⟩
          have HB4 := Lib.hid (HB.out.trans (hb4.mono HB.out.size))
          clear hb4
          go_wp2_with fail
          go_roundw
          case rel => exact ⟨k + 1, by go_num, by omega, Lib.hid HB4.out⟩
          case measure => simp [intOf]; omega
        · have s3 : ¬ (k : Int) ≤ (l.length : Int) := by omega
          have HN := Lib.hid (nl_any T wr (by omega))
          go_wp2_with fail
          refine HN.out.mono ?_
          rintro e w4 ⟨rfl, rfl⟩
          rw [hNL]
          go_wp2_with fail
          go_ret
          exact ⟨rfl, HB1.out.trans (HB.out.mono HB1.out.size)⟩
end Go.Proofs.YtndpbhmokobbpaaGreatDoor
