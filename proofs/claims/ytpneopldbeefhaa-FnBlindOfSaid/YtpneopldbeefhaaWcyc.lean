/-
  The walks of the functions on cycles of divisors. Conditions: the lengths that are typed.
-/
import Derived.Test.YtpneopldbeefhaaWlv
import Derived.Test.YtpneopldbeefhaaWsp
import Derived.Test.YtpneopldbeefhaaCyc
namespace Go.Proofs.Ytpneopldbeefhaa
open Go.RowKit
set_option linter.unusedVariables false

theorem below_grow9 {B g : Nat} {w w1 w2 : World} (h : Below B w w1) (hg : w1.grownBy w2 (some g)) (hB : B ≤ g) (hB2 : B ≤ w1.heap.size) : Below B w w2 :=
  h.grown hg hB2 (fun k hk => by cases hk; exact hB)

theorem txt_two (a g c : Nat) : txt (two a g c) = List.replicate a 48 ++ (49 :: (List.replicate g 48 ++ (49 :: List.replicate c 48))) := by
  simp only [two, txt_app, txt_zs]
  simp [show txt [true] = [49] from rfl]
theorem set_two (a g c n : Nat) (hn : n = a + g + c + 2) : ((List.replicate n (48 : UInt8)).set a 49).set (a + g + 1) 49 = txt (two a g c) := by
  subst hn
  have e : List.replicate (a + g + c + 2) (48 : UInt8) = List.replicate a 48 ++ (48 :: (List.replicate g 48 ++ (48 :: List.replicate c 48))) := by
    rw [show a + g + c + 2 = a + ((g + (c + 1)) + 1) from by omega, ← List.replicate_append_replicate, List.replicate_succ, ← List.replicate_append_replicate, List.replicate_succ]
  rw [e, txt_two, List.set_append_right a 49 (by simp), List.length_replicate, Nat.sub_self, List.set_cons_zero, List.set_append_right _ _ (by simp; omega), List.length_replicate,
    show a + g + 1 - a = g + 1 from by omega, List.set_cons_succ, List.set_append_right _ _ (by simp), List.length_replicate, Nat.sub_self, List.set_cons_zero]

set_option maxHeartbeats 800000 in
theorem two_any (w : World) (a g c : Nat) (hs : a + g + c + 2 ≤ 1000) (b n : Nat) (hb : b = a + g + 1) (hn : n = a + g + c + 2) :
    Calls Try.prog 25 #[.int .i64 a, .int .i64 b, .int .i64 n] w fun e w' => e = .returned (.slice (some ⟨w.heap.size + 1, 0, none⟩) n n) ∧ OwnB w' (w.heap.size + 1) (txt (two a g c)) ∧ Below w.heap.size w w' := by
  have h1 := nou_any w n (by omega) (by omega)
  have hset := set_two a g c n hn
  rw [← hb] at hset
  have HSET := Lib.hid hset
  have H1 := Lib.hid h1
  have han : a < n := by omega
  have hbn : b < n := by omega
  have hab : a < b := by omega
  have hn2 : n ≤ 1000 := by omega
  clear h1 hset hb hn
  go_enter Try.func25, Try.ntmps25
  go_wp2_with fail
  refine H1.out.mono ?_
  rintro e w1 ⟨rfl, ho, hbel⟩
  have hO := OwnB.of_own (l := List.replicate n 48) (by simp) ho
  have hc1 := hO.cellAt a (by simp; omega)
  have hf1 := hO.frozenAt a (by simp; omega)
  have s1 : OwnB (w1.setCell ⟨w.heap.size + 1, a, none⟩ (.int .u8 49)) (w.heap.size + 1) ((List.replicate n (48 : UInt8)).set a 49) ∧ w1.grownBy (w1.setCell ⟨w.heap.size + 1, a, none⟩ (.int .u8 49)) (some (w.heap.size + 1)) := hO.stored a (by simp; omega) 49
  have hc2 := s1.1.cellAt b (by simp; omega)
  have hf2 := s1.1.frozenAt b (by simp; omega)
  have s2 : OwnB ((w1.setCell ⟨w.heap.size + 1, a, none⟩ (.int .u8 49)).setCell ⟨w.heap.size + 1, b, none⟩ (.int .u8 49)) (w.heap.size + 1) (((List.replicate n (48 : UInt8)).set a 49).set b 49) ∧ (w1.setCell ⟨w.heap.size + 1, a, none⟩ (.int .u8 49)).grownBy ((w1.setCell ⟨w.heap.size + 1, a, none⟩ (.int .u8 49)).setCell ⟨w.heap.size + 1, b, none⟩ (.int .u8 49)) (some (w.heap.size + 1)) := s1.1.stored b (by simp; omega) 49
  have hbb := below_grow9 (below_grow9 hbel s1.2 (by omega) hbel.size) s2.2 (by omega) (by have := hbel.size; have := s1.2.size; omega)
  have S2 := Lib.hid s2.1
  have HBB := Lib.hid hbb
  generalize (List.replicate n (48 : UInt8)).getD a 0 = x at *
  generalize ((List.replicate n (48 : UInt8)).set a 49).getD b 0 = y at *
  clear hO s1 s2 hbel ho hbb
  go_wp2
  go_ret
  exact ⟨rfl, by rw [← HSET.out]; exact S2.out, HBB.out⟩

/-- Whether two ones k apart are not seen. -/
def wcB (Q : List Bool) (k : Nat) : Bool := wholeB (txt (true :: Q)) (txt (two 0 (k - 1) 0))
theorem wcB_no {Q : List Bool} {K k : Nat} (h1 : 1 ≤ Q.length) (hl : Q.getLast? = some true) (h : IsCyc Q K) (hk : 1 ≤ k) (hkK : k < K) : wcB Q k = false := by
  unfold wcB
  have hlen : (two 0 (k - 1) 0).length = k + 1 := by rw [two_len]; omega
  by_cases hq : Q.length ≤ k + 1
  · rw [wholeB_iff Q _ h1 (by omega), decide_eq_false_iff_not, two_iff Q h1 hl]
    intro e
    rw [show k - 1 + 1 = k from by omega] at e
    exact h.2.2 k hk hkK e
  · unfold wholeB
    rw [remU_short _ _ (by rw [txt_len, txt_len, List.length_cons]; omega), any_txt]
    simp [two]
theorem wcB_yes {Q : List Bool} {K : Nat} (h1 : 1 ≤ Q.length) (hl : Q.getLast? = some true) (h : IsCyc Q K) : wcB Q K = true := by
  unfold wcB
  have hge := cyc_ge h1 h
  have hlen : (two 0 (K - 1) 0).length = K + 1 := by have := h.1; rw [two_len]; omega
  rw [wholeB_iff Q _ h1 (by omega), decide_eq_true_iff, two_iff Q h1 hl, show K - 1 + 1 = K from by have := h.1; omega]
  exact h.2.1

/-- What CycleOf gives: -1, or the cycle. -/
def CycR (l : List UInt8) (x : Int) : Prop := (polyB l = false ∧ x = -1) ∨ ∃ (Q : List Bool) (K : Nat), l = txt (true :: Q) ∧ 1 ≤ Q.length ∧ Q.length ≤ 8 ∧ Q.getLast? = some true ∧ IsCyc Q K ∧ K ≤ 256 ∧ x = K
theorem cycR_some (l : List UInt8) : ∃ x, CycR l x := by
  cases h : polyB l
  · exact ⟨-1, .inl ⟨h, rfl⟩⟩
  · obtain ⟨Q, e, h1, h2, h3⟩ := polyB_of h
    obtain ⟨K, hK, hc⟩ := cyc_some Q h1 h2 h3
    exact ⟨K, .inr ⟨Q, K, e, h1, h2, h3, hc, hK, rfl⟩⟩

theorem str_two (k : Nat) (hk : 1 ≤ k) : ({ data := #[49] } : ByteArray) ++ ByteArray.mk (List.replicate (k - 1) (48 : UInt8)).toArray ++ { data := #[49] } = ByteArray.mk (txt (two 0 (k - 1) 0)).toArray := by
  rw [show (#[49] : Array UInt8) = [49].toArray from rfl, ByteArray.mk_append_mk, ByteArray.mk_append_mk, txt_two]
  simp

set_option maxHeartbeats 1600000 in
theorem sCY_any (p : ByteArray) (x : Int) (w : World) (hp : p.size ≤ 1048576) (hx : CycR p.data.toList x) :
    Calls Try.prog 7 #[.string p] w fun e w' => e = .returned (.int .i64 x) ∧ ∃ m, w' = w.drewN m := by
  have h1 := svP_any p w (by unfold maxLen; omega)
  rcases hx with ⟨hv, rfl⟩ | ⟨Q, K, hQ, hq1, hq2, hq3, hc, hK, rfl⟩
  · rw [hv] at h1
    have H1 := Lib.hid h1
    clear h1 hv
    go_enter Try.func7, Try.ntmps7
    go_wp2_with (go_at_call 21; refine H1.out.mono ?_; rintro e w' ⟨rfl, rfl⟩)
    go_ret
    exact ⟨rfl, 0, rfl⟩
  · have hv : polyB p.data.toList = true := by rw [hQ]; exact polyB_mk hq1 hq2 hq3
    rw [hv] at h1
    have H1 := Lib.hid h1
    have hpl : p.size = Q.length + 1 := by
      have : p.data.toList.length = p.size := by simp
      rw [← this, hQ, txt_len]; rfl
    have hge := cyc_ge hq1 hc
    have hK1 := hc.1
    have HW : Hid (∀ k, 1 ≤ k → k ≤ K → ∀ (Z : ByteArray), Z = ByteArray.mk (List.replicate (k - 1) (48 : UInt8)).toArray → ∀ (W : World), Calls Try.prog 22 #[.string p, .string (({ data := #[49] } : ByteArray) ++ Z ++ { data := #[49] })] W fun e w' => e = .returned (.bool (wcB Q k)) ∧ ∃ m, w' = W.drewN m) := (by
      intro k hk hk2 Z hZ W
      have hs := str_two k hk
      rw [← hZ] at hs
      have := swh_any p (({ data := #[49] } : ByteArray) ++ Z ++ { data := #[49] }) W (by omega) (by omega) (by rw [hs, mk_size, txt_len, two_len]; omega)
      rw [hs, hQ] at this
      rw [hs]
      exact this)
    have HNO := Lib.hid (fun k (hk : 1 ≤ k) (hk2 : k < K) => wcB_no hq1 hq3 hc hk hk2)
    have HYES := Lib.hid (wcB_yes hq1 hq3 hc)
    clear h1 hv hQ hc
    go_enter Try.func7, Try.ntmps7
    go_wp2_with (go_at_call 21; refine H1.out.mono ?_; rintro e w' ⟨rfl, rfl⟩)
    go_loopw [3] (fun kv wr => ∃ k m : Nat, 1 ≤ k ∧ k ≤ K ∧ kv = .int .i64 k ∧ wr = w.drewN m) (fun kv _ => K - (intOf kv).toNat)
    case atStart => exact ⟨1, 0, by omega, by omega, rfl, rfl⟩
    case round =>
      obtain ⟨k, m, hk1, hkK, rfl, rfl⟩ := hrel
      generalize hwj : w.drewN m = wj
      have HWJ := Lib.hid hwj
      clear hwj
      have hz := sze_any ((k : Int) - 1) wj (by omega) (by omega)
      rw [show ((k : Int) - 1).toNat = k - 1 from by omega] at hz
      have hw0 := HW.out k hk1 hkK _ rfl
      have hZs : (ByteArray.mk (List.replicate (k - 1) (48 : UInt8)).toArray).size ≤ 256 := by rw [mk_size]; simp; omega
      generalize ByteArray.mk (List.replicate (k - 1) (48 : UInt8)).toArray = Z at *
      have HZ := Lib.hid hz
      clear hz
      by_cases hlt : k < K
      · have hno := HNO.out k hk1 hlt
        rw [hno] at hw0
        have HW0 := Lib.hid hw0
        clear hw0 hno
        go_wp2_with (go_at_call 23; refine HZ.out.mono ?_; rintro e w' ⟨rfl, rfl⟩)
        refine (HW0.out _).mono ?_
        rintro e w1 ⟨rfl, m1, rfl⟩
        go_wp2
        go_roundw
        case rel => exact ⟨k + 1, m + m1, by omega, by omega, by go_num, by rw [← HWJ.out, World.drewN_drewN]⟩
        case measure => simp [intOf]; omega
      · obtain rfl : k = K := by omega
        have hno := HYES.out
        rw [hno] at hw0
        have HW0 := Lib.hid hw0
        clear hw0 hno
        have hgg : ¬ (k : Int) < (p.size : Int) - 1 := by omega
        have hgd : decide ((k : Int) < (p.size : Int) - 1) = false := by simpa using hgg
        have hgd2 : decide ((k : Int) < (Q.length : Int)) = false := by simp; omega
        have hgd3 : ¬ (k : Int) < (Q.length : Int) := by omega
        go_wp2_with (go_at_call 23; refine HZ.out.mono ?_; rintro e w' ⟨rfl, rfl⟩)
        refine (HW0.out _).mono ?_
        rintro e w1 ⟨rfl, m1, rfl⟩
        go_wp2
        go_ret
        exact ⟨rfl, m + m1, by rw [← HWJ.out, World.drewN_drewN]⟩

set_option maxHeartbeats 1600000 in
theorem iCY_any (p : ByteArray) (x : Int) (w : World) (hp : p.size ≤ 1048576) (hx : CycR p.data.toList x) :
    Calls Try.prog 8 #[.string p] w fun e w' => e = .returned (.int .i64 x) ∧ Below w.heap.size w w' := by
  have h1 := iVP_any p w (by unfold maxLen; omega)
  rcases hx with ⟨hv, rfl⟩ | ⟨Q, K, hQ, hq1, hq2, hq3, hc, hK, rfl⟩
  · rw [hv] at h1
    have H1 := Lib.hid h1
    clear h1 hv
    go_enter Try.func8, Try.ntmps8
    go_wp2_with (go_at_call 16; refine H1.out.mono ?_; rintro e w1 ⟨rfl, hb1⟩)
    go_ret
    exact ⟨rfl, hb1⟩
  · have hv : polyB p.data.toList = true := by rw [hQ]; exact polyB_mk hq1 hq2 hq3
    rw [hv] at h1
    have H1 := Lib.hid h1
    have hpl : p.size = Q.length + 1 := by
      have : p.data.toList.length = p.size := by simp
      rw [← this, hQ, txt_len]; rfl
    have hpb : p.data.toList.all isBit = true := by rw [hQ]; exact txt_bits _
    have hge := cyc_ge hq1 hc
    have hK1 := hc.1
    have HL : Hid (∀ k, 1 ≤ k → k ≤ K → ∀ (W : World) (g : Nat), OwnB W g (txt (two 0 (k - 1) 0)) → Calls Try.prog 24 #[.string p, .slice (some ⟨g, 0, none⟩) (k + 1) (k + 1)] W fun e w' => e = .returned (.bool (wcB Q k)) ∧ W.grownBy w' (some g)) := (by
      intro k hk hk2 W g ho
      have hlen : (txt (two 0 (k - 1) 0)).length = k + 1 := by rw [txt_len, two_len]; omega
      have : Calls Try.prog 24 #[.string p, .slice (some ⟨g, 0, none⟩) (k + 1) (k + 1)] W fun e w' => e = .returned (.bool (wcB Q k)) ∧ W.grownBy w' (some g) := by
        by_cases hq : p.size - 1 ≤ k + 1
        · have := lvn_any p W g (k + 1) (k + 1) _ hlen (by omega) (by omega) hpb (txt_bits _) (by omega) hq (Nat.le_refl _) ho
          rw [hQ] at this
          exact this
        · have e : wcB Q k = false := wcB_no hq1 hq3 hc hk (by omega)
          rw [e]
          exact (lvn_few p (some ⟨g, 0, none⟩) (k + 1) (k + 1) W (by omega) (by omega) (by omega)).mono fun e w' ⟨h, h2⟩ => ⟨h, by rw [← h2]; exact World.grownBy.refl W _⟩
      exact this)
    have HNO := Lib.hid (fun k (hk : 1 ≤ k) (hk2 : k < K) => wcB_no hq1 hq3 hc hk hk2)
    have HYES := Lib.hid (wcB_yes hq1 hq3 hc)
    clear h1 hv hQ hc hpb
    go_enter Try.func8, Try.ntmps8
    go_wp2_with (go_at_call 16; refine H1.out.mono ?_; rintro e w1 ⟨rfl, hb1⟩)
    go_loopw [3] (fun kv wr => ∃ k : Nat, 1 ≤ k ∧ k ≤ K ∧ kv = .int .i64 k ∧ Below w.heap.size w wr ∧ w.heap.size ≤ wr.heap.size) (fun kv _ => K - (intOf kv).toNat)
    case atStart => exact ⟨1, by omega, by omega, rfl, hb1, hb1.size⟩
    case round =>
      obtain ⟨k, hk1, hkK, rfl, hbel, hsz⟩ := hrel
      have ht := two_any wr 0 (k - 1) 0 (by omega) k (k + 1) (by omega) (by omega)
      have hl0 := fun W ho => HL.out k hk1 hkK W (wr.heap.size + 1) ho
      have HT := Lib.hid ht
      have HBEL := Lib.hid hbel
      clear ht hbel
      by_cases hlt : k < K
      · have hno := HNO.out k hk1 hlt
        rw [hno] at hl0
        have HL0 := Lib.hid hl0
        clear hl0 hno
        go_wp2_with fail
        refine HT.out.mono ?_
        rintro e w2 ⟨rfl, ho, hb2⟩
        go_wp2_with fail
        refine (HL0.out _ ho).mono ?_
        rintro e w3 ⟨rfl, hg3⟩
        have hb12 := HBEL.out.trans (hb2.mono hsz)
        have hb13 := below_grow9 hb12 hg3 (by omega) hb12.size
        clear ho hb2 hg3 hb12
        go_wp2
        go_roundw
        case rel => exact ⟨k + 1, by omega, by omega, by go_num, hb13, hb13.size⟩
        case measure => simp [intOf]; omega
      · obtain rfl : k = K := by omega
        have hno := HYES.out
        rw [hno] at hl0
        have HL0 := Lib.hid hl0
        clear hl0 hno
        go_wp2_with fail
        refine HT.out.mono ?_
        rintro e w2 ⟨rfl, ho, hb2⟩
        go_wp2_with fail
        refine (HL0.out _ ho).mono ?_
        rintro e w3 ⟨rfl, hg3⟩
        have hb12 := HBEL.out.trans (hb2.mono hsz)
        have hb13 := below_grow9 hb12 hg3 (by omega) hb12.size
        clear ho hb2 hg3 hb12
        go_wp2
        go_ret
        exact ⟨rfl, hb13⟩
end Go.Proofs.Ytpneopldbeefhaa
