/-
  The walk of the law FnExactBlindOf: it returns true at every text and number. No condition but that the text's length is one that a text can have.
-/
import Derived.Test.YtpneopldbeefhaaWbs
import Derived.Test.YtpneopldbeefhaaWbi
namespace Go.Proofs.Ytpneopldbeefhaa
open Go.RowKit
set_option linter.unusedVariables false

set_option maxHeartbeats 1600000 in
theorem fnExactBlindOf_walk (s : ByteArray) (z : Int) (w : World) (hs : s.size ≤ maxLen) :
    Calls Try.prog 4 #[.string s, .int .i64 z] w fun e w' => e = .returned (.bool true) ∧ Below w.heap.size w w' := by
  by_cases hg : (1048576 : Int) < (s.size : Int)
  · go_enter Try.func4, Try.ntmps4
    go_wp2_with fail
    go_ret
    exact ⟨rfl, Below.refl _ _⟩
  · obtain ⟨L, hx, hL⟩ := bliR_some s.data.toList z
    have H1 := Lib.hid (fun W => sBL_any s z L W (by omega) hx)
    have H2 := Lib.hid (fun W => iBL_any s z L W (by omega) hx)
    clear hx
    go_enter Try.func4, Try.ntmps4
    go_wp2_with fail
    refine (H1.out _).mono ?_
    rintro e w1 ⟨v1, rfl, hlr1, hb1⟩
    have HLR1 := Lib.hid hlr1
    clear hlr1
    go_wp2_with fail
    refine (H2.out _).mono ?_
    rintro e w2 ⟨v2, rfl, hlr2, hb2⟩
    obtain ⟨gs1, hl1, hp1⟩ := HLR1.out.below hb2
    obtain ⟨gs2, hl2, hp2⟩ := hlr2
    have hgn : gs2.length ≤ 420 := by omega
    have heq := eqPP_any w2 _ _ v2 v1 gs2 gs1 _ hp2 hp1 (by omega) (by omega)
    have HP2 := Lib.hid hp2
    have HEQ := Lib.hid heq
    have HB1 := Lib.hid hb1
    have HB2 := Lib.hid hb2
    have hsz12 : w1.heap.size ≤ w2.heap.size := hb2.size
    have hsz01 : w.heap.size ≤ w1.heap.size := hb1.size
    clear hp1 hp2 heq hb1 hb2 hl1
    go_wp2_with fail
    refine HEQ.out.mono ?_
    rintro e w3 ⟨rfl, m, rfl⟩
    have hmk := markPP_any (w2.drewN m) _ v2 gs2 _ 1 (by omega) (by omega) (HP2.out.drewN m) (by omega) hsz12
    have HB3 := Lib.hid (below_drewN HB2.out m)
    generalize w2.drewN m = w3 at *
    have HMK := Lib.hid hmk
    clear hmk HB2 HP2 HEQ
    go_wp2_with fail
    refine HMK.out.mono ?_
    rintro e w4 ⟨rfl, hp4, hb4⟩
    have hhd := heldPP_any w4 _ v2 gs2 1 (by omega) (by omega) hp4 (by omega)
    have HB4 := Lib.hid (HB3.out.trans hb4)
    have HP4 := Lib.hid hp4
    have HHD := Lib.hid hhd
    have hnn : ¬ (1 : Int) + 2 * (gs2.length : Int) < 0 := by omega
    clear hp4 hb4 hhd HB3 HMK
    go_wp2_with fail
    refine HHD.out.mono ?_
    rintro e w5 ⟨rfl, rfl⟩
    go_wp2_with fail
    refine (H2.out _).mono ?_
    rintro e w6 ⟨v6, rfl, hlr6, hb6⟩
    have hb46 := HB4.out.trans (hb6.mono HB4.out.size)
    obtain ⟨gs7, hl7, hp7⟩ := HLR1.out.below hb46
    obtain ⟨gs6, hl6, hp6⟩ := hlr6
    have heq := eqPP_any w6 _ _ v6 v1 gs6 gs7 _ hp6 hp7 (by omega) (by omega)
    have HEQ := Lib.hid heq
    have HP6 := Lib.hid (HP4.out.below hb6)
    have HB6 := Lib.hid hb46
    clear hp6 hp7 heq hb6 hb46 hl6 hl7 HP4
    go_wp2_with fail
    refine HEQ.out.mono ?_
    rintro e w7 ⟨rfl, m, rfl⟩
    have hhd := heldPP_any (w6.drewN m) _ v2 gs2 1 (by omega) (by omega) (HP6.out.drewN m) (by omega)
    have HB7 := Lib.hid (below_drewN HB6.out m)
    generalize w6.drewN m = w7 at *
    have HHD2 := Lib.hid hhd
    clear hhd HEQ HP6 HB6
    go_wp2_with fail
    refine HHD2.out.mono ?_
    rintro e w8 ⟨rfl, rfl⟩
    go_wp2
    go_ret
    exact ⟨rfl, HB1.out.trans (HB7.out.mono hsz01)⟩
end Go.Proofs.Ytpneopldbeefhaa
