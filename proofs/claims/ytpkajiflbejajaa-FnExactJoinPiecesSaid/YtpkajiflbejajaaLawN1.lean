/-
  The walk of the law FnExactJoinPieces: it returns true at every list of pieces. No condition but that the list is one that can be.
-/
import Derived.Test.YtpkajiflbejajaaWijp
import Derived.Test.YtpkajiflbejajaaWsjp
namespace Go.Proofs.Ytpkajiflbejajaa
open Go.RowKit
set_option linter.unusedVariables false

theorem PRds.own_keep {w w' : World} {B : Nat} {v : Value} {ps : List Pc} {row : Option Nat} (h : OwnP w B v ps) (hg : w.grownBy w' row) (hne : ∀ g, v.ownBlock = some g → row = some g → False) : OwnP w' B v ps := by
  cases hv : v.ownBlock with
  | none => exact World.ownsRow.kept h hg (.inl hv)
  | some k => exact World.ownsRow.kept h hg (.inr (fun e => hne k hv (e.symm.trans hv)))
theorem JP.len {ps R : List Pc} (h : JP ps R) : R.length ≤ 60 := by
  cases hb : okE ps
  · rw [h.2 hb]; simp
  · obtain ⟨hn, hi, _⟩ := h.1 hb
    have := norm_len hn (lo := 0) (hi := 60) (fun k hk => inn_bd (okE_valid hb).1 ((hi k).1 hk)) (by omega)
    omega

set_option maxHeartbeats 3200000 in
theorem fnExactJoinPieces_walk (a : Option Addr) (len cap : Nat) (ps : List Pc) (w : World) (hl : ps.length = len) (hm : len ≤ maxLen) (h : PRds w (.slice a len cap) ps) :
    Calls Try.prog 3 #[.slice a len cap] w fun e w' => e = .returned (.bool true) ∧ Below w.heap.size w w' := by
  by_cases hg : 1048576 < len
  · have H := Lib.hid (szP_far w a len cap hg hm)
    clear h hl hm
    go_enter Try.func3, Try.ntmps3
    go_wp2_with (go_at_call 6; refine H.out.mono ?_; rintro e w' ⟨rfl, rfl⟩)
    go_ret
    exact ⟨rfl, Below.refl _ _⟩
  · subst hl
    have hn : ps.length ≤ 1048576 := by omega
    have H := Lib.hid (szP_any w a ps.length cap hn)
    have hd : decide ((1048576 : Int) - (ps.length : Int) < 0) = false := by simp; omega
    have HR0 := Lib.hid h
    have HS := Lib.hid (fun W v h => sJP_any W v ps h hn)
    have HI := Lib.hid (fun W v h => iJP_any W v ps h hn)
    clear h hg hm
    go_enter Try.func3, Try.ntmps3
    go_wp2_with fail
    refine H.out.mono ?_
    rintro e w0 ⟨rfl, rfl⟩
    go_wp2_with fail
    refine (toP_any _ _ ps HR0.out hn).mono ?_
    rintro e w1 ⟨rfl, h1, hb1⟩
    have HB1 := Lib.hid hb1
    have H1 := Lib.hid (PRds.of_own h1)
    clear h1 hb1
    go_wp2_with fail
    refine (HS.out _ _ H1.out).mono ?_
    rintro e w2 ⟨u, R, rfl, hjp, hu, hb2⟩
    have HJ := Lib.hid hjp
    have hR60 := hjp.len
    have HB2 := Lib.hid (HB1.out.trans (hb2.mono HB1.out.size))
    have HU2 := Lib.hid (PRds.of_own hu)
    clear hjp hu hb2 H1
    go_wp2_with fail
    refine (toP_any _ _ ps (HR0.out.more HB2.out) hn).mono ?_
    rintro e w3 ⟨rfl, hx3, hb3⟩
    have HB3 := Lib.hid (HB2.out.trans (hb3.mono HB2.out.size))
    have C3 := Lib.hid hb3
    have HX3 := Lib.hid hx3
    clear hx3 hb3
    go_wp2_with fail
    refine (HI.out _ _ (PRds.of_own HX3.out)).mono ?_
    rintro e w4 ⟨g, R', rfl, hjp, hg4, hb4⟩
    obtain rfl := HJ.out.uniq hjp
    have HB4 := Lib.hid (HB3.out.trans (hb4.mono HB3.out.size))
    have C4 := Lib.hid (C3.out.trans (hb4.mono C3.out.size))
    have HG4 := Lib.hid hg4
    have HX4 := Lib.hid (own3_below HX3.out hb4 (fun k hk => (World.ownsRow.lt HX3.out k hk).2))
    have hz3 := (World.ownsRow.lt HX3.out _ rfl).2
    clear hjp hg4 hb4
    go_wp2_with fail
    refine (eqP_same _ _ _ R (PRds.of_own HG4.out) (HU2.out.more C4.out) (by omega)).mono ?_
    rintro e w5 ⟨rfl, hb5⟩
    have HB5 := Lib.hid (HB4.out.trans (hb5.mono HB4.out.size))
    have C5 := Lib.hid (C4.out.trans (hb5.mono C4.out.size))
    have HG5 : Hid (OwnP w5 w3.heap.size g R) := Lib.hid (own3_below HG4.out hb5 (fun k hk => (World.ownsRow.lt HG4.out k hk).2))
    have HX5 : Hid (OwnP w5 w2.heap.size _ ps) := Lib.hid (own3_below HX4.out hb5 (fun k hk => (World.ownsRow.lt HX4.out k hk).2))
    clear hb5
    go_wp2_with fail
    refine (toP_any _ _ ps (HR0.out.more HB5.out) hn).mono ?_
    rintro e w6 ⟨rfl, h6, hb6⟩
    have HB6 := Lib.hid (HB5.out.trans (hb6.mono HB5.out.size))
    have C6 := Lib.hid (C5.out.trans (hb6.mono C5.out.size))
    have HG6 : Hid (OwnP w6 w3.heap.size g R) := Lib.hid (own3_below HG5.out hb6 (fun k hk => (World.ownsRow.lt HG5.out k hk).2))
    have HX6 : Hid (OwnP w6 w2.heap.size _ ps) := Lib.hid (own3_below HX5.out hb6 (fun k hk => (World.ownsRow.lt HX5.out k hk).2))
    have HT6 := Lib.hid (PRds.of_own h6)
    clear h6 hb6
    go_wp2_with fail
    refine (eqP_same _ _ _ ps (PRds.of_own HX6.out) HT6.out hn).mono ?_
    rintro e w7 ⟨rfl, hb7⟩
    have HB7 := Lib.hid (HB6.out.trans (hb7.mono HB6.out.size))
    have C7 := Lib.hid (C6.out.trans (hb7.mono C6.out.size))
    have HG7 : Hid (OwnP w7 w3.heap.size g R) := Lib.hid (own3_below HG6.out hb7 (fun k hk => (World.ownsRow.lt HG6.out k hk).2))
    have HX7 : Hid (OwnP w7 w2.heap.size _ ps) := Lib.hid (own3_below HX6.out hb7 (fun k hk => (World.ownsRow.lt HX6.out k hk).2))
    clear hb7
    go_wp2_with fail
    refine (markP_any _ _ _ ps hn HX7.out).mono ?_
    rintro e w8 ⟨rfl, hm8, hg8⟩
    have HB8 := Lib.hid (HB7.out.grown hg8 HB7.out.size (fun k hk => by have h1 := (World.ownsRow.lt HX7.out k hk).1; have := HB2.out.size; omega))
    have C8 := Lib.hid (C7.out.grown hg8 C7.out.size (fun k hk => (World.ownsRow.lt HX7.out k hk).1))
    have HG8 : Hid (OwnP w8 w3.heap.size g R) := Lib.hid (PRds.own_keep HG7.out hg8 (fun k hk hx => by
      have h1 := (World.ownsRow.lt HG7.out k hk).1
      have h2 : w2.heap.size = k := by simpa [Value.ownBlock] using hx
      omega))
    clear hm8 hg8
    have hd1 : decide ((1 : Int) + 3 * (ps.length : Int) < 0) = false := by simp; omega
    go_wp2_with fail
    refine (eqP_same _ _ _ R (PRds.of_own HG8.out) (HU2.out.more C8.out) (by omega)).mono ?_
    rintro e w9 ⟨rfl, hb9⟩
    have HB9 := Lib.hid (HB8.out.trans (hb9.mono HB8.out.size))
    have C9 := Lib.hid (C8.out.trans (hb9.mono C8.out.size))
    have HG9 : Hid (OwnP w9 w3.heap.size g R) := Lib.hid (own3_below HG8.out hb9 (fun k hk => (World.ownsRow.lt HG8.out k hk).2))
    clear hb9
    go_wp2_with fail
    refine (markP_any _ _ _ R (by omega) HG9.out).mono ?_
    rintro e w10 ⟨rfl, hm10, hg10⟩
    have HB10 := Lib.hid (HB9.out.grown hg10 HB9.out.size (fun k hk => by have h1 := (World.ownsRow.lt HG9.out k hk).1; have := HB3.out.size; omega))
    have C10 := Lib.hid (C9.out.grown hg10 C9.out.size (fun k hk => by have h1 := (World.ownsRow.lt HG9.out k hk).1; have := C3.out.size; omega))
    have HG10 := Lib.hid hm10
    clear hm10 hg10
    go_wp2_with fail
    refine (heldP_any _ _ R.length (by omega) (PRds.of_own HG10.out)).mono ?_
    rintro e w11 ⟨rfl, rfl⟩
    have hd2 : decide ((1 : Int) + 3 * (R.length : Int) < 0) = false := by simp; omega
    have hd3 : ((1 : Int) + 3 * (R.length : Int) != 1 + 3 * (R.length : Int)) = false := by simp
    go_wp2_with fail
    refine (toP_any _ _ ps (HR0.out.more HB10.out) hn).mono ?_
    rintro e w12 ⟨rfl, h12, hb12⟩
    have HB12 := Lib.hid (HB10.out.trans (hb12.mono HB10.out.size))
    have C12 := Lib.hid (C10.out.trans (hb12.mono C10.out.size))
    have HG12 : Hid (OwnP w12 w3.heap.size g (mk3 R.length)) := Lib.hid (own3_below HG10.out hb12 (fun k hk => (World.ownsRow.lt HG10.out k hk).2))
    have H12 := Lib.hid (PRds.of_own h12)
    clear h12 hb12
    go_wp2_with fail
    refine (HI.out _ _ H12.out).mono ?_
    rintro e w13 ⟨g2, R2, rfl, hjp, hg13, hb13⟩
    obtain rfl := HJ.out.uniq hjp
    have HB13 := Lib.hid (HB12.out.trans (hb13.mono HB12.out.size))
    have C13 := Lib.hid (C12.out.trans (hb13.mono C12.out.size))
    have HG13 : Hid (OwnP w13 w3.heap.size g (mk3 R.length)) := Lib.hid (own3_below HG12.out hb13 (fun k hk => (World.ownsRow.lt HG12.out k hk).2))
    have H13 := Lib.hid (PRds.of_own hg13)
    clear hjp hg13 hb13
    go_wp2_with fail
    refine (eqP_same _ _ _ R H13.out (HU2.out.more C13.out) (by omega)).mono ?_
    rintro e w14 ⟨rfl, hb14⟩
    have HB14 := Lib.hid (HB13.out.trans (hb14.mono HB13.out.size))
    have HG14 : Hid (OwnP w14 w3.heap.size g (mk3 R.length)) := Lib.hid (own3_below HG13.out hb14 (fun k hk => (World.ownsRow.lt HG13.out k hk).2))
    clear hb14
    go_wp2_with fail
    refine (heldP_any _ _ R.length (by omega) (PRds.of_own HG14.out)).mono ?_
    rintro e w15 ⟨rfl, rfl⟩
    go_wp2
    go_ret
    exact ⟨rfl, HB14.out⟩
end Go.Proofs.Ytpkajiflbejajaa
