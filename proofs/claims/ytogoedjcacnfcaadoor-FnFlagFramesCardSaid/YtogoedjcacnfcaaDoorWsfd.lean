/-
  The walks of what draws frames, of which each is short bits or none. Conditions: where the reader lies, and the bounds that are typed.
-/
import Derived.Test.YtogoedjcacnfcaaDoorWdff
import Derived.Test.YtogoedjcacnfcaaDoorFfd
namespace Go.Proofs.YtogoedjcacnfcaaDoor
open Go.RowKit
set_option linter.unusedVariables false

theorem some_fr {l : List UInt8} (h : Some' 12 l) : Fr (ByteArray.mk l.toArray) := by
  unfold Fr
  rw [mk_size]
  rcases h with ⟨_, h⟩ | ⟨h1, h⟩
  · exact ⟨by omega, .inl h⟩
  · exact ⟨by omega, .inr h1⟩
theorem all_snocFr {xs : List ByteArray} {y : ByteArray} (h : ∀ x ∈ xs, Fr x) (hy : Fr y) : ∀ x ∈ xs ++ [y], Fr x := by
  intro x hx
  rcases List.mem_append.1 hx with hx | hx
  · exact h x hx
  · rw [List.mem_singleton.1 hx]; exact hy

set_option maxHeartbeats 1600000 in
theorem sfd_any {B : Nat} {w : World} {g p : Nat} (h : Rd B w g p) (hp : p ≤ 800000) :
    Calls Tryd.prog 23 #[.pointer (some ⟨g, 0, none⟩)] w
      fun e w' => ∃ (u : Value) (xs : List ByteArray) (p' : Nat), e = .returned u ∧ OwnT w' w.heap.size u xs ∧ xs.length ≤ 5 ∧ (∀ x ∈ xs, Fr x) ∧ Rd B w' g p' ∧ p' ≤ p + 600 ∧ Below B w w' := by
  have hgl := h.lt
  have hBg := h.1
  obtain ⟨i0, hi, hz0, hz1, hz2⟩ := info_parts infoS
  have HI := Lib.hid hi
  have HZ0 := Lib.hid hz0
  have HZ1 := Lib.hid hz1
  have HZ2 := Lib.hid hz2
  have HM := Lib.hid (World.ownsRow_made (base := w.heap.size) (e := 9) (size := 1) w #[] 0 (Nat.le_refl _) (by unfold maxLen; omega) rfl)
  clear hi hz0 hz1 hz2
  go_enter Tryd.func23, Tryd.ntmps23
  go_wp2_with fail
  refine (one_any ((h.alloc (.cells #[] 9)).alloc _) (by omega) (w.heap.size + 1) 6 6 [2, 3, 1, 4, 0, 5] rfl (by omega) (by omega) (by omega) (by have e := new_ints (w.alloc (.cells #[] 9)) [2, 3, 1, 4, 0, 5] 3; rw [World.size_alloc] at e; exact e)).mono ?_
  rintro e w1 ⟨x, m, rfl, hx, hw1⟩
  have hr1 : Rd B w1 g (p + 1) := by rw [hw1]; exact ((h.alloc _).alloc _).picked m
  have hb1 : Below B w w1 := by rw [hw1]; exact (((Below.refl B w).alloc (by omega) _).alloc (by simp; omega) _).trans (picked_below ((h.alloc _).alloc _) m)
  have ho1 : OwnT w1 w.heap.size (.slice (some ⟨w.heap.size, 0, none⟩) 0 0) [] := by rw [hw1]; exact own_pickedT (HM.out.alloc _) hgl
  have hz1 : w.heap.size ≤ w1.heap.size := by rw [hw1, picked_size]; simp; omega
  clear hw1
  obtain ⟨k, rfl, hk⟩ : ∃ k : Nat, x = k ∧ k ≤ 5 := by
    simp only [List.mem_cons, List.not_mem_nil, or_false] at hx
    exact ⟨x.toNat, by omega, by omega⟩
  clear hx
  go_wp2
  go_loopw [3, 4] (fun sv nv wr => ∃ (xs : List ByteArray) (k p' : Nat), nv = .int .i64 k ∧ OwnT wr w.heap.size sv xs ∧ xs.length + k ≤ 5 ∧ (∀ x ∈ xs, Fr x) ∧ Rd B wr g p' ∧ p' + 100 * k ≤ p + 501 ∧ Below B w wr ∧ w.heap.size ≤ wr.heap.size) (fun _ nv _ => (intOf nv).toNat)
  case atStart => exact ⟨[], k, p + 1, rfl, ho1, by simpa using hk, by simp, hr1, by omega, hb1, hz1⟩
  case round =>
    clear hr1 hb1 ho1 hz1
    obtain ⟨xs, k, p', rfl, hown, hlk, hxs, hr, hpk, hb, hz⟩ := hrel
    have HOW := Lib.hid hown
    have HXS := Lib.hid hxs
    have hgr := hr.lt
    obtain ⟨A, cp, rfl⟩ := own_form1 hown
    clear hown hxs
    by_cases hk0 : 0 < k
    · have hk1 : decide ((0 : Int) < (k : Int)) = true := by simp; omega
      go_wp2_with fail
      refine (sbk_any hr (by omega) 12 (by omega)).mono ?_
      rintro e w2 ⟨l, p2, rfl, hs, hr2, hp2, hb2, hkp⟩
      have HS := Lib.hid (some_fr hs)
      have HO2 : Hid (OwnT w2 w.heap.size (.slice A xs.length cp) xs) := Lib.hid (own_keepsT HOW.out hkp hgl)
      have HR2 := Lib.hid hr2
      have HB2 := Lib.hid (hb.trans hb2)
      have hz2 : w.heap.size ≤ w2.heap.size := Nat.le_trans hz hkp.z
      clear hs hr2 hb2 hkp hr hb HOW hgr
      generalize ByteArray.mk l.toArray = y at *
      go_wp2_with (at_builtin; refine wpList_append_own _ rfl (.tmp 13) (.tmp 16) 22 rfl w.heap.size 9 i0 (.string ByteArray.empty) 1 16 Tryd.underlying22 HI.out HZ0.out HZ1.out HZ2.out rfl (by decide) _ _ _ rfl (World.ownsRow.alloc HO2.out _) ⟨w2.heap.size, 0, none⟩ 1 1 (strv [y]) rfl rfl (new1s _ _ _) (one1s _) (by unfold maxLen; omega) (by omega) (by simp; omega) ?_; intro v9 w9 hown9 hg9 hnil; clear hnil; obtain ⟨A9, c9, rfl⟩ := own_form1 hown9)
      have hgl2 := HR2.out.lt
      have R2 := (HB2.out.alloc (by omega) _).grown hg9 (by simp; omega) (fun j hj => by have := (World.ownsRow.lt HO2.out j hj).1; omega)
      have hr9 : Rd B w9 g p2 := (HR2.out.alloc _).keep ((Below.refl B (w2.alloc _)).grown hg9 (by simp; omega) (fun j hj => by have := (World.ownsRow.lt HO2.out j hj).1; omega)) (hg9.block g (by simp; omega) (fun e => own_neT HO2.out hgl e.symm))
      have hz9 : w.heap.size ≤ w9.heap.size := by have := hg9.size; simp at this; omega
      go_roundw
      case rel => exact ⟨xs ++ [y], k - 1, p2, by go_num, ownT_snoc hown9, by simp; omega, all_snocFr HXS.out HS.out, hr9, by omega, R2, hz9⟩
      case measure => simp [intOf]; omega
    · have hk1 : ¬ (0 : Int) < (k : Int) := by omega
      go_wp2
      go_ret
      exact ⟨_, rfl, xs, HOW.out, by omega, HXS.out, p', hr, by omega, hb⟩

set_option maxHeartbeats 800000 in
theorem dfl_any (w : World) (a : Option Addr) (len cap : Nat) (zs : List Int) (h : IsRow .u8 w a len cap zs) :
    Calls Tryd.prog 11 #[.slice a len cap] w fun e w' => ∃ (u : Value) (xs : List ByteArray), e = .returned u ∧ Rss w' u xs ∧ LiesS w'.heap.size u xs ∧ (∃ A c, u = .slice A xs.length c) ∧ xs.length ≤ 5 ∧ (∀ x ∈ xs, Fr x) ∧ Below w.heap.size w w' := by
  have H := Lib.hid (nr_any w a len cap zs h)
  clear h
  go_enter Tryd.func11, Tryd.ntmps11
  go_wp2_with fail
  refine H.out.mono ?_
  rintro e w1 ⟨rfl, hr, hb, hz⟩
  clear H hz
  go_wp2_with fail
  refine (sfd_any hr (by omega)).mono ?_
  rintro e w2 ⟨u, xs, p', rfl, ho2, hn, hxs, hr2, hp2, hb2⟩
  have HR := Lib.hid (rss_own ho2)
  have HL := Lib.hid (lies_own ho2)
  have HX := Lib.hid hxs
  have HB := Lib.hid (hb.trans hb2)
  obtain ⟨A, c, rfl⟩ := own_form1 ho2
  clear hr hb hxs ho2 hr2 hb2
  go_wp2
  go_ret
  exact ⟨_, xs, rfl, HR.out, HL.out, ⟨A, c, rfl⟩, hn, HX.out, HB.out⟩
end Go.Proofs.YtogoedjcacnfcaaDoor
