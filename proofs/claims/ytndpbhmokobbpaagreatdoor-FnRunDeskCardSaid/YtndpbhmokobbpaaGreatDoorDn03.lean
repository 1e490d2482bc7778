/-
  What the walk of the desk's draw wants: texts of numbers are short, what stays, and the cut of a row. No condition.
  The walk of what draws the desk's lines. Condition: that the letters are some that can be.
-/
import Derived.Test.YtndpbhmokobbpaaGreatDoorDn02
import Derived.Test.YtndpbhmokobbpaaGreatDoorDm30
import Derived.Lib.ItoaLen
import Derived.Deep.CutRange
import Derived.Deep.CutBlock
namespace Go.Proofs.YtndpbhmokobbpaaGreatDoor
open Go.RowKit
set_option linter.unusedVariables false

theorem dd20 {n : Nat} (h : n < 1000000000) : (Lib.decDigits n).length ≤ 21 := by
  have := Lib.itoa_length_le (n : Int) (by omega) (by omega)
  rw [Lib.itoa_nonneg] at this
  omega
theorem ltx_two (x y : Int) (hx : 0 ≤ x ∧ x ≤ 1000) (hy : 0 ≤ y ∧ y ≤ 1000) : (ltx [x, y]).length ≤ 43 := by
  have h1 := dd20 (n := x.toNat) (by omega)
  have h2 := dd20 (n := y.toNat) (by omega)
  show (Lib.decDigits x.toNat ++ 44 :: Lib.decDigits y.toNat).length ≤ 43
  rw [List.length_append, List.length_cons]
  omega
theorem own_ne8 {w : World} {B e n g : Nat} {v : Value} {xs : List Value} (h : w.ownsRow B e 1 v n xs) (hg : g < B) : v.ownBlock ≠ some g := fun he => by have := (h.lt g he).1; omega
theorem own_picked8 {w : World} {B e n g p m : Nat} {v : Value} {xs : List Value} (h : w.ownsRow B e 1 v n xs) (hg : g < B) : (picked w g p m).ownsRow B e 1 v n xs :=
  ownsRow_setCell_other (a := ⟨g, 1, none⟩) h (own_ne8 h hg) _
theorem OwnT.picked {w : World} {B g p m : Nat} {v : Value} {xs : List ByteArray} (h : OwnT w B v xs) (hg : g < B) : OwnT (picked w g p m) B v xs := own_picked8 h hg
theorem OwnT.alloc {w : World} {B : Nat} {v : Value} {xs : List ByteArray} (h : OwnT w B v xs) (o : Obj) : OwnT (w.alloc o) B v xs := World.ownsRow.alloc h o
theorem OwnT.kps {g T B : Nat} {wa wb : World} {v : Value} {xs : List ByteArray} (h : OwnT wa B v xs) (hk : Kps g T wa wb) (hg : g < B) (hT : wa.heap.size ≤ T) : OwnT wb B v xs :=
  hk.own h hg (fun k hk => by have := (World.ownsRow.lt h k hk).2; omega)
theorem app_le {a b : ByteArray} {m n : Nat} (ha : a.size ≤ m) (hb : b.size ≤ n) : (a ++ b).size ≤ m + n := by rw [ByteArray.size_append]; omega
theorem gdc_any (w : World) : Calls Tryz.prog 20 #[.string ⟨#[49, 48, 49, 49]⟩] w fun e w' => e = .returned (.string ⟨(gd7 fun k => [49, 48, 49, 49].getD k 0).toArray⟩) ∧ Below w.heap.size w w' :=
  sgd_any w ⟨#[49, 48, 49, 49]⟩ (fun k => [49, 48, 49, 49].getD k 0) rfl (fun k hk => by
    have h4 : k < 4 := hk
    match k, h4 with
    | 0, _ => rfl
    | 1, _ => rfl
    | 2, _ => rfl
    | 3, _ => rfl) (fun k hk => by
    match k, hk with
    | 0, _ => exact .inr rfl
    | 1, _ => exact .inl rfl
    | 2, _ => exact .inr rfl
    | 3, _ => exact .inr rfl)
theorem own_at {w : World} {B : Nat} {v : Value} {xs : List Int} (h : OwnL w B v xs) (hn : 0 < xs.length) : ∃ g c, v = .slice (some ⟨g, 0, none⟩) xs.length c ∧ xs.length ≤ c := by
  rcases h.2 with ⟨hv, h0⟩ | ⟨g, cap, cur, hv, _, _, hnc, _⟩
  · omega
  · exact ⟨g, cap, hv, hnc⟩
theorem Rk.drewN {B T : Nat} {w w1 : World} {g p : Nat} (h : Rk B T w g p w1) (m : Nat) : Rk B T w g p (w1.drewN m) := ⟨h.r, below_drewN h.b m, ⟨h.k.size, h.k.block⟩⟩
theorem Rk.below {B T : Nat} {w w1 w2 : World} {g p : Nat} (h : Rk B T w g p w1) (hT : T ≤ w1.heap.size) (hb : Below w1.heap.size w1 w2) : Rk B T w g p w2 :=
  ⟨h.r.keep (hb.mono (by have := h.r.lt; have := h.r.1; omega)) (hb.block g h.r.lt), h.b.trans (hb.mono (by have := h.r.lt; have := h.r.1; omega)), h.k.below (hb.mono hT)⟩
theorem seal48 (p s : List UInt8) : (mkT (sealR p s)).size ≤ 48 := by
  rw [mkT_size]
  unfold sealR
  split
  · rename_i h
    have h1 := bits40 h.2
    have h2 := polyB_bd h.1
    have h3 := remU_len p (s ++ List.replicate (p.length - 1) 48) (by omega)
    rw [List.length_append] at h1 ⊢
    omega
  · exact Nat.zero_le _
theorem fits8 {w : World} {B e n : Nat} {v : Value} {xs : List Value} (h : w.ownsRow B e 1 v n xs) : ∀ A m c, v = .slice A m c → m ≤ c := by
  intro A m c e
  rcases h.2 with ⟨h0, _⟩ | ⟨g, cap, cur, h0, _, _, hn, _⟩
  · rw [h0] at e; injection e with _ e2 e3; omega
  · rw [h0] at e; injection e with _ e2 e3; omega
theorem escR_two (a b : Int) (ha : 0 ≤ a ∧ a ≤ 255) (hb : 0 ≤ b ∧ b ≤ 255) : ∃ x y r, escR [a, b, 0] = x :: y :: r ∧ (0 ≤ x ∧ x ≤ 1000) ∧ (0 ≤ y ∧ y ≤ 1000) ∧ r.length ≤ 1000 := by
  have h0 : bytesB 16 [a, b, 0] = true := by simp [bytesB, isByte]; omega
  have e : escR [a, b, 0] = escB a ++ (escB b ++ (escB 0 ++ [192])) := by
    unfold escR
    rw [if_pos h0]
    simp [escs]
  rw [e]
  have e0 : escB 0 = [0] := rfl
  rw [e0]
  unfold escB
  by_cases h1 : a = 192
  · rw [if_pos h1]; exact ⟨219, 220, _, rfl, by omega, by omega, by split <;> (try split) <;> simp⟩
  · rw [if_neg h1]
    by_cases h2 : a = 219
    · rw [if_pos h2]; exact ⟨219, 221, _, rfl, by omega, by omega, by split <;> (try split) <;> simp⟩
    · rw [if_neg h2]
      by_cases h3 : b = 192
      · rw [if_pos h3]; exact ⟨a, 219, _, rfl, by omega, by omega, by simp⟩
      · rw [if_neg h3]
        by_cases h4 : b = 219
        · rw [if_pos h4]; exact ⟨a, 219, _, rfl, by omega, by omega, by simp⟩
        · rw [if_neg h4]; exact ⟨a, b, _, rfl, by omega, by omega, by simp⟩
theorem rds_two {w : World} {A : Option Addr} {n c d : Nat} {x y : Int} {r : List Int} (h : Rds w (.slice A n c) (x :: y :: r)) : Rds w (.slice A 2 d) [x, y] := by
  obtain ⟨A', c', e, h1⟩ := h
  injection e with e1 e2 e3
  subst e1
  refine ⟨A, d, rfl, fun _ => ?_⟩
  obtain ⟨b, off, hA, hat⟩ := h1 (by simp)
  refine ⟨b, off, hA, hat.1, fun j hj => ?_⟩
  have h2 := hat.2 j (by simp at hj ⊢; omega)
  rw [h2]
  match j, hj with
  | 0, _ => rfl
  | 1, _ => rfl
  | k + 2, h => simp at h; omega
theorem rds_three (w : World) (a b : Int) : Rds (w.alloc (.cells #[.int .i64 a, .int .i64 b, .int .i64 0] 3)) (.slice (some ⟨w.heap.size, 0, none⟩) 3 3) [a, b, 0] :=
  Rds.of_at (xs := [a, b, 0]) ⟨by simp, fun j hj => by
    have := new_ints w [a, b, 0] 3 j hj
    rw [Nat.zero_add]
    exact this⟩
theorem mul_nat {a b : Nat} (ha : a < 256) (hb : b < 256) : ∃ n : Nat, (a : Int) * (b : Int) = (n : Int) ∧ n ≤ 65025 :=
  ⟨a * b, by simp, Nat.le_trans (Nat.mul_le_mul (Nat.le_of_lt_succ ha) (Nat.le_of_lt_succ hb)) (by decide)⟩
/-- The texts of which one is drawn. -/
def deskWords : List ByteArray := [⟨#[]⟩, ⟨#[104, 101, 108, 112]⟩, ⟨#[115, 116, 117, 102, 102]⟩, ⟨#[115, 116, 117, 102, 102, 32, 50]⟩, ⟨#[109, 101, 110, 100, 32, 49, 48, 49]⟩, ⟨#[119, 97, 108, 107, 32, 49]⟩, ⟨#[112, 111, 105, 110, 116, 32]⟩, ⟨#[112, 111, 105, 110, 116, 32, 50, 53, 54]⟩, ⟨#[103, 114, 111, 117, 112, 115, 32, 49, 48, 48, 48, 48, 48, 49]⟩, ⟨#[115, 101, 97, 108, 32, 49, 49, 32]⟩, ⟨#[99, 104, 101, 99, 107, 32, 49, 49, 32, 120]⟩, ⟨#[115, 101, 97, 108, 32, 49, 48, 32, 49]⟩, ⟨#[115, 116, 117, 102, 102, 32]⟩]
end Go.Proofs.YtndpbhmokobbpaaGreatDoor

namespace Go.Proofs.YtndpbhmokobbpaaGreatDoor
open Go.RowKit
set_option linter.unusedVariables false

set_option maxRecDepth 20000 in
set_option maxHeartbeats 3200000 in
theorem ddk_any (w : World) (a : Option Addr) (len cap : Nat) (zs : List Int) (h : IsRow .u8 w a len cap zs) :
    Calls Tryz.prog 10 #[.slice a len cap] w fun e w' => ∃ (v : Value) (l : List ByteArray), e = .returned v ∧ OwnT w' (w.heap.size + 1) v l ∧ l.length ≤ 5 ∧ (∀ x ∈ l, x.size ≤ 1000) ∧ Below w.heap.size w w' := by
  have H := Lib.hid (nr_any w a len cap zs h)
  clear h
  go_enter Tryz.func10, Tryz.ntmps10
  go_wp2_with fail
  refine H.out.mono ?_
  rintro e w1 ⟨rfl, hr, hb, hz⟩
  have hot := OwnT.empty w1 (w.heap.size + 1) (by omega)
  have hr2 := hr.alloc (.cells #[] 9)
  have hb2 := hb.alloc (by omega) (.cells #[] 9)
  have hz2 : (w1.alloc (.cells #[] 9)).heap.size = w.heap.size + 2 := by simp; omega
  have HOT := Lib.hid hot
  have HR2 := Lib.hid hr2
  have HB2 := Lib.hid hb2
  clear H hr hb hot hr2 hb2
  go_upto_region 3 with fail
  generalize hq1 : w1.heap.size = q1 at *
  generalize w1.alloc (.cells #[] 9) = wo at *
  have hgl := HR2.out.lt
  subst hz
  clear hq1 hz2
  go_wp2_with fail
  refine (one_any (HR2.out.alloc _) (by omega) wo.heap.size 4 4 [4, 5, 2, 0] rfl (by omega) (by omega) (by omega) (new_ints wo [4, 5, 2, 0] _)).mono ?_
  rintro e w3 ⟨x, m, rfl, hx, hw3⟩
  have hr3 : Rd w.heap.size w3 w.heap.size 1 := by rw [hw3]; exact (HR2.out.alloc _).picked m
  have hb3 : Below w.heap.size w w3 := by rw [hw3]; exact (HB2.out.alloc (by omega) _).trans (picked_below (HR2.out.alloc _) m)
  have ho3 : OwnT w3 (w.heap.size + 1) (.slice (some ⟨w.heap.size + 1, 0, none⟩) 0 0) [] := by rw [hw3]; exact (HOT.out.alloc _).picked (by omega)
  have HR3 := Lib.hid hr3
  have HB3 := Lib.hid hb3
  have HO3 := Lib.hid ho3
  obtain ⟨k, rfl, hk⟩ : ∃ k : Nat, x = k ∧ k ≤ 5 := by
    simp only [List.mem_cons, List.not_mem_nil, or_false] at hx
    exact ⟨x.toNat, by omega, by omega⟩
  clear hw3 hx hr3 hb3 ho3 HR2 HB2 HOT hgl
  go_wp2
  go_loopw [4, 5] (fun lv kv wr => ∃ (l : List ByteArray) (q k : Nat), kv = .int .i64 k ∧ k + l.length ≤ 5 ∧ Hid (OwnT wr (w.heap.size + 1) lv l) ∧ Hid (Rd w.heap.size wr w.heap.size q) ∧ q ≤ 300 * l.length + 1 ∧ Hid (∀ x ∈ l, x.size ≤ 1000) ∧ Hid (Below w.heap.size w wr)) (fun _ kv _ => (intOf kv).toNat)
  case atStart => exact ⟨[], 1, k, rfl, by simpa using hk, Lib.hid HO3.out, Lib.hid HR3.out, by simp, Lib.hid (by simp), Lib.hid HB3.out⟩
  case round =>
    clear HO3 HR3 HB3
    obtain ⟨l, q, k, rfl, hkl, HO, HR, hq, HX, HB⟩ := hrel
    obtain ⟨A, c, hvf⟩ := HO.out.form
    subst hvf
    have hgl := HR.out.lt
    have hl5 : l.length ≤ 5 := by omega
    by_cases hk0 : 0 < k
    · have hki : (0 : Int) < (k : Int) := by omega
      have H0 := Lib.hid (Rk.start HR.out)
      go_wp2_with fail
      refine (sbk_any HR.out (by omega) 12 (by omega)).mono ?_
      rintro e w4 ⟨tx, q4, rfl, htx, hrk4, hq4⟩
      have H4 := Lib.hid hrk4
      have htl := some_le htx
      have hz4 := hrk4.k.size
      generalize ByteArray.mk tx.toArray = T4 at *
      clear hrk4 htx
      go_wp2_with fail
      refine (pick_any H4.out.r (by omega) 6 (by omega) (by omega)).mono ?_
      rintro e w5 ⟨c5, m, rfl, hc5, hw5⟩
      have hrk5 : Rk w.heap.size wr.heap.size wr w.heap.size (q4 + 1) w5 := by rw [hw5]; exact H4.out.picked m
      have H5 := Lib.hid hrk5
      have hz5 := hrk5.k.size
      have hs0 : (ByteArray.mk #[115, 116, 117, 102, 102, 32] ++ T4).size ≤ 6 + 53 := app_le (by decide) htl
      clear hw5 hrk5
      go_upto_block 2 with fail
      go_cut [6, 7] from 14 to 84 (fun lv pv wx => ∃ (T : ByteArray) (q6 : Nat), lv = .string T ∧ T.size ≤ 200 ∧ Hid (Rk w.heap.size wr.heap.size wr w.heap.size q6 wx) ∧ q6 ≤ q + 250)
      case first =>
        clear HO HR HX HB
        rcases (show c5 = 0 ∨ c5 = 1 ∨ c5 = 2 ∨ c5 = 3 ∨ c5 = 4 ∨ c5 = 5 from by omega) with rfl | rfl | rfl | rfl | rfl | rfl
        · go_wp2_with fail
          refine (apk_any H5.out.r (by omega)).mono ?_
          rintro e w6 ⟨pt, q6, rfl, hpt, hrk6, hq6⟩
          have H6 := Lib.hid (H5.out.trans hrk6 hz5)
          have hz6 := H6.out.k.size
          clear hrk6
          go_wp2_with fail
          refine (sbk_any H6.out.r (by omega) 12 (by omega)).mono ?_
          rintro e w7 ⟨t7, q7, rfl, ht7, hrk7, hq7⟩
          have H7 := Lib.hid (H6.out.trans hrk7 hz6)
          have hl7 := some_le ht7
          generalize ByteArray.mk t7.toArray = T7 at *
          clear hrk7 ht7
          go_wp2_with fail
          go_meet
          case rel => exact ⟨_, q7, rfl, Nat.le_trans (app_le (app_le (app_le (m := 5) (by decide) hpt) (n := 1) (by decide)) hl7) (by omega), Lib.hid H7.out, by omega⟩
        · go_wp2_with fail
          refine (apk_any H5.out.r (by omega)).mono ?_
          rintro e w6 ⟨pt, q6, rfl, hpt, hrk6, hq6⟩
          have H6 := Lib.hid (H5.out.trans hrk6 hz5)
          have hz6 := H6.out.k.size
          clear hrk6
          go_wp2_with fail
          refine (sbk_any H6.out.r (by omega) 12 (by omega)).mono ?_
          rintro e w7 ⟨t7, q7, rfl, ht7, hrk7, hq7⟩
          have H7 := Lib.hid (H6.out.trans hrk7 hz6)
          have hl7 := some_le ht7
          generalize ByteArray.mk t7.toArray = T7 at *
          clear hrk7 ht7
          go_wp2_with fail
          refine (sSE_any pt T7 _ (by omega) (by omega)).mono ?_
          rintro e w8 ⟨rfl, m8, hw8⟩
          have H8 : Hid (Rk w.heap.size wr.heap.size wr w.heap.size q7 w8) := Lib.hid (by rw [hw8]; exact H7.out.drewN m8)
          have hs8 : (⟨(sealR pt.data.toList T7.data.toList).toArray⟩ : ByteArray).size ≤ 48 := seal48 _ _
          generalize (⟨(sealR pt.data.toList T7.data.toList).toArray⟩ : ByteArray) = T8 at *
          clear hw8
          go_wp2_with fail
          go_meet
          case rel => exact ⟨_, q7, rfl, Nat.le_trans (app_le (app_le (app_le (m := 6) (by decide) hpt) (n := 1) (by decide)) hs8) (by omega), Lib.hid H8.out, by omega⟩
        · go_wp2_with fail
          refine (gdc_any _).mono ?_
          rintro e w6 ⟨rfl, hb6⟩
          have H6 := Lib.hid (H5.out.below hz5 hb6)
          have hs6 : (⟨(gd7 fun k => [49, 48, 49, 49].getD k 0).toArray⟩ : ByteArray).size ≤ 7 := Nat.le_refl 7
          generalize (⟨(gd7 fun k => [49, 48, 49, 49].getD k 0).toArray⟩ : ByteArray) = T6 at *
          clear hb6
          go_wp2_with fail
          go_meet
          case rel => exact ⟨_, q4 + 1, rfl, by first | exact Nat.le_trans (app_le (app_le (m := 5) (by decide) hs6) (n := 0) (by decide)) (by omega) | exact Nat.le_trans (app_le (m := 5) (by decide) hs6) (by omega), Lib.hid H6.out, by omega⟩
        · go_wp2_with fail
          refine (pick_any H5.out.r (by omega) 3 (by omega) (by omega)).mono ?_
          rintro e w6 ⟨a6, m6, rfl, ha6, hw6⟩
          have H6 : Hid (Rk w.heap.size wr.heap.size wr w.heap.size (q4 + 1 + 1) w6) := Lib.hid (by rw [hw6]; exact H5.out.picked m6)
          clear hw6
          go_wp2_with fail
          refine (pick_any H6.out.r (by omega) 256 (by omega) (by omega)).mono ?_
          rintro e w7 ⟨b7, m7, rfl, hb7, hw7⟩
          have H7 : Hid (Rk w.heap.size wr.heap.size wr w.heap.size (q4 + 1 + 1 + 1) w7) := Lib.hid (by rw [hw7]; exact H6.out.picked m7)
          have hz7 := H7.out.k.size
          clear hw7
          go_wp2_with fail
          refine (sEB_any _ _ [(a6 : Int), (b7 : Int), 0] (rds_three w7 a6 b7) (by simp)).mono ?_
          rintro e w8 ⟨u8, rfl, ho8, hb8⟩
          have H8 := Lib.hid ((H7.out.alloc hz7 _).below (by simp; omega) hb8)
          obtain ⟨x8, y8, r8, he8, hx8, hy8, hr8⟩ := escR_two (a6 : Int) (b7 : Int) (by omega) (by omega)
          rw [he8] at ho8
          obtain ⟨g8, c8, hv8, hc8⟩ := own_at ho8 (by simp)
          subst hv8
          have hR8 := rds_two (d := c8) (OwnL.rds ho8)
          have HL := Lib.hid (slt_any w8 _ [x8, y8] hR8 (by simp) (by intro x hx; simp only [List.mem_cons, List.not_mem_nil, or_false] at hx; rcases hx with rfl | rfl; exact hx8; exact hy8))
          have hlt8 : (mkT (ltx [x8, y8])).size ≤ 43 := ltx_two x8 y8 hx8 hy8
          have n2 : 2 ≤ (x8 :: y8 :: r8).length := by simp
          have n3 : 2 ≤ c8 := by omega
          generalize (x8 :: y8 :: r8).length = n8 at *
          generalize mkT (ltx [x8, y8]) = T8 at *
          have i1 : (2 : Int) ≤ (c8 : Int) := by omega
          have i2 : (2 : Int) ≤ (n8 : Int) := by omega
          clear ho8 hb8 hR8 he8 hx8 hy8 hr8
          go_wp2_with (go_at_call 21; refine HL.out.mono ?_; rintro e w9 ⟨rfl, rfl⟩)
          go_meet
          case rel => exact ⟨_, q4 + 1 + 1 + 1, rfl, Nat.le_trans (app_le (m := 6) (by decide) hlt8) (by omega), Lib.hid H8.out, by omega⟩
        · go_wp2_with fail
          refine (pick_any H5.out.r (by omega) 256 (by omega) (by omega)).mono ?_
          rintro e w6 ⟨a6, m6, rfl, ha6, hw6⟩
          have H6 : Hid (Rk w.heap.size wr.heap.size wr w.heap.size (q4 + 1 + 1) w6) := Lib.hid (by rw [hw6]; exact H5.out.picked m6)
          clear hw6
          go_wp2_with fail
          refine (pick_any H6.out.r (by omega) 256 (by omega) (by omega)).mono ?_
          rintro e w7 ⟨b7, m7, rfl, hb7, hw7⟩
          have H7 : Hid (Rk w.heap.size wr.heap.size wr w.heap.size (q4 + 1 + 1 + 1) w7) := Lib.hid (by rw [hw7]; exact H6.out.picked m7)
          clear hw7
          obtain ⟨n7, hn7, hn8⟩ := mul_nat (a := a6) (b := b7) (by omega) (by omega)
          have q8 : IntKind.i64.wrap ((a6 : Int) * (b7 : Int)) = (n7 : Int) := by rw [hn7]; exact IntWalk.i64_in _ (by omega)
          have q9 : IntKind.i64.wrap (n7 : Int) = (n7 : Int) := IntWalk.i64_in _ (by omega)
          have HN := Lib.hid (fun W => num_any n7 (by omega) W)
          have hdl : (dT n7).size ≤ 21 := dd20 (by omega)
          generalize dT n7 = T8 at *
          go_wp2_with fail
          refine (HN.out _).mono ?_
          rintro e w8 ⟨rfl, rfl⟩
          go_wp2_with fail
          go_meet
          case rel => exact ⟨_, q4 + 1 + 1 + 1, rfl, Nat.le_trans (app_le (m := 7) (by decide) hdl) (by omega), Lib.hid H7.out, by omega⟩
        · go_wp2_with fail
          go_meet
          case rel => exact ⟨_, q4 + 1, rfl, by omega, Lib.hid H5.out, by omega⟩
      case rest =>
        obtain ⟨T, q6, rfl, hT, H6, hq6⟩ := hcut
        clear H0 H4 H5 htl hz4 hz5 hs0 hc5
        go_wp2_with fail
        refine (pick_any H6.out.r (by omega) 8 (by omega) (by omega)).mono ?_
        rintro e w7 ⟨c7, m7, rfl, hc7, hw7⟩
        have H7 : Hid (Rk w.heap.size wr.heap.size wr w.heap.size (q6 + 1) w7) := Lib.hid (by rw [hw7]; exact H6.out.picked m7)
        have hz7 := H7.out.k.size
        clear hw7 H6
        rcases (show c7 = 0 ∨ c7 = 1 ∨ 2 ≤ c7 from by omega) with rfl | rfl | hc2
        · go_wp2_with fail
          refine (of_any (H7.out.r.alloc _) (by omega) w7.heap.size 13 13 deskWords rfl (by omega) (by omega) (by have := H7.out.lt; omega) (new_strs w7 deskWords _)).mono ?_
          rintro e w8 ⟨x8, m8, rfl, hx8, hw8⟩
          have H8 : Hid (Rk w.heap.size wr.heap.size wr w.heap.size (q6 + 1 + 1) w8) := Lib.hid (by rw [hw8]; exact (H7.out.alloc hz7 _).picked m8)
          have hxl := mem_size (n := 14) (by decide +kernel) hx8
          clear hw8 hx8 H7 hz7
          have hzt := H8.out.k.size
          have HOt := Lib.hid (OwnT.kps HO.out H8.out.k (by omega) (Nat.le_refl _))
          have hbt : ∀ x ∈ l ++ [x8], x.size ≤ 1000 := by
            intro x hx
            rcases List.mem_append.1 hx with hx | hx
            · exact HX.out x hx
            · have : x = x8 := by simpa using hx
              rw [this]; omega
          have HXt := Lib.hid hbt
          have HBt := Lib.hid (HB.out.trans H8.out.b)
          have HRt := Lib.hid H8.out.r
          clear hbt HX HB H8 HO HR
          go_wp2_with (at_builtin; go_loud (refine append_oneT rfl (.tmp 81) (.tmp 83) rfl (w.heap.size + 1) _ l x8 rfl rfl HOt.out (by omega) (by omega) ?_); intro A9 c9 w9 hown9 hg9 hb9 hz9)
          have HR9 := Lib.hid (HRt.out.keep (hb9.mono (by omega)) (hb9.block w.heap.size (by omega)))
          have HB9 := Lib.hid (HBt.out.trans (hb9.mono (by omega)))
          have HO9 := Lib.hid hown9
          clear hg9 hb9 hown9 HRt HBt HOt
          go_wp2
          go_roundw
          case rel => exact ⟨l ++ [x8], q6 + 1 + 1, k - 1, by go_num, by simp; omega, Lib.hid (by have := HO9.out; simpa [OwnT] using this), HR9, by simp; omega, HXt, HB9⟩
          case measure => simp [intOf]; omega
        · go_wp2_with fail
          refine (mutk_any H7.out.r (by omega) T (by omega)).mono ?_
          rintro e w8 ⟨t8, q8, rfl, ht8, hrk8, hq8⟩
          have H8 := Lib.hid (H7.out.trans hrk8 hz7)
          clear hrk8 H7 hz7
          have hzt := H8.out.k.size
          have HOt := Lib.hid (OwnT.kps HO.out H8.out.k (by omega) (Nat.le_refl _))
          have hbt : ∀ x ∈ l ++ [t8], x.size ≤ 1000 := by
            intro x hx
            rcases List.mem_append.1 hx with hx | hx
            · exact HX.out x hx
            · have : x = t8 := by simpa using hx
              rw [this]; omega
          have HXt := Lib.hid hbt
          have HBt := Lib.hid (HB.out.trans H8.out.b)
          have HRt := Lib.hid H8.out.r
          clear hbt HX HB H8 HO HR
          go_wp2_with (at_builtin; go_loud (refine append_oneT rfl (.tmp 81) (.tmp 83) rfl (w.heap.size + 1) _ l t8 rfl rfl HOt.out (by omega) (by omega) ?_); intro A9 c9 w9 hown9 hg9 hb9 hz9)
          have HR9 := Lib.hid (HRt.out.keep (hb9.mono (by omega)) (hb9.block w.heap.size (by omega)))
          have HB9 := Lib.hid (HBt.out.trans (hb9.mono (by omega)))
          have HO9 := Lib.hid hown9
          clear hg9 hb9 hown9 HRt HBt HOt
          go_wp2
          go_roundw
          case rel => exact ⟨l ++ [t8], q8, k - 1, by go_num, by simp; omega, Lib.hid (by have := HO9.out; simpa [OwnT] using this), HR9, by simp; omega, HXt, HB9⟩
          case measure => simp [intOf]; omega
        · have e0 : ((c7 : Int) == 0) = false := by rw [beq_eq_false_iff_ne]; omega
          have e1 : ((c7 : Int) == 1) = false := by rw [beq_eq_false_iff_ne]; omega
          clear hz7
          have hzt := H7.out.k.size
          have HOt := Lib.hid (OwnT.kps HO.out H7.out.k (by omega) (Nat.le_refl _))
          have hbt : ∀ x ∈ l ++ [T], x.size ≤ 1000 := by
            intro x hx
            rcases List.mem_append.1 hx with hx | hx
            · exact HX.out x hx
            · have : x = T := by simpa using hx
              rw [this]; omega
          have HXt := Lib.hid hbt
          have HBt := Lib.hid (HB.out.trans H7.out.b)
          have HRt := Lib.hid H7.out.r
          clear hbt HX HB H7 HO HR
          go_wp2_with (at_builtin; go_loud (refine append_oneT rfl (.tmp 81) (.tmp 83) rfl (w.heap.size + 1) _ l T rfl rfl HOt.out (by omega) (by omega) ?_); intro A9 c9 w9 hown9 hg9 hb9 hz9)
          have HR9 := Lib.hid (HRt.out.keep (hb9.mono (by omega)) (hb9.block w.heap.size (by omega)))
          have HB9 := Lib.hid (HBt.out.trans (hb9.mono (by omega)))
          have HO9 := Lib.hid hown9
          clear hg9 hb9 hown9 HRt HBt HOt
          go_wp2
          go_roundw
          case rel => exact ⟨l ++ [T], q6 + 1, k - 1, by go_num, by simp; omega, Lib.hid (by have := HO9.out; simpa [OwnT] using this), HR9, by simp; omega, HXt, HB9⟩
          case measure => simp [intOf]; omega
    · have hke : k = 0 := by omega
      subst hke
      go_wp2
      go_ret
      exact ⟨_, l, rfl, HO.out, hl5, HX.out, HB.out⟩
end Go.Proofs.YtndpbhmokobbpaaGreatDoor
