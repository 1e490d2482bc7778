/-
  The walk of what draws an offer. Conditions: where the reader lies, and the bounds that are typed.
-/
import Derived.Test.YtgoafhmmaepcjaaWano
import Derived.Deep.CutRange
namespace Go.Proofs.Ytgoafhmmaepcjaa
open Go.RowKit
set_option linter.unusedVariables false

/-- How many needs the offer at a block has. -/
def nedW (q : Nat) (w : World) : Nat := match w.cell? ⟨q, 3, none⟩ with
  | some (.slice _ n _) => n
  | _ => 0
theorem nedW_eq {q n c : Nat} {A : Option Addr} {w : World} (h : w.cell? ⟨q, 3, none⟩ = some (.slice A n c)) : nedW q w = n := by unfold nedW; rw [h]

set_option maxRecDepth 50000 in
set_option maxHeartbeats 12800000 in
theorem ano_any {B : Nat} {w : World} {g p : Nat} (h : Rd B w g p) (hp : p ≤ 800000) :
    Calls Try.prog 38 #[.pointer (some ⟨g, 0, none⟩)] w (AofPost B w g p) := by
  have hgl := h.lt
  have hBg := h.1
  have HW := Lib.hid (World.ownsRow_made (base := w.heap.size) (e := 3) (size := 1) w #[] 0 (Nat.le_refl _) (by unfold maxLen; omega) rfl)
  have hr0 := h.alloc (.cells #[.int .i64 0, .int .i64 0, .int .i64 0, .slice none 0 0] 34)
  have hb0 := (BK.refl g (w := w) (B := B) (by omega)).alloc (.cells #[.int .i64 0, .int .i64 0, .int .i64 0, .slice none 0 0] 34)
  have k0 : Blk (w.alloc (.cells #[.int .i64 0, .int .i64 0, .int .i64 0, .slice none 0 0] 34)) w.heap.size 34 (ob 0 0 0 (.slice none 0 0)) := Blk.new w 34 #[.int .i64 0, .int .i64 0, .int .i64 0, .slice none 0 0]
  have z0 : (w.alloc (.cells #[.int .i64 0, .int .i64 0, .int .i64 0, .slice none 0 0] 34)).heap.size = w.heap.size + 1 := World.size_alloc _ _
  have HR0 := Lib.hid hr0
  have HB0 := Lib.hid hb0
  have HK0 := Lib.hid k0
  have HZ0 := Lib.hid z0
  clear h hr0 hb0 k0 z0
  go_enter Try.func38, Try.ntmps38
  go_upto_region 1 with fail
  generalize w.alloc (.cells #[.int .i64 0, .int .i64 0, .int .i64 0, .slice none 0 0] 34) = w1 at *
  go_wp2_with fail
  refine (pick_any HR0.out (by omega) 6 (by omega) (by omega)).mono ?_
  rintro e w2 ⟨lo, m2, rfl, hlo, hw2⟩
  have HR2 : Hid (Rd B w2 g (p + 1)) := Lib.hid (by rw [hw2]; exact HR0.out.picked m2)
  have HB2 : Hid (BK B g w w2) := Lib.hid (by rw [hw2]; exact HB0.out.picked HR0.out m2)
  have HK2 : Hid (Keeps g w1 w2) := Lib.hid (by rw [hw2]; exact (Keeps.refl g w1).picked)
  have HZ2 : Hid (w2.heap.size = w1.heap.size) := Lib.hid (by rw [hw2]; exact picked_size _ _ _ _)
  clear hw2
  go_wp2_with fail
  refine (pick_any HR2.out (by omega) 32 (by omega) (by omega)).mono ?_
  rintro e w3 ⟨c1, m3, rfl, hc1, hw3⟩
  have HR3 : Hid (Rd B w3 g (p + 1 + 1)) := Lib.hid (by rw [hw3]; exact HR2.out.picked m3)
  have HB3 : Hid (BK B g w w3) := Lib.hid (by rw [hw3]; exact HB2.out.picked HR2.out m3)
  have HK3 : Hid (Keeps g w1 w3) := Lib.hid (by rw [hw3]; exact HK2.out.picked)
  have HZ3 : Hid (w3.heap.size = w1.heap.size) := Lib.hid (by rw [hw3, picked_size]; exact HZ2.out)
  clear hw3
  go_wp2_with fail
  refine (pick_any HR3.out (by omega) 32 (by omega) (by omega)).mono ?_
  rintro e w4 ⟨c2, m4, rfl, hc2, hw4⟩
  have HR4 : Hid (Rd B w4 g (p + 1 + 1 + 1)) := Lib.hid (by rw [hw4]; exact HR3.out.picked m4)
  have HB4 : Hid (BK B g w w4) := Lib.hid (by rw [hw4]; exact HB3.out.picked HR3.out m4)
  have HK4 : Hid (Keeps g w1 w4) := Lib.hid (by rw [hw4]; exact HK3.out.picked)
  have HZ4 : Hid (w4.heap.size = w1.heap.size) := Lib.hid (by rw [hw4, picked_size]; exact HZ3.out)
  clear hw4 HR0 HB0 HR2 HB2 HK2 HZ2 HR3 HB3 HK3 HZ3
  go_upto_region 2 with fail
  generalize bits BinOp.or IntKind.i64 (c1 : Int) (c2 : Int) = ca at *
  have hlo0 : (0 : Int) ≤ (lo : Int) := by omega
  have hq : w4.heap.size ≠ w.heap.size := by rw [HZ4.out, HZ0.out]; omega
  have hq2 : w.heap.size ≤ w4.heap.size := by rw [HZ4.out, HZ0.out]; omega
  generalize (lo : Int) = L at *
  have H5 : Hid (Ao B w g w.heap.size w4.heap.size (w4.alloc (.cells #[.int .i64 L, .int .i64 0, .int .i64 ca, .slice none 0 0] 34)) L 0 ca (.slice none 0 0) [] (p + 1 + 1 + 1)) :=
    Lib.hid ⟨HR4.out.alloc _, HB4.out.alloc _, ((HK4.out.alloc _).k w.heap.size (by rw [HZ0.out]; omega) (by omega)).trans HK0.out, Blk.new w4 34 #[.int .i64 L, .int .i64 0, .int .i64 ca, .slice none 0 0], OwnL.nil _ _, Nat.le_refl _, hq2, fun e => hq e.symm, hgl⟩
  clear HR4 HB4 HK0 HK4 HZ0 HZ4 hq hq2
  generalize w4.alloc (.cells #[.int .i64 L, .int .i64 0, .int .i64 ca, .slice none 0 0] 34) = w5 at *
  generalize w4.heap.size = q3 at *
  go_cut [] from 12 (fun wx => ∃ hi : Int, Hid (Ao B w g w.heap.size q3 wx L hi ca (.slice none 0 0) [] (p + 1 + 1 + 1 + 1)))
  case first =>
    obtain ⟨d0, d1, d2, d3, df⟩ := H5.out.c3
    have f1 := df 1
    go_region_law (first
      | (go_simp; go_at_call 32; refine (pick_any H5.out.drew.rd (by omega) 8 (by omega) (by omega)).mono ?_; rintro e w6 ⟨x, m6, rfl, hx, hw6⟩; have H6 : Hid (Ao B w g w.heap.size q3 w6 L 0 ca (.slice none 0 0) [] (p + 1 + 1 + 1 + 1)) := Lib.hid (by rw [hw6]; exact H5.out.drew.picked m6); obtain ⟨e0, e1, e2, e3, ef⟩ := H6.out.c3; have f2 := ef 1; clear hw6 hx))
    all_goals go_wp2_with fail
    all_goals
      go_meet
      case rel => exact ⟨_, Lib.hid (H6.out.setN 1 _ L _ ca rfl)⟩
  case rest =>
    obtain ⟨hi, H6⟩ := hcut
    clear H5
    go_wp2
    go_loopw [] (fun wr => ∃ (v : Value) (xs : List Int) (q : Nat), Hid (Ao B w g w.heap.size q3 wr L hi ca v xs q) ∧ xs.length ≤ 5 ∧ q ≤ p + 4 + 4 * xs.length) (fun wr => 5 - nedW q3 wr)
    case atStart => exact ⟨_, [], _, Lib.hid H6.out, by simp, by simp⟩
    case round =>
      obtain ⟨v, xs, q, HA, hx5, hq⟩ := hrel
      obtain ⟨A, c, hvf⟩ := own_form HA.out.own
      subst hvf
      obtain ⟨d0, d1, d2, d3, df⟩ := HA.out.c3
      have f3 := df 3
      have hs0 := (Array.getElem?_eq_some_iff.1 HA.out.z3).1
      have hned := nedW_eq d3
      clear H6
      by_cases hlt : xs.length < 5
      · have H0 : Hid (Ao B w g w.heap.size q3 wr.drew L hi ca (.slice A xs.length c) xs q) := Lib.hid HA.out.drew
        go_upto_region 4 with fail
        go_region_law (first
            | (refine step_append_int rfl (.tmp 23) (.tmp 37) rfl w.heap.size (.slice A xs.length c) xs z (by simp [Act.eval, Act.put]) (by simp [Act.eval, Act.put]) H7.out.own (by omega) (Nat.le_trans H7.out.l3 (Nat.le_of_lt hs7)) ?_; intro v9 w9 ho9 hg9; obtain ⟨A9, c9, hf9⟩ := own_form ho9; obtain ⟨n9, hn9⟩ : ∃ n9, n9 = (xs ++ [z]).length := ⟨_, rfl⟩; rw [← hn9] at hf9; subst hf9; have HN9 := Lib.hid hn9; clear hn9; obtain ⟨H9, k9⟩ := (H7.out.alloc _).append hg9 ho9; have H9 := Lib.hid H9; have e9 : w9.cell? ⟨q3, 3, none⟩ = some (.slice A xs.length c) := k9.cell 3; have f9 := k9.frozen 3; clear ho9 hg9 k9)
            | (go_simp; first
              | (go_at_call 31; refine (one_any (H3.out.alloc _).rd (by omega) w3.heap.size 4 4 [0, 0, p2 y1, bits BinOp.or IntKind.i64 (p2 y2) (p2 y3)] rfl (by omega) (by omega) (by omega) (new_ints w3 [0, 0, p2 y1, bits BinOp.or IntKind.i64 (p2 y2) (p2 y3)] _)).mono ?_; rintro e w7 ⟨z, m7, rfl, _, hw7⟩; have H7 : Hid (Ao B w g w.heap.size q3 w7 L hi ca (.slice A xs.length c) xs (q + 1 + 1 + 1 + 1)) := Lib.hid (by rw [hw7]; exact (H3.out.alloc _).picked m7); obtain ⟨_, _, _, e7, _⟩ := H7.out.c3; have hs7 := (Array.getElem?_eq_some_iff.1 H7.out.z3).1; clear hw7)
              | (go_at_call 41; refine (spw_any y3 (by omega) _).mono ?_; rintro e w' ⟨rfl, rfl⟩)
              | (go_at_call 41; refine (spw_any y2 (by omega) _).mono ?_; rintro e w' ⟨rfl, rfl⟩)
              | (go_at_call 41; refine (spw_any y1 (by omega) _).mono ?_; rintro e w' ⟨rfl, rfl⟩)
              | (go_at_call 32; refine (pick_any H2.out.rd (by omega) 5 (by omega) (by omega)).mono ?_; rintro e w3 ⟨y3, m3, rfl, hy3, hw3⟩; have H3 : Hid (Ao B w g w.heap.size q3 w3 L hi ca (.slice A xs.length c) xs (q + 1 + 1 + 1)) := Lib.hid (by rw [hw3]; exact H2.out.picked m3); obtain ⟨_, _, _, e3, _⟩ := H3.out.c3; have hs3 := (Array.getElem?_eq_some_iff.1 H3.out.z3).1; have hz3 := H3.out.bk.k.z; clear hw3)
              | (go_at_call 32; refine (pick_any H1.out.rd (by omega) 5 (by omega) (by omega)).mono ?_; rintro e w2 ⟨y2, m2, rfl, hy2, hw2⟩; have H2 : Hid (Ao B w g w.heap.size q3 w2 L hi ca (.slice A xs.length c) xs (q + 1 + 1)) := Lib.hid (by rw [hw2]; exact H1.out.picked m2); obtain ⟨_, _, _, e2, _⟩ := H2.out.c3; have hs2 := (Array.getElem?_eq_some_iff.1 H2.out.z3).1; clear hw2)
              | (go_at_call 32; refine (pick_any H0.out.rd (by omega) 5 (by omega) (by omega)).mono ?_; rintro e w1 ⟨y1, m1, rfl, hy1, hw1⟩; have H1 : Hid (Ao B w g w.heap.size q3 w1 L hi ca (.slice A xs.length c) xs (q + 1)) := Lib.hid (by rw [hw1]; exact H0.out.picked m1); obtain ⟨_, _, _, e1, _⟩ := H1.out.c3; have hs1 := (Array.getElem?_eq_some_iff.1 H1.out.z3).1; clear hw1)))
        all_goals
          have hm9 := nedW_eq H9.out.c3.2.2.2.1
          clear e9 f9
          go_wp2
          go_roundw
          case rel => exact ⟨_, xs ++ [z], q + 1 + 1 + 1 + 1, Lib.hid H9.out, by simp; omega, by simp; omega⟩
          case measure => rw [hm9, hned]; have := HN9.out; simp at this; omega
      · have hl5 : xs.length = 5 := by omega
        have HX5 := Lib.hid hl5
        have hq24 : q ≤ p + 24 := by omega
        rw [hl5] at HA
        clear hned d0 d1 d2 df f3
        go_wp2_with fail
        clear hl5 hlt hx5
        refine (pick_any HA.out.rd (by omega) 30 (by omega) (by omega)).mono ?_
        rintro e w2 ⟨k, m2, rfl, hk, hw2⟩
        have H2 : Hid (Ao B w g w.heap.size q3 w2 L hi ca (.slice A 5 c) xs (q + 1)) := Lib.hid (by rw [hw2]; exact HA.out.picked m2)
        have hz2 := H2.out.bk.k.z
        obtain ⟨e0, e1, e2, e3, ef⟩ := H2.out.c3
        clear hw2 HA d3
        by_cases hk0 : k = 0
        · subst hk0
          have hwl : IntKind.i64.wrap (L - 1) = L - 1 := IntWalk.i64_in _ (by omega)
          go_wp2_with fail
          refine (one_any (H2.out.alloc _).rd (by omega) w2.heap.size 2 2 [L - 1, 21] rfl (by omega) (by omega) (by omega) (new_ints w2 [L - 1, 21] _)).mono ?_
          rintro e w3 ⟨x, m3, rfl, _, hw3⟩
          have H3 : Hid (Ao B w g w.heap.size q3 w3 L hi ca (.slice A 5 c) xs (q + 1 + 1)) := Lib.hid (by rw [hw3]; exact (H2.out.alloc _).picked m3)
          obtain ⟨d0, d1, d2, d3, df⟩ := H3.out.c3
          have f1 := df 1
          have HF := Lib.hid (H3.out.setN 1 x L x ca rfl).af
          clear hw3 H2 H3 e0 e1 e2 e3 ef d0 d2 d3 df
          go_upto_region 12 with fail
          generalize w3.setCell ⟨q3, 1, none⟩ (.int .i64 x) = w4 at *
          obtain ⟨a0, a1, a2, a3⟩ := HF.out.c3
          obtain ⟨b0, b1, b2, b3, bf⟩ := HF.out.c2
          have g0 := bf 0
          have g1 := bf 1
          have g2 := bf 2
          have g3 := bf 3
          go_wp2
          exact bodyPost_ret (results_cell_row (p := 2) (ty := 34) rfl _ _ w.heap.size 34 (ob L x ca (.slice A 5 c)) (0, 0) _ rfl (fin4_blk HF.out.z2 _ _ _ _) Try.underlying34 rfl (by kernel_rfl)) rfl (HF.out.post HX5.out.symm (by have := HX5.out; omega) (by omega))
        · by_cases hk1 : k = 1
          · subst hk1
            obtain ⟨b, cb, hbe, hc5⟩ : ∃ b cb, (Value.slice A 5 c) = .slice (some ⟨b, 0, none⟩) 5 cb ∧ 5 ≤ cb := by
              rcases H2.out.own.2 with ⟨_, h0⟩ | ⟨bb, cap, cur, hv, _, _, hn, _⟩
              · rw [HX5.out] at h0; omega
              · have := HX5.out
                injection hv with e1 e2 e3
                exact ⟨bb, cap, by rw [e1, e3], by omega⟩
            injection hbe with e1' _ e3'
            subst e1'; subst e3'
            have f3 := ef 3
            have HF := Lib.hid (H2.out.cut HX5.out (c - 1))
            have hcn : c ≠ 1 := by omega
            have hx4 : 4 = (xs.drop 1).length := by rw [List.length_drop, HX5.out]
            have HX4 := Lib.hid hx4
            clear H2 e0 e1 e2 ef hx4
            go_upto_region 12 with fail
            generalize w2.setCell ⟨q3, 3, none⟩ (.slice (some ⟨b, 1, none⟩) 4 (c - 1)) = w4 at *
            obtain ⟨a0, a1, a2, a3⟩ := HF.out.c3
            obtain ⟨b0, b1, b2, b3, bf⟩ := HF.out.c2
            have g0 := bf 0
            have g1 := bf 1
            have g2 := bf 2
            have g3 := bf 3
            go_wp2
            exact bodyPost_ret (results_cell_row (p := 2) (ty := 34) rfl _ _ w.heap.size 34 (ob L hi ca (.slice (some ⟨b, 1, none⟩) 4 (c - 1))) (0, 0) _ rfl (fin4_blk HF.out.z2 _ _ _ _) Try.underlying34 rfl (by kernel_rfl)) rfl (HF.out.post HX4.out (by have := HX4.out; omega) (by omega))
          · by_cases hk2 : k = 2
            · subst hk2
              have f2 := ef 2
              have HF := Lib.hid (H2.out.setN 2 32 L hi 32 rfl).af
              clear H2 e0 e1 e3 ef
              go_upto_region 12 with fail
              generalize w2.setCell ⟨q3, 2, none⟩ (.int .i64 32) = w4 at *
              obtain ⟨a0, a1, a2, a3⟩ := HF.out.c3
              obtain ⟨b0, b1, b2, b3, bf⟩ := HF.out.c2
              have g0 := bf 0
              have g1 := bf 1
              have g2 := bf 2
              have g3 := bf 3
              go_wp2
              exact bodyPost_ret (results_cell_row (p := 2) (ty := 34) rfl _ _ w.heap.size 34 (ob L hi 32 (.slice A 5 c)) (0, 0) _ rfl (fin4_blk HF.out.z2 _ _ _ _) Try.underlying34 rfl (by kernel_rfl)) rfl (HF.out.post HX5.out.symm (by have := HX5.out; omega) (by omega))
            · have x0 : ((k : Int) == 0) = false := by simp; omega
              have x1 : ((k : Int) == 1) = false := by simp; omega
              have x2 : ((k : Int) == 2) = false := by simp; omega
              have HF := Lib.hid H2.out.af
              clear H2 e0 e1 e2 e3 ef
              go_upto_region 12 with fail
              obtain ⟨a0, a1, a2, a3⟩ := HF.out.c3
              obtain ⟨b0, b1, b2, b3, bf⟩ := HF.out.c2
              have g0 := bf 0
              have g1 := bf 1
              have g2 := bf 2
              have g3 := bf 3
              go_wp2
              exact bodyPost_ret (results_cell_row (p := 2) (ty := 34) rfl _ _ w.heap.size 34 (ob L hi ca (.slice A 5 c)) (0, 0) _ rfl (fin4_blk HF.out.z2 _ _ _ _) Try.underlying34 rfl (by kernel_rfl)) rfl (HF.out.post HX5.out.symm (by have := HX5.out; omega) (by omega))
end Go.Proofs.Ytgoafhmmaepcjaa
