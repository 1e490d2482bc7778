/-
  The walk of what draws flows. Conditions: where the reader lies, and the bounds that are typed.
-/
import Derived.Test.YtnghpipkdodgiaaWiss
import Derived.Test.YtnghpipkdodgiaaWsomy
namespace Go.Proofs.Ytnghpipkdodgiaa
open Go.RowKit
set_option linter.unusedVariables false

/-- Two rows of unlike elements lie in two blocks. -/
theorem own_apart {w : World} {B B' e e' n n' : Nat} {v v' : Value} {xs ys : List Value} (h : w.ownsRow B e 1 v n xs) (h' : w.ownsRow B' e' 1 v' n' ys) (he : e ≠ e') : v.ownBlock = none ∨ v.ownBlock ≠ v'.ownBlock := by
  rcases h.2 with ⟨rfl, _⟩ | ⟨g, cap, cur, rfl, _, hg, _⟩
  · exact .inl rfl
  · right
    rcases h'.2 with ⟨rfl, _⟩ | ⟨g', cap', cur', rfl, _, hg', _⟩
    · intro h; cases h
    · intro h
      have e1 : g = g' := by simpa [Value.ownBlock] using h
      subst e1
      rw [hg] at hg'
      injection hg' with h1
      injection h1 with _ h2
      exact he h2
/-- What lies below T stays, but for block g. -/
structure Kps (g T : Nat) (wa wb : World) : Prop where
  size : wa.heap.size ≤ wb.heap.size
  block : ∀ j, j < T → j ≠ g → wb.heap[j]? = wa.heap[j]?
theorem Kps.refl (g T : Nat) (w : World) : Kps g T w w := ⟨Nat.le_refl _, fun _ _ _ => rfl⟩
theorem Kps.alloc {g T : Nat} {wa wb : World} (h : Kps g T wa wb) (hT : T ≤ wb.heap.size) (o : Obj) : Kps g T wa (wb.alloc o) :=
  ⟨by have := h.size; simp; omega, fun j hj hn => (Below.heap_alloc wb o j (by omega)).trans (h.block j hj hn)⟩
theorem Kps.picked {g T p m : Nat} {wa wb : World} (h : Kps g T wa wb) : Kps g T wa (picked wb g p m) :=
  ⟨by rw [picked_size]; exact h.size, fun j hj hn => (picked_other wb g p m j hn).trans (h.block j hj hn)⟩
theorem Kps.below {g T : Nat} {wa wb wc : World} (h : Kps g T wa wb) (hb : Below T wb wc) : Kps g T wa wc :=
  ⟨Nat.le_trans h.size hb.size, fun j hj hn => (hb.block j hj).trans (h.block j hj hn)⟩
theorem Kps.own {g T B e n : Nat} {wa wb : World} {v : Value} {xs : List Value} (h : Kps g T wa wb) (ho : wa.ownsRow B e 1 v n xs) (hg : g < B) (hT : ∀ k, v.ownBlock = some k → k < T) : wb.ownsRow B e 1 v n xs := by
  obtain ⟨h1, h2⟩ := ho
  refine ⟨h1, ?_⟩
  rcases h2 with h2 | ⟨k, cap, cur, e1, e2, e3, e4⟩
  · exact .inl h2
  · exact .inr ⟨k, cap, cur, e1, e2, (h.block k (hT k (by rw [e1]; rfl)) (by omega)).trans e3, e4⟩
theorem own_fits7 {w : World} {B e n : Nat} {v : Value} {xs : List Value} (h : w.ownsRow B e 1 v n xs) : ∀ A m c, v = .slice A m c → m ≤ c := by
  intro A m c e
  rcases h.2 with ⟨h0, _⟩ | ⟨g, cap, cur, h0, _, _, hn, _⟩
  · rw [h0] at e; injection e with _ e2 e3; omega
  · rw [h0] at e; injection e with _ e2 e3; omega
/-- Flows of the call's own: their list, and each of them. -/
structure Fls (w : World) (B : Nat) (v : Value) (vs : List Value) (L : List (List Int)) : Prop where
  len : vs.length = L.length
  top : w.ownsRow B 24 1 v L.length vs
  row : ∀ j, j < L.length → ∃ u, vs[j]? = some u ∧ OwnL w B u (L.getD j [])
theorem Fls.kept {g T B : Nat} {wa wb : World} {v : Value} {vs : List Value} {L : List (List Int)} (h : Fls wa B v vs L) (hk : Kps g T wa wb) (hg : g < B) (hT : wa.heap.size ≤ T) : Fls wb B v vs L :=
  ⟨h.len, hk.own h.top hg (fun k hk => by have := (World.ownsRow.lt h.top k hk).2; omega), fun j hj => by
    obtain ⟨u, h1, h2⟩ := h.row j hj
    exact ⟨u, h1, hk.own h2 hg (fun k hk => by have := (World.ownsRow.lt h2 k hk).2; omega)⟩⟩
theorem Fls.rds {w : World} {B : Nat} {v : Value} {vs : List Value} {L : List (List Int)} (h : Fls w B v vs L) : RdsL w v L ∧ CapL w v L := by
  have hcell : ∀ b off c, v = .slice (some ⟨b, off, none⟩) L.length c → off = 0 ∧ ∀ j, j < L.length → ∃ u, w.cell? ⟨b, off + j, none⟩ = some u ∧ OwnL w B u (L.getD j []) := by
    intro b off c hv
    rcases h.top.2 with ⟨h0, _⟩ | ⟨g, cap, cur, h0, _⟩
    · rw [h0] at hv; cases hv
    · rw [h0] at hv
      injection hv with e1 e2 e3
      injection e1 with e1
      injection e1 with e4 e5
      subst e4; subst e5
      refine ⟨rfl, fun j hj => ?_⟩
      obtain ⟨u, h1, h2⟩ := h.row j hj
      have := World.ownsRow.cells h.top (g := g) (by rw [h0]; rfl) j u h1
      have e : (⟨g, 0, none⟩ : Addr).add j = ⟨g, 0 + j, none⟩ := by unfold Addr.add; split <;> simp_all
      rw [e] at this
      exact ⟨u, this, h2⟩
  constructor
  · rcases h.top.2 with ⟨h0, h1⟩ | ⟨g, cap, cur, h0, _, hg, _⟩
    · exact ⟨none, 0, by rw [h0, h1], fun h => by omega⟩
    · refine ⟨_, cap, h0, fun _ => ⟨g, 0, rfl, (Array.getElem?_eq_some_iff.1 hg).1, fun j hj => ?_⟩⟩
      obtain ⟨u, h1, h2⟩ := (hcell g 0 cap h0).2 j hj
      exact ⟨u, h1, OwnL.rds h2, h2.proper⟩
  · intro b off c hv j hj A m c' hc
    obtain ⟨u, h1, h2⟩ := (hcell b off c hv).2 j hj
    rw [hc] at h1
    injection h1 with h1
    exact own_fits7 h2 A m c' h1.symm
theorem getD_app_left {L : List (List Int)} {l : List Int} {j : Nat} (h : j < L.length) : (L ++ [l]).getD j [] = L.getD j [] := by
  rw [List.getD_eq_getElem?_getD, List.getD_eq_getElem?_getD, List.getElem?_append_left h]
theorem getD_app_end {L : List (List Int)} {l : List Int} : (L ++ [l]).getD L.length [] = l := by
  rw [List.getD_eq_getElem?_getD]; simp
theorem getD_app_le {L : List (List Int)} {l : List Int} {n : Nat} (h : ∀ k, (L.getD k []).length ≤ n) (hl : l.length ≤ n) (k : Nat) : ((L ++ [l]).getD k []).length ≤ n := by
  rcases (show k < L.length ∨ k = L.length ∨ L.length < k from by omega) with h1 | rfl | h1
  · rw [getD_app_left h1]; exact h k
  · rw [getD_app_end]; exact hl
  · rw [List.getD_eq_getElem?_getD, List.getElem?_eq_none (by simp; omega)]; simp
def DtuPost (w : World) (e : Ending) (w' : World) : Prop := ∃ (q : Int) (u : Value) (L : List (List Int)), e = .returned (.tuple #[.int .i64 q, u]) ∧ RdsL w' u L ∧ CapL w' u L ∧ L.length ≤ 5 ∧ (∀ k, (L.getD k []).length ≤ 7) ∧ Below w.heap.size w w'

set_option maxHeartbeats 6400000 in
theorem dtu_any (w : World) (a : Option Addr) (len cap : Nat) (zs : List Int) (h : IsRow .u8 w a len cap zs) :
    Calls Try.prog 14 #[.slice a len cap] w (DtuPost w) := by
  have H := Lib.hid (nr_any w a len cap zs h)
  obtain ⟨i0, hi, hz0, hz1, hz2⟩ := info_parts infoS
  have HI := Lib.hid hi
  have HZ0 := Lib.hid hz0
  have HZ1 := Lib.hid hz1
  have HZ2 := Lib.hid hz2
  clear h hi hz0 hz1 hz2
  go_enter Try.func14, Try.ntmps14
  go_wp2_with fail
  refine H.out.mono ?_
  rintro e v ⟨rfl, hr, hb, hz⟩
  obtain ⟨g, hg⟩ : ∃ g, g = w.heap.size := ⟨_, rfl⟩
  have HRV := Lib.hid hr
  have HBV := Lib.hid hb
  have hgl : w.heap.size < v.heap.size := hr.lt
  obtain ⟨B0, hB0⟩ : ∃ B0, B0 = v.heap.size := ⟨_, rfl⟩
  have HF0 : Hid (Fls (v.alloc (.cells #[] 24)) B0 (.slice (some ⟨v.heap.size, 0, none⟩) 0 0) [] []) := Lib.hid ⟨rfl, by rw [hB0]; exact World.ownsRow_made (base := v.heap.size) (e := 24) (size := 1) v #[] 0 (Nat.le_refl _) (by unfold maxLen; omega) rfl, fun j hj => absurd hj (by simp)⟩
  clear hr hb hz
  go_wp2_with fail
  refine (one_any ((HRV.out.alloc (.cells #[] 24)).alloc _) (by omega) (v.heap.size + 1) 6 6 [3, 2, 4, 1, 0, 5] rfl (by omega) (by omega) (by omega) (by have e := new_ints (v.alloc (.cells #[] 24)) [3, 2, 4, 1, 0, 5] 3; rw [World.size_alloc] at e; exact e)).mono ?_
  rintro e w1 ⟨x, m, rfl, hx, hw1⟩
  have hr1 : Rd w.heap.size w1 w.heap.size 1 := by rw [hw1]; exact ((HRV.out.alloc _).alloc _).picked m
  have hb1 : Below w.heap.size w w1 := by rw [hw1]; exact ((HBV.out.alloc (by omega) _).alloc (by simp; omega) _).trans (picked_below ((HRV.out.alloc _).alloc _) m)
  have hf1 : Fls w1 B0 (.slice (some ⟨v.heap.size, 0, none⟩) 0 0) [] [] := by
    rw [hw1]
    exact HF0.out.kept (((Kps.refl w.heap.size (v.alloc (.cells #[] 24)).heap.size _).alloc (Nat.le_refl _) _).picked) (by omega) (Nat.le_refl _)
  have hz1 : B0 ≤ w1.heap.size := by rw [hw1, picked_size]; simp; omega
  obtain ⟨n, rfl, hn⟩ : ∃ k : Nat, x = k ∧ k ≤ 5 := by
    simp only [List.mem_cons, List.not_mem_nil, or_false] at hx
    exact ⟨x.toNat, by omega, by omega⟩
  have hBg : w.heap.size < B0 := by omega
  clear hx hw1 HF0
  go_wp2
  go_loopw [5] (fun ov wr => ∃ (vs : List Value) (L : List (List Int)) (p : Nat), Fls wr B0 ov vs L ∧ L.length ≤ 5 ∧ (∀ k, (L.getD k []).length ≤ 7) ∧ Rd w.heap.size wr w.heap.size p ∧ p ≤ 1 + 100 * L.length ∧ Below w.heap.size w wr ∧ B0 ≤ wr.heap.size) (fun ov _ => n - lenU ov)
  case atStart => exact ⟨[], [], 1, hf1, by simp, fun k => by simp, hr1, by simp, hb1, hz1⟩
  case round =>
    clear hr1 hb1 hf1 hz1
    obtain ⟨vs, L, p, hf, hL, hk7, hr, hpp, hb, hz⟩ := hrel
    have HK7 := Lib.hid hk7
    have HF := Lib.hid hf
    have HR := Lib.hid hr
    have HB := Lib.hid hb
    have hvl := hf.len
    obtain ⟨Ao, co, hov⟩ := own_form hf.top
    subst hov
    obtain ⟨wo, hwo⟩ : ∃ wo, wo = wr := ⟨_, rfl⟩
    subst hwo
    clear hf hr hb hk7
    by_cases hk0 : L.length < n
    · have hk1 : decide (L.length < n) = true := decide_eq_true hk0
      have hgl2 : w.heap.size < wo.heap.size := by omega
      have HM := Lib.hid (OwnL.empty wo wo.heap.size (Nat.le_refl _))
      go_wp2_with fail
      refine (one_any ((HR.out.alloc (.cells #[] 3)).alloc _) (by omega) (wo.heap.size + 1) 7 7 [3, 2, 4, 6, 1, 0, 7] rfl (by omega) (by omega) (by omega) (by have e := new_ints (wo.alloc (.cells #[] 3)) [3, 2, 4, 6, 1, 0, 7] 3; rw [World.size_alloc] at e; exact e)).mono ?_
      rintro e w1 ⟨x, m, rfl, hx, hw1⟩
      have hr1 : Rd w.heap.size w1 w.heap.size (p + 1) := by rw [hw1]; exact ((HR.out.alloc _).alloc _).picked m
      have hb1 : Below w.heap.size w w1 := by rw [hw1]; exact ((HB.out.alloc (by omega) _).alloc (by simp; omega) _).trans (picked_below ((HR.out.alloc _).alloc _) m)
      have hkp1 : Kps w.heap.size wo.heap.size wo w1 := by rw [hw1]; exact (((Kps.refl w.heap.size wo.heap.size wo).alloc (Nat.le_refl _) _).alloc (by simp) _).picked
      have ho1 : OwnL w1 wo.heap.size (.slice (some ⟨wo.heap.size, 0, none⟩) 0 0) [] := by rw [hw1]; exact own_picked (HM.out.alloc _) hgl2
      have hz1 : wo.heap.size ≤ w1.heap.size := hkp1.size
      obtain ⟨q, rfl, hq⟩ : ∃ k : Nat, x = k ∧ k ≤ 7 := by
        simp only [List.mem_cons, List.not_mem_nil, or_false] at hx
        exact ⟨x.toNat, by omega, by omega⟩
      clear hx hw1
      go_wp2
      go_loopw [7] (fun sv wr => ∃ (l : List Int) (p' : Nat), OwnL wr wo.heap.size sv l ∧ l.length ≤ 7 ∧ Rd w.heap.size wr w.heap.size p' ∧ p' ≤ p + 1 + 4 * l.length ∧ Below w.heap.size w wr ∧ Kps w.heap.size wo.heap.size wo wr ∧ wo.heap.size ≤ wr.heap.size) (fun sv _ => q - lenU sv)
      case atStart => exact ⟨[], p + 1, ho1, by simp, hr1, by simp, hb1, hkp1, hz1⟩
      case round =>
        clear hr1 hb1 ho1 hz1 hkp1
        obtain ⟨l, p', hown, hlk, hr, hpk, hb, hkp, hz'⟩ := hrel
        have HOW := Lib.hid hown
        have HR' := Lib.hid hr
        have HKP := Lib.hid hkp
        obtain ⟨A, cp, hsv⟩ := hown.form
        subst hsv
        clear hown hr hkp
        by_cases hk2 : l.length < q
        · have hk3 : decide (l.length < q) = true := decide_eq_true hk2
          go_wp2_with fail
          refine (pick_any HR'.out (by omega) 31 (by omega) (by omega)).mono ?_
          rintro e w1 ⟨a, m, rfl, ha, hw1⟩
          have hr1 : Rd w.heap.size w1 w.heap.size (p' + 1) := by rw [hw1]; exact HR'.out.picked m
          have hb1 : Below w.heap.size w w1 := by rw [hw1]; exact hb.trans (picked_below HR'.out m)
          have ho1 : OwnL w1 wo.heap.size (.slice A l.length cp) l := by rw [hw1]; exact own_picked HOW.out hgl2
          have hkp1 : Kps w.heap.size wo.heap.size wo w1 := by rw [hw1]; exact HKP.out.picked
          have hz1 : wo.heap.size ≤ w1.heap.size := hkp1.size
          have HR1 := Lib.hid hr1
          have HO1 := Lib.hid ho1
          have HK1 := Lib.hid hkp1
          clear hw1 hr1 ho1 hkp1 hb HR' HOW HKP hz'
          go_wp2_with fail
          refine (pick_any HR1.out (by omega) 8 (by omega) (by omega)).mono ?_
          rintro e w2 ⟨d, m, rfl, hd, hw2⟩
          have hr2 : Rd w.heap.size w2 w.heap.size (p' + 1 + 1) := by rw [hw2]; exact HR1.out.picked m
          have hb2 : Below w.heap.size w w2 := by rw [hw2]; exact hb1.trans (picked_below HR1.out m)
          have ho2 : OwnL w2 wo.heap.size (.slice A l.length cp) l := by rw [hw2]; exact own_picked HO1.out hgl2
          have hkp2 : Kps w.heap.size wo.heap.size wo w2 := by rw [hw2]; exact HK1.out.picked
          have hz2 : wo.heap.size ≤ w2.heap.size := hkp2.size
          have HR2 := Lib.hid hr2
          have HO2 := Lib.hid ho2
          have HK2 := Lib.hid hkp2
          clear hw2 hr2 ho2 hkp2 hb1 HR1 HO1 HK1 hz1
          go_wp2_with fail
          refine (pick_any HR2.out (by omega) 12 (by omega) (by omega)).mono ?_
          rintro e w5 ⟨f, m, rfl, hf, hw5⟩
          have hr5 : Rd w.heap.size w5 w.heap.size (p' + 1 + 1 + 1) := by rw [hw5]; exact HR2.out.picked m
          have hb5 : Below w.heap.size w w5 := by rw [hw5]; exact hb2.trans (picked_below HR2.out m)
          have ho5 : OwnL w5 wo.heap.size (.slice A l.length cp) l := by rw [hw5]; exact own_picked HO2.out hgl2
          have hkp5 : Kps w.heap.size wo.heap.size wo w5 := by rw [hw5]; exact HK2.out.picked
          have hz5 : wo.heap.size ≤ w5.heap.size := hkp5.size
          have HR5 := Lib.hid hr5
          have HO5 := Lib.hid ho5
          have HK5 := Lib.hid hkp5
          clear hw5 hr5 ho5 hkp5 hb2 HR2 HO2 HK2 hz2
          have hw1f : IntKind.i64.wrap (1 + (f : Int)) = 1 + (f : Int) := IntWalk.i64_in _ (by omega)
          go_wp2_with fail
          refine (one_any (HR5.out.alloc _) (by omega) w5.heap.size 3 3 [(a : Int), (d : Int), 1 + (f : Int)] rfl (by omega) (by omega) (by omega) (new_ints w5 [(a : Int), (d : Int), 1 + (f : Int)] _)).mono ?_
          rintro e w3 ⟨x, m, rfl, hx, hw3⟩
          have hr3 : Rd w.heap.size w3 w.heap.size (p' + 1 + 1 + 1 + 1) := by rw [hw3]; exact (HR5.out.alloc _).picked m
          have hb3 : Below w.heap.size w w3 := by rw [hw3]; exact (hb5.alloc (by omega) _).trans (picked_below (HR5.out.alloc _) m)
          have ho3 : OwnL w3 wo.heap.size (.slice A l.length cp) l := by rw [hw3]; exact own_picked (HO5.out.alloc _) hgl2
          have hkp3 : Kps w.heap.size wo.heap.size wo w3 := by rw [hw3]; exact (HK5.out.alloc hz5 _).picked
          have hz3 : wo.heap.size ≤ w3.heap.size := hkp3.size
          have hgr3 := hr3.lt
          have HR3 := Lib.hid hr3
          have HO3 := Lib.hid ho3
          have HK3 := Lib.hid hkp3
          clear hw3 hr3 ho3 hkp3 hb5 HR5 HO5 HK5 hz5 hx hw1f
          go_wp2_with (at_builtin; refine append_oneI rfl (.tmp 27) (.tmp 38) rfl wo.heap.size _ l x rfl rfl HO3.out (by omega) hz3 ?_; intro A9 c9 w9 hown9 hg9 hb9 hz9)
          have hr9 : Rd w.heap.size w9 w.heap.size (p' + 1 + 1 + 1 + 1) := (HR3.out.alloc _).keep ((Below.refl w.heap.size (w3.alloc _)).grown hg9 (by simp; omega) (fun j hj => by have := (World.ownsRow.lt HO3.out j hj).1; omega)) (hg9.block w.heap.size (by simp; omega) (fun e => own_ne HO3.out hgl2 e.symm))
          go_roundw
          case rel => exact ⟨l ++ [x], p' + 1 + 1 + 1 + 1, by simpa [OwnL] using hown9, by simp; omega, hr9, by simp; omega, hb3.trans (hb9.mono (by omega)), HK3.out.below hb9, by omega⟩
          case measure => simp [lenU]; omega
        · have hk3 : decide (l.length < q) = false := decide_eq_false hk2
          have HF2 := Lib.hid (HF.out.kept HKP.out hBg (Nat.le_refl _))
          have HU2 := Lib.hid (own_base7 HOW.out hz)
          have hgr := HR'.out.lt
          clear HF HOW HR HKP
          go_wp2_with (at_builtin; refine wpList_append_own _ rfl (.tmp 40) (.tmp 42) 22 rfl B0 24 i0 (.slice none 0 0) 1 24 Try.underlying22 HI.out HZ0.out HZ1.out HZ2.out rfl (by decide) _ L.length vs rfl (World.ownsRow.alloc HF2.out.top _) ⟨wr.heap.size, 0, none⟩ 1 1 [.slice A l.length cp] rfl rfl (cell_new1 _ _ _) (one_cell _ rfl) (by rw [mx]; omega) (by omega) (by simp; omega) ?_; intro v9 w9 hown9 hg9 hnil; clear hnil)
          obtain ⟨A9, c9, hv9⟩ := own_form hown9
          subst hv9
          have hb9 : Below w.heap.size w w9 := (hb.alloc (by omega) _).grown hg9 (by simp; omega) (fun j hj => by have := (World.ownsRow.lt HF2.out.top j hj).1; omega)
          have hr9 : Rd w.heap.size w9 w.heap.size p' := (HR'.out.alloc _).keep ((Below.refl w.heap.size (wr.alloc _)).grown hg9 (by simp; omega) (fun j hj => by have := (World.ownsRow.lt HF2.out.top j hj).1; omega)) (hg9.block w.heap.size (by simp; omega) (fun e => own_ne HF2.out.top hBg e.symm))
          have hf9 : Fls w9 B0 (.slice A9 (L.length + 1) c9) (vs ++ [.slice A l.length cp]) (L ++ [l]) := by
            refine ⟨by simp [hvl], by simpa using hown9, fun j hj => ?_⟩
            rcases (show j < L.length ∨ j = L.length from by simp at hj; omega) with h | rfl
            · obtain ⟨u, h1, h2⟩ := HF2.out.row j h
              refine ⟨u, by rw [List.getElem?_append_left (by omega)]; exact h1, ?_⟩
              rw [getD_app_left h]
              exact World.ownsRow.kept (World.ownsRow.alloc h2 _) hg9 (own_apart h2 HF2.out.top (by decide))
            · refine ⟨.slice A l.length cp, by rw [← hvl]; simp, ?_⟩
              rw [getD_app_end]
              exact World.ownsRow.kept (World.ownsRow.alloc HU2.out _) hg9 (own_apart HU2.out HF2.out.top (by decide))
          have hz9 : B0 ≤ w9.heap.size := by have := hg9.size; simp at this; omega
          go_roundw
          case rel => exact ⟨_, _, p', hf9, by simp; omega, fun k => getD_app_le HK7.out (by omega) k, hr9, by simp; omega, hb9, hz9⟩
          case measure => simp [lenU]; omega
    · have hk1 : decide (L.length < n) = false := decide_eq_false hk0
      go_wp2_with fail
      refine (one_any (HR.out.alloc _) (by omega) wo.heap.size 7 7 [5, 10, 3, 1, 30, 31, 0] rfl (by omega) (by omega) (by omega) (new_ints wo [5, 10, 3, 1, 30, 31, 0] _)).mono ?_
      rintro e w3 ⟨x, m, rfl, hx, hw3⟩
      have hb3 : Below w.heap.size w w3 := by rw [hw3]; exact (HB.out.alloc (by omega) _).trans (picked_below (HR.out.alloc _) m)
      have hf3 : Fls w3 B0 (.slice Ao L.length co) vs L := by rw [hw3]; exact HF.out.kept (((Kps.refl w.heap.size wo.heap.size wo).alloc (Nat.le_refl _) _).picked) hBg (Nat.le_refl _)
      have HF3 := Lib.hid hf3
      have HB3 := Lib.hid hb3
      clear hw3 hx hf3 hb3
      go_wp2
      go_ret2
      exact ⟨x, _, L, rfl, HF3.out.rds.1, HF3.out.rds.2, hL, HK7.out, HB3.out⟩
end Go.Proofs.Ytnghpipkdodgiaa
