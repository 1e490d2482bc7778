/-
  The walk of the law FnSumBytes: it returns true at every code. No condition but that the code is a list that can be.
-/
import Derived.Test.YtghamnccapggpaaLawS4
import Derived.Deep.RegionLaw
import Derived.Laws.AppendOwnNone
import Derived.Deep.Cut
namespace Go.Proofs.Ytghamnccapggpaa
open Go.RowKit
set_option linter.unusedVariables false

set_option maxHeartbeats 400000 in
theorem dsu_any (w : World) (a : Option Addr) (len cap : Nat) (zs : List Int) (h : IsRow .u8 w a len cap zs) :
    Calls Try.prog 13 #[.slice a len cap] w fun e w' => ∃ u l B, e = .returned u ∧ w'.ownsRow B 3 1 u l.length (ints l) ∧ l.length ≤ 40 ∧ Below w.heap.size w w' := by
  have H := Lib.hid (nr_any w a len cap zs h)
  clear h
  go_enter Try.func13, Try.ntmps13
  go_wp2_with (first | (go_at_call 22; refine H.out.mono ?_; rintro e w1 ⟨rfl, hr, hb, hz⟩; have HR := Lib.hid hr; clear hr hz) | (go_at_call 21; refine (sy_any HR.out (by omega)).mono ?_; rintro e w2 ⟨u, l, p', rfl, ho, hl, hr2, hp2, hb2⟩; have HO := Lib.hid ho; clear ho hr2))
  go_ret
  exact ⟨u, l, _, rfl, HO.out, hl, hb.trans hb2⟩

/-- At a step of a region: numbers appended onto a row of the call's own. -/
theorem step_append_ints {P : Program} {ops : Array Oper} {o : Oper} {a : Act} {w : World} {K : Act → World → Prop} {Q : Exit → Act → World → Prop} {E : Prop} (hgd : o.guard = none) (s x : Operand) (t : TypeId)
    (ho : o.op = .call { callee := .builtin .append, args := #[s, x], argTypes := #[t, t] })
    (base : Nat) (e : TypeId) (i : TypeInfo) (z : Value) (size bytes : Nat) (ht : P.underlying t = some (.slice e)) (hi : P.info? e = some i) (hz : i.zero = some z)
    (hsize : i.size = 1) (hby : i.bytes = 8) (hzs : z.cells.size = 1)
    (v : Value) (n : Nat) (xs : List Int) (hs : a.eval s = v) (hown : w.ownsRow base e 1 v n (ints xs))
    (ad : Addr) (m c : Nat) (news : List Int) (hx : a.eval x = .slice (some ad) m c) (hl : news.length = m) (hnews : ∀ j u, (ints news)[j]? = some u → w.cell? (ad.add j) = some u)
    (hnm : 0 < n + m) (h63 : n + m ≤ 1000) (hbase : base ≤ w.heap.size)
    (h : ∀ g cap w', w'.ownsRow base e 1 (.slice (some ⟨g, 0, none⟩) (n + m) cap) (n + m) (ints (xs ++ news)) → w.grownBy w' v.ownBlock → K (a.put o.dst (.slice (some ⟨g, 0, none⟩) (n + m) cap)) w') :
    if Region.wanted o (yielded ops a.tmps) = true then Oper.wp P o a w K Q else E := by
  have hw : Region.wanted o (yielded ops a.tmps) = true := by simp [Region.wanted, hgd]
  rw [if_pos hw]
  refine wp_append_own w s x t ho base e i z 1 8 ht hi hz hsize hby hzs (by omega) v n (ints xs) hs hown ad m c (ints news) hx (by rw [ints_len, hl, Nat.mul_one]) hnews (ints_one' news) (by rw [mx]; omega) (by omega) hbase fun v' w' h2 h3 h4 => ?_
  obtain ⟨g, cp, rfl⟩ := own_form_some h2 hnm
  exact h g cp w' (by rw [ints_app]; exact h2) h3

theorem two_new (w : World) (x y : Value) (t : TypeId) : ∀ j u, ([x, y])[j]? = some u → (w.alloc (.cells #[x, y] t)).cell? ((⟨w.heap.size, 0, none⟩ : Addr).add j) = some u := by
  intro j u hj
  have e : (⟨w.heap.size, 0, none⟩ : Addr).add j = ⟨w.heap.size, j, none⟩ := by unfold Addr.add; split <;> simp_all
  rw [e, cell_of_row _ w.heap.size j _ t (0, 0) (heap_alloc_new w _), ← hj]
  simp
theorem at_sub {w : World} {b off i n : Nat} {xs : List Int} (h : At w b off xs) : ∀ j u, (ints ((xs.drop i).take n))[j]? = some u → w.cell? ((⟨b, off + i, none⟩ : Addr).add j) = some u := by
  intro j u hj
  have hjl : j < ((xs.drop i).take n).length := by
    have := (List.getElem?_eq_some_iff.1 hj).1
    simpa [ints] using this
  have hjl2 : i + j < xs.length := by simp at hjl; omega
  have e : (⟨b, off + i, none⟩ : Addr).add j = ⟨b, off + (i + j), none⟩ := by unfold Addr.add; split <;> simp_all [Nat.add_assoc]
  rw [e, h.2 (i + j) hjl2, ← hj, ints_get _ j hjl]
  simp at hjl
  simp [List.getD_eq_getElem?_getD, hjl, hjl2]
theorem sumR_ge {xs : List Int} (h : bytesB 16 xs = true) : 0 ≤ sumR xs := by
  rw [sumR_yes h]; have := norm_bd (wsum pairW xs xs.length); omega

/-- The bytes with the first two and the next two exchanged. -/
def tlist (l : List Int) : List Int := (l.drop 2).take 2 ++ (l.drop 0).take 2 ++ (l.drop 4).take (l.length - 4)
theorem tlist_len (l : List Int) (h : 4 ≤ l.length) : (tlist l).length = l.length := by simp [tlist]; omega
theorem turned_eq {l : List Int} (h : bytesB 16 l = true) (h4 : 4 ≤ l.length) : sumR (tlist l) = sumR l := by
  match l, h4 with
  | a :: b :: c :: d :: r, _ =>
    have e : tlist (a :: b :: c :: d :: r) = c :: d :: a :: b :: r := by simp [tlist]
    rw [e]; exact sum_turned h
  | [], h4 => simp at h4
  | [_], h4 => simp at h4
  | [_, _], h4 => simp at h4
  | [_, _, _], h4 => simp at h4
theorem third_news {w : World} {bo cu : Nat} {l : List Int} (hlc : l.length ≤ cu) (h : ∀ j u, (ints ((l.drop 4).take (l.length - 4)))[j]? = some u → w.cell? ((⟨bo, 0 + 4, none⟩ : Addr).add j) = some u) :
    ∀ j u, (ints ((l.drop 4).take (l.length - 4)))[j]? = some u → w.cell? ((⟨bo, if cu = 4 then 0 else 0 + 4, none⟩ : Addr).add j) = some u := by
  intro j u hj
  by_cases hc : cu = 4
  · have := (List.getElem?_eq_some_iff.1 hj).1
    simp [ints] at this
    omega
  · rw [if_neg hc]; exact h j u hj

set_option maxHeartbeats 12800000 in
theorem fnSumBytes_walk (a : Option Addr) (len cap : Nat) (zs : List Int) (w : World) (h : IsRow .u8 w a len cap zs) :
    Calls Try.prog 5 #[.slice a len cap] w fun e w' => e = .returned (.bool true) ∧ Below w.heap.size w w' := by
  by_cases hg : (1048576 : Int) < (len : Int)
  · go_enter Try.func5, Try.ntmps5
    go_wp2_with fail
    go_ret
    exact ⟨rfl, Below.refl _ _⟩
  · have H := Lib.hid (dsu_any w a len cap zs h)
    clear h
    obtain ⟨i0, hi, hz0, hz1, hz2⟩ := info_parts info3
    have HI := Lib.hid hi
    have HZ0 := Lib.hid hz0
    have HZ1 := Lib.hid hz1
    have HZ2 := Lib.hid hz2
    clear hi hz0 hz1 hz2
    go_enter Try.func5, Try.ntmps5
    go_wp2_with fail
    refine H.out.mono ?_
    rintro e w1 ⟨u, l, B1, rfl, hu, hl, hb1⟩
    have HU := Lib.hid (Rds.of_own hu)
    have HLU := Lib.hid (own_lies (xs := l) hu)
    rcases hu.2 with ⟨rfl, hl0⟩ | ⟨bo, cu, cur, rfl, hBo, hh, hlc, _⟩
    · obtain rfl := List.eq_nil_of_length_eq_zero hl0
      have e0 : sumR [] = 65535 := by decide
      have e1 : sumR [255, 255] = 0 := by decide
      have hS := fun W v h => sSU_any W v [] h (by simp)
      have hI := fun W v h => iSU_any W v [] h (by simp)
      have hC := fun W v h => iSU_any W v [255, 255] h (by simp)
      rw [e0] at hS hI
      rw [e1] at hC
      have HS := Lib.hid hS
      have HII := Lib.hid hI
      have HIC := Lib.hid hC
      clear hS hI hC e0 e1 H hu
      go_wp2_with fail
      refine (HII.out _ _ HU.out).mono ?_
      rintro e w2 ⟨rfl, rfl⟩
      have HB4 : Hid (Below w.heap.size w (w1.alloc (.cells #[] 3))) := hb1.alloc hb1.size _
      have hszT : w.heap.size ≤ w1.heap.size + 1 := by have := hb1.size; omega
      clear hb1
      go_wp2_with fail
      refine (HS.out _ _ HU.out).mono ?_
      rintro e w3 ⟨rfl, rfl⟩
      have hot := own_new (w1.alloc (.cells #[] 3)) 3
      rw [World.size_alloc] at hot
      have HOT := Lib.hid hot
      clear hot
      go_upto_region 12 with (first | (at_builtin; refine wpList_append_own_none rfl (.tmp 42) (.tmp 43) 22 rfl (w1.heap.size + 1) 3 i0 1 Try.underlying22 HI.out (.slice (some ⟨(w1.heap.size + 1), 0, none⟩) 0 0) 0 [] rfl HOT.out rfl ?_; have hown5 : ((w1.alloc (.cells #[] 3)).alloc (.cells #[] 3)).ownsRow (w1.heap.size + 1) 3 1 (.slice (some ⟨(w1.heap.size + 1), 0, none⟩) 0 0) 0 (ints []) := HOT.out; have hb5 : Below (w1.heap.size + 1) (w1.alloc (.cells #[] 3)) ((w1.alloc (.cells #[] 3)).alloc (.cells #[] 3)) := (Below.refl (w1.heap.size + 1) (w1.alloc (.cells #[] 3))).alloc (by simp) (.cells #[] 3)) | (at_builtin; refine wpList_append_own _ rfl (.tmp 44) (.tmp 49) 22 rfl (w1.heap.size + 1) 3 i0 (.int .i64 0) 1 8 Try.underlying22 HI.out HZ0.out HZ1.out HZ2.out rfl (by decide) _ 0 (ints []) rfl (hown5.alloc _) ⟨w1.heap.size + 1 + 1, 0, none⟩ 2 2 [.int .i64 (255), .int .i64 (255)] rfl rfl (by have h9 := two_new ((w1.alloc (.cells #[] 3)).alloc (.cells #[] 3)) (.int .i64 255) (.int .i64 255) 3; rw [World.size_alloc, World.size_alloc] at h9; exact h9) (two_cells _ _ rfl rfl) (by rw [mx]; omega) (by omega) (by have := hb5.size; first | (simp at this ⊢; omega) | (simp at this ⊢; done) | simp) ?_; intro v6 w6 hown6 hg6 hnil; clear hnil; have hown6b := ownI_snoc2 (l := []) hown6; have hb6 : Below (w1.heap.size + 1) (w1.alloc (.cells #[] 3)) w6 := (hb5.alloc (by have := hb5.size; first | (simp at this ⊢; omega) | (simp at this ⊢; done) | simp) (.cells #[.int .i64 (255), .int .i64 (255)] 3)).grown hg6 (by have := hb5.size; first | (simp at this ⊢; omega) | (simp at this ⊢; done) | simp) (fun j hj => (hown5.lt j hj).1); have HC6 := Lib.hid (Rds.of_own hown6b); have HB6 := Lib.hid hb6; clear hown5 hb5 hown6 hg6 hown6b hb6))
      have HCI := Lib.hid (HIC.out _ _ HC6.out)
      go_wp2_with (first | (go_at_call 9; with_reducible refine HCI.out.mono ?_; rintro e w' ⟨rfl, rfl⟩) | fail)
      go_ret
      exact ⟨rfl, HB4.out.trans (HB6.out.mono hszT)⟩
    · have hS := fun W v h => sSU_any W v l h (by omega)
      have hI := fun W v h => iSU_any W v l h (by omega)
      have hbo := (hu.lt bo rfl).2
      have HAO : Hid (At w1 bo 0 l) := ⟨hbo, fun j hj => by
        have := hu.cellAt j (by omega)
        rw [ints_get l j hj] at this
        rw [Nat.zero_add]; exact this⟩
      clear H hu hh
      cases hv : bytesB 16 l
      · rw [sumR_no hv] at hS hI
        have HS := Lib.hid hS
        have HII := Lib.hid hI
        clear hS hI hv
        go_wp2_with fail
        refine (HII.out _ _ HU.out).mono ?_
        rintro e w2 ⟨rfl, rfl⟩
        go_wp2_with fail
        refine (HS.out _ _ HU.out).mono ?_
        rintro e w3 ⟨rfl, rfl⟩
        go_wp2_with fail
        refine (HS.out _ _ HU.out).mono ?_
        rintro e w4 ⟨rfl, rfl⟩
        go_wp2
        go_ret
        exact ⟨rfl, hb1⟩
      · obtain ⟨h16, hall⟩ := bytes16' hv
        have HCL := Lib.hid (fun (h : l.length % 2 = 0) (h14 : l.length ≤ 14) => sum_close hv h h14)
        have HIC := Lib.hid (fun W v h => iSU_any W v (l ++ [sumR l / 256, sumR l % 256]) h (by simp; omega))
        have HXL := Lib.hid (sumR_le l)
        have hx0 := sumR_ge hv
        have HV := Lib.hid hv
        clear hv hall
        by_cases hn4 : l.length < 4
        · generalize sumR l = x at *
          have hxn : ¬ x < 0 := by omega
          have hxd : decide (x < 0) = false := by simpa using hxn
          have HS := Lib.hid hS
          have HII := Lib.hid hI
          have g4 : ¬ (4 : Int) ≤ (l.length : Int) := by omega
          clear hS hI
          go_wp2_with fail
          refine (HII.out _ _ HU.out).mono ?_
          rintro e w2 ⟨rfl, rfl⟩
          have hat : At (w1.alloc (.cells #[] 3)) bo 0 l := HAO.out.alloc _
          have HNT := Lib.hid (at_cells (hat.alloc (.cells #[] 3)))
          have HB4 : Hid (Below w.heap.size w (w1.alloc (.cells #[] 3))) := hb1.alloc hb1.size _
          have hxl := HXL.out
          have hszT : w.heap.size ≤ w1.heap.size + 1 := by have := hb1.size; omega
          have g4d : decide ((4 : Int) ≤ (l.length : Int)) = false := by simp; omega
          clear hat hb1
          go_wp2_with fail
          refine (HS.out _ _ HU.out).mono ?_
          rintro e w3 ⟨rfl, rfl⟩
          have hx1 : 0 ≤ x / 256 ∧ x / 256 ≤ 255 := by omega
          have hx2 : 0 ≤ x % 256 ∧ x % 256 ≤ 255 := by omega
          have hot := own_new (w1.alloc (.cells #[] 3)) 3
          rw [World.size_alloc] at hot
          have HOT := Lib.hid hot
          clear hot
          go_upto_region 12 with (first | (at_builtin; refine wpList_append_own _ rfl (.tmp 42) (.tmp 43) 22 rfl (w1.heap.size + 1) 3 i0 (.int .i64 0) 1 8 Try.underlying22 HI.out HZ0.out HZ1.out HZ2.out rfl (by decide) (.slice (some ⟨(w1.heap.size + 1), 0, none⟩) 0 0) 0 [] rfl HOT.out ⟨bo, 0, none⟩ l.length cu (ints l) rfl (by rw [ints_len, Nat.mul_one]) HNT.out (ints_one' l) (by rw [mx]; omega) (by omega) (by simp) ?_; intro v5 w5 hown5a hg5 hnil; clear hnil; have hown5 : w5.ownsRow (w1.heap.size + 1) 3 1 v5 l.length (ints l) := (by simpa using hown5a); clear hown5a; obtain ⟨A5, c5, rfl⟩ := own_form hown5; have hb5 : Below (w1.heap.size + 1) (w1.alloc (.cells #[] 3)) w5 := ((Below.refl (w1.heap.size + 1) (w1.alloc (.cells #[] 3))).alloc (by simp) (.cells #[] 3)).grown hg5 (by simp) (fun j hj => by simp [Value.ownBlock] at hj; omega); clear hg5) | (at_builtin; refine wpList_append_own _ rfl (.tmp 44) (.tmp 49) 22 rfl (w1.heap.size + 1) 3 i0 (.int .i64 0) 1 8 Try.underlying22 HI.out HZ0.out HZ1.out HZ2.out rfl (by decide) _ l.length (ints l) rfl (hown5.alloc _) ⟨w5.heap.size, 0, none⟩ 2 2 [.int .i64 (x / 256), .int .i64 (x % 256)] rfl rfl (two_new w5 _ _ _) (two_cells _ _ rfl rfl) (by rw [mx]; omega) (by omega) (by have := hb5.size; simp at this ⊢; omega) ?_; intro v6 w6 hown6 hg6 hnil; clear hnil; have hown6b := ownI_snoc2 hown6; have hb6 : Below (w1.heap.size + 1) (w1.alloc (.cells #[] 3)) w6 := (hb5.alloc (by have := hb5.size; simp at this ⊢; omega) (.cells #[.int .i64 (x / 256), .int .i64 (x % 256)] 3)).grown hg6 (by have := hb5.size; simp at this ⊢; omega) (fun j hj => (hown5.lt j hj).1); have HC6 := Lib.hid (Rds.of_own hown6b); have HB6 := Lib.hid hb6; clear hown5 hb5 hown6 hg6 hown6b hb6))
          have hsum := fun (h : l.length % 2 = 0) (h14 : l.length ≤ 14) => HCL.out h h14
          have hci := HIC.out _ _ HC6.out
          have hle : x ≤ 65535 := HXL.out
          have hle2 : decide (x ≤ 65535) = true := by simpa using hle
          have n4a : (l.length : Int) < 4 := by omega
          have n4b : decide ((l.length : Int) < 4) = true := by simp; omega
          rcases (show l.length % 2 = 1 ∨ (l.length % 2 = 0 ∧ 14 < l.length) ∨ (l.length % 2 = 0 ∧ l.length ≤ 14) from by omega) with hp | ⟨hp, h14⟩ | ⟨hp, h14⟩
          · have o1 : (((l.length : Int) % 2) == 1) = true := by simp; omega
            clear hci hp
            clear hsum
            go_wp2_with (fail)
            go_ret
            exact ⟨rfl, HB4.out.trans (HB6.out.mono hszT)⟩
          · have o1 : (((l.length : Int) % 2) == 1) = false := by simp; omega
            have o2 : (16 : Int) < (l.length : Int) + 2 := by omega
            have o3 : decide ((16 : Int) < (l.length : Int) + 2) = true := by simp; omega
            clear hci hp h14
            clear hsum
            go_wp2_with (fail)
            go_ret
            exact ⟨rfl, HB4.out.trans (HB6.out.mono hszT)⟩
          · have o1 : (((l.length : Int) % 2) == 1) = false := by simp; omega
            have o2 : ¬ (16 : Int) < (l.length : Int) + 2 := by omega
            have o3 : decide ((16 : Int) < (l.length : Int) + 2) = false := by simp; omega
            rw [hsum hp h14] at hci
            have HCI := Lib.hid hci
            clear hci hp h14
            clear hsum
            go_wp2_with (first | (go_at_call 9; with_reducible refine HCI.out.mono ?_; rintro e w' ⟨rfl, rfl⟩) | fail)
            go_ret
            exact ⟨rfl, HB4.out.trans (HB6.out.mono hszT)⟩
        · have hn4' : 4 ≤ l.length := by omega
          have hturn := turned_eq HV.out hn4'
          have hIT := fun W v h => iSU_any W v (tlist l) h (by rw [tlist_len l hn4']; omega)
          rw [hturn] at hIT
          generalize sumR l = x at *
          have hxn : ¬ x < 0 := by omega
          have hxd : decide (x < 0) = false := by simpa using hxn
          have HS := Lib.hid hS
          have HII := Lib.hid hI
          have HIT := Lib.hid hIT
          have g4 : (4 : Int) ≤ (l.length : Int) := by omega
          have g4d : decide ((4 : Int) ≤ (l.length : Int)) = true := by simp; omega
          have hxl := HXL.out
          clear hS hI hIT hturn
          have hl1 : ((l.drop 2).take 2).length = 2 := by simp; omega
          have hl2 : ((l.drop 0).take 2).length = 2 := by simp; omega
          have hl3 : ((l.drop 4).take (l.length - 4)).length = l.length - 4 := by simp
          have HL1 := Lib.hid hl1
          have HL2 := Lib.hid hl2
          have HL3 := Lib.hid hl3
          have HO0 : Hid ((w1.alloc (.cells #[] 3)).ownsRow w1.heap.size 3 1 (.slice (some ⟨w1.heap.size, 0, none⟩) 0 0) 0 (ints [])) := own_new w1 3
          have HN1 := Lib.hid (at_sub (i := 2) (n := 2) (HAO.out.alloc (.cells #[] 3)))
          clear hl1 hl2 hl3
          have HB1 := Lib.hid hb1
          clear hb1
          go_wp2_with fail
          refine (HII.out _ _ HU.out).mono ?_
          rintro e w2 ⟨rfl, rfl⟩
          go_wp2_with fail
          refine (HS.out _ _ HU.out).mono ?_
          rintro e w3 ⟨rfl, rfl⟩
          go_wp2
          have hcu2 : (2 : Int) ≤ (cu : Int) := by omega
          have hcu4 : (4 : Int) ≤ (cu : Int) := by omega
          have hc2 : ¬ cu = 2 := by omega
          rcases (show 4 = cu ∨ ¬ cu = 4 from by omega) with rfl | hc4
          · skip
            go_region_law (first
              | (refine step_append_ints rfl (.tmp 32) (.tmp 34) 22 rfl w1.heap.size 3 i0 (.int .i64 0) 1 8 Try.underlying22 HI.out HZ0.out HZ1.out HZ2.out rfl (.slice (some ⟨w1.heap.size, 0, none⟩) 0 0) 0 [] (by simp [Act.eval, Act.put]) HO0.out ⟨bo, 0 + 2, none⟩ 2 (4 - 2) ((l.drop 2).take 2) (by simp [Act.eval, Act.put]) HL1.out HN1.out (by omega) (by omega) (by simp) ?_; intro gA cA wA hoA hgA; have hoA' : wA.ownsRow w1.heap.size 3 1 (.slice (some ⟨gA, 0, none⟩) 2 cA) 2 (ints ((l.drop 2).take 2)) := (by simpa using hoA); have hbA : Below w1.heap.size w1 wA := ((Below.refl w1.heap.size w1).alloc (Nat.le_refl _) (.cells #[] 3)).grown ⟨hgA.os, hgA.tape, hgA.output, hgA.size, hgA.block⟩ (by simp) (fun j hj => by simp [Value.ownBlock] at hj; omega); have HAA := Lib.hid (HAO.out.below hbA hbo); have HN2 := Lib.hid (at_sub (i := 0) (n := 2) HAA.out); have HOA := Lib.hid hoA'; have HBA := Lib.hid hbA; clear hoA hoA' hgA hbA)
              | (refine step_append_ints rfl (.tmp 35) (.tmp 37) 22 rfl w1.heap.size 3 i0 (.int .i64 0) 1 8 Try.underlying22 HI.out HZ0.out HZ1.out HZ2.out rfl (.slice (some ⟨gA, 0, none⟩) 2 cA) 2 ((l.drop 2).take 2) (by simp [Act.eval]) HOA.out ⟨bo, 0 + 0, none⟩ 2 4 ((l.drop 0).take 2) (by simp [Act.eval]) HL2.out HN2.out (by omega) (by omega) HBA.out.size ?_; intro gB cB wB hoB hgB; have hoB' : wB.ownsRow w1.heap.size 3 1 (.slice (some ⟨gB, 0, none⟩) 4 cB) 4 (ints ((l.drop 2).take 2 ++ (l.drop 0).take 2)) := hoB; have hbB : Below w1.heap.size w1 wB := HBA.out.grown hgB HBA.out.size (fun j hj => (HOA.out.lt j hj).1); have HAB := Lib.hid (HAO.out.below hbB hbo); have HN3 := Lib.hid (at_sub (i := 4) (n := l.length - 4) HAB.out); have HOB := Lib.hid hoB'; have HBB := Lib.hid hbB; clear hoB hoB' hgB hbB)
              | (refine step_append_ints rfl (.tmp 38) (.tmp 40) 22 rfl w1.heap.size 3 i0 (.int .i64 0) 1 8 Try.underlying22 HI.out HZ0.out HZ1.out HZ2.out rfl (.slice (some ⟨gB, 0, none⟩) 4 cB) 4 ((l.drop 2).take 2 ++ (l.drop 0).take 2) (by simp [Act.eval]) HOB.out ⟨bo, if 4 = 4 then 0 else 0 + 4, none⟩ (l.length - 4) (4 - 4) ((l.drop 4).take (l.length - 4)) (by simp [Act.eval]; omega) HL3.out (third_news hlc HN3.out) (by omega) (by omega) HBB.out.size ?_; intro gC cC wC hoC hgC; have HOC := Lib.hid hoC; have HBC := Lib.hid (HBB.out.grown hgC HBB.out.size (fun j hj => (HOB.out.lt j hj).1)); clear hoC hgC))
            clear HN1 HN2 HN3 HO0 HOA HOB HAA HAB HBA HBB HL1 HL2 HL3
            have hnn : 4 + (l.length - 4) = l.length := by omega
            have hoT : wC.ownsRow w1.heap.size 3 1 (.slice (some ⟨gC, 0, none⟩) 4 cC) (tlist l).length (ints (tlist l)) := by have := HOC.out; rw [hnn] at this; rw [tlist_len l hn4']; have e : (Value.slice (some ⟨gC, 0, none⟩) 4 cC) = .slice (some ⟨gC, 0, none⟩) l.length cC := (by rw [show l.length = 4 from by omega]); rw [e]; exact this
            have HTU := Lib.hid (Rds.of_own hoT)
            have HTUL : Hid (Lies wC.heap.size (.slice (some ⟨gC, 0, none⟩) 4 cC) (tlist l)) := own_lies hoT
            have hAC : At wC bo 0 l := HAO.out.below HBC.out hbo
            have HNT := Lib.hid (at_cells (hAC.alloc (.cells #[] 3)))
            have HB4 : Hid (Below w.heap.size w wC) := HB1.out.trans (HBC.out.mono HB1.out.size)
            have hszT : w.heap.size ≤ wC.heap.size := HB4.out.size
            have hx1 : 0 ≤ x / 256 ∧ x / 256 ≤ 255 := by omega
            have hx2 : 0 ≤ x % 256 ∧ x % 256 ≤ 255 := by omega
            have HOT : Hid _ := own_new wC 3
            clear hoT hAC HOC
            simp only [Act.put]
            go_upto_region 12 with (first | (at_builtin; refine wpList_append_own _ rfl (.tmp 42) (.tmp 43) 22 rfl wC.heap.size 3 i0 (.int .i64 0) 1 8 Try.underlying22 HI.out HZ0.out HZ1.out HZ2.out rfl (by decide) (.slice (some ⟨wC.heap.size, 0, none⟩) 0 0) 0 [] rfl HOT.out ⟨bo, 0, none⟩ l.length 4 (ints l) rfl (by rw [ints_len, Nat.mul_one]) HNT.out (ints_one' l) (by rw [mx]; omega) (by omega) (by simp) ?_; intro v5 w5 hown5a hg5 hnil; clear hnil; have hown5 : w5.ownsRow wC.heap.size 3 1 v5 l.length (ints l) := (by simpa using hown5a); clear hown5a; obtain ⟨A5, c5, rfl⟩ := own_form hown5; have hb5 : Below wC.heap.size wC w5 := ((Below.refl wC.heap.size wC).alloc (by simp) (.cells #[] 3)).grown hg5 (by simp) (fun j hj => by simp [Value.ownBlock] at hj; omega); clear hg5) | (at_builtin; refine wpList_append_own _ rfl (.tmp 44) (.tmp 49) 22 rfl wC.heap.size 3 i0 (.int .i64 0) 1 8 Try.underlying22 HI.out HZ0.out HZ1.out HZ2.out rfl (by decide) _ l.length (ints l) rfl (hown5.alloc _) ⟨w5.heap.size, 0, none⟩ 2 2 [.int .i64 (x / 256), .int .i64 (x % 256)] rfl rfl (two_new w5 _ _ _) (two_cells _ _ rfl rfl) (by rw [mx]; omega) (by omega) (by have := hb5.size; simp at this ⊢; omega) ?_; intro v6 w6 hown6 hg6 hnil; clear hnil; have hown6b := ownI_snoc2 hown6; have hb6 : Below wC.heap.size wC w6 := (hb5.alloc (by have := hb5.size; simp at this ⊢; omega) (.cells #[.int .i64 (x / 256), .int .i64 (x % 256)] 3)).grown hg6 (by have := hb5.size; simp at this ⊢; omega) (fun j hj => (hown5.lt j hj).1); have HC6 := Lib.hid (Rds.of_own hown6b); have HB6 := Lib.hid hb6; clear hown5 hb5 hown6 hg6 hown6b hb6))
            have hsum := fun (h : l.length % 2 = 0) (h14 : l.length ≤ 14) => HCL.out h h14
            have HTU6 := Lib.hid (HTU.out.below HB6.out HTUL.out)
            have htu := HIT.out _ _ HTU6.out
            have HTV := Lib.hid htu
            clear htu
            have hci := HIC.out _ _ HC6.out
            have hle : x ≤ 65535 := HXL.out
            have hle2 : decide (x ≤ 65535) = true := by simpa using hle
            have n4a : ¬ (l.length : Int) < 4 := by omega
            have n4b : decide ((l.length : Int) < 4) = false := by simp; omega
            rcases (show l.length % 2 = 1 ∨ (l.length % 2 = 0 ∧ 14 < l.length) ∨ (l.length % 2 = 0 ∧ l.length ≤ 14) from by omega) with hp | ⟨hp, h14⟩ | ⟨hp, h14⟩
            · have o1 : (((l.length : Int) % 2) == 1) = true := by simp; omega
              clear hci hp
              clear hsum
              go_wp2_with ((go_at_call 9; with_reducible refine HTV.out.mono ?_; rintro e w' ⟨rfl, rfl⟩))
              go_ret
              exact ⟨rfl, HB4.out.trans (HB6.out.mono hszT)⟩
            · have o1 : (((l.length : Int) % 2) == 1) = false := by simp; omega
              have o2 : (16 : Int) < (l.length : Int) + 2 := by omega
              have o3 : decide ((16 : Int) < (l.length : Int) + 2) = true := by simp; omega
              clear hci hp h14
              clear hsum
              go_wp2_with ((go_at_call 9; with_reducible refine HTV.out.mono ?_; rintro e w' ⟨rfl, rfl⟩))
              go_ret
              exact ⟨rfl, HB4.out.trans (HB6.out.mono hszT)⟩
            · have o1 : (((l.length : Int) % 2) == 1) = false := by simp; omega
              have o2 : ¬ (16 : Int) < (l.length : Int) + 2 := by omega
              have o3 : decide ((16 : Int) < (l.length : Int) + 2) = false := by simp; omega
              rw [hsum hp h14] at hci
              have HCI := Lib.hid hci
              clear hci hp h14
              clear hsum
              go_wp2_with (first | (go_at_call 9; with_reducible refine HCI.out.mono ?_; rintro e w' ⟨rfl, rfl⟩) | (go_at_call 9; with_reducible refine HTV.out.mono ?_; rintro e w' ⟨rfl, rfl⟩))
              go_ret
              exact ⟨rfl, HB4.out.trans (HB6.out.mono hszT)⟩
          · skip
            go_region_law (first
              | (refine step_append_ints rfl (.tmp 32) (.tmp 34) 22 rfl w1.heap.size 3 i0 (.int .i64 0) 1 8 Try.underlying22 HI.out HZ0.out HZ1.out HZ2.out rfl (.slice (some ⟨w1.heap.size, 0, none⟩) 0 0) 0 [] (by simp [Act.eval, Act.put]) HO0.out ⟨bo, 0 + 2, none⟩ 2 (cu - 2) ((l.drop 2).take 2) (by simp [Act.eval, Act.put]) HL1.out HN1.out (by omega) (by omega) (by simp) ?_; intro gA cA wA hoA hgA; have hoA' : wA.ownsRow w1.heap.size 3 1 (.slice (some ⟨gA, 0, none⟩) 2 cA) 2 (ints ((l.drop 2).take 2)) := (by simpa using hoA); have hbA : Below w1.heap.size w1 wA := ((Below.refl w1.heap.size w1).alloc (Nat.le_refl _) (.cells #[] 3)).grown ⟨hgA.os, hgA.tape, hgA.output, hgA.size, hgA.block⟩ (by simp) (fun j hj => by simp [Value.ownBlock] at hj; omega); have HAA := Lib.hid (HAO.out.below hbA hbo); have HN2 := Lib.hid (at_sub (i := 0) (n := 2) HAA.out); have HOA := Lib.hid hoA'; have HBA := Lib.hid hbA; clear hoA hoA' hgA hbA)
              | (refine step_append_ints rfl (.tmp 35) (.tmp 37) 22 rfl w1.heap.size 3 i0 (.int .i64 0) 1 8 Try.underlying22 HI.out HZ0.out HZ1.out HZ2.out rfl (.slice (some ⟨gA, 0, none⟩) 2 cA) 2 ((l.drop 2).take 2) (by simp [Act.eval]) HOA.out ⟨bo, 0 + 0, none⟩ 2 cu ((l.drop 0).take 2) (by simp [Act.eval]) HL2.out HN2.out (by omega) (by omega) HBA.out.size ?_; intro gB cB wB hoB hgB; have hoB' : wB.ownsRow w1.heap.size 3 1 (.slice (some ⟨gB, 0, none⟩) 4 cB) 4 (ints ((l.drop 2).take 2 ++ (l.drop 0).take 2)) := hoB; have hbB : Below w1.heap.size w1 wB := HBA.out.grown hgB HBA.out.size (fun j hj => (HOA.out.lt j hj).1); have HAB := Lib.hid (HAO.out.below hbB hbo); have HN3 := Lib.hid (at_sub (i := 4) (n := l.length - 4) HAB.out); have HOB := Lib.hid hoB'; have HBB := Lib.hid hbB; clear hoB hoB' hgB hbB)
              | (refine step_append_ints rfl (.tmp 38) (.tmp 40) 22 rfl w1.heap.size 3 i0 (.int .i64 0) 1 8 Try.underlying22 HI.out HZ0.out HZ1.out HZ2.out rfl (.slice (some ⟨gB, 0, none⟩) 4 cB) 4 ((l.drop 2).take 2 ++ (l.drop 0).take 2) (by simp [Act.eval]) HOB.out ⟨bo, if cu = 4 then 0 else 0 + 4, none⟩ (l.length - 4) (cu - 4) ((l.drop 4).take (l.length - 4)) (by simp [Act.eval, hc4]) HL3.out (third_news hlc HN3.out) (by omega) (by omega) HBB.out.size ?_; intro gC cC wC hoC hgC; have HOC := Lib.hid hoC; have HBC := Lib.hid (HBB.out.grown hgC HBB.out.size (fun j hj => (HOB.out.lt j hj).1)); clear hoC hgC))
            clear HN1 HN2 HN3 HO0 HOA HOB HAA HAB HBA HBB HL1 HL2 HL3
            have hnn : 4 + (l.length - 4) = l.length := by omega
            have hoT : wC.ownsRow w1.heap.size 3 1 (.slice (some ⟨gC, 0, none⟩) l.length cC) (tlist l).length (ints (tlist l)) := by have := HOC.out; rw [hnn] at this; rw [tlist_len l hn4']; exact this
            have HTU := Lib.hid (Rds.of_own hoT)
            have HTUL : Hid (Lies wC.heap.size (.slice (some ⟨gC, 0, none⟩) l.length cC) (tlist l)) := own_lies hoT
            have hAC : At wC bo 0 l := HAO.out.below HBC.out hbo
            have HNT := Lib.hid (at_cells (hAC.alloc (.cells #[] 3)))
            have HB4 : Hid (Below w.heap.size w wC) := HB1.out.trans (HBC.out.mono HB1.out.size)
            have hszT : w.heap.size ≤ wC.heap.size := HB4.out.size
            have hx1 : 0 ≤ x / 256 ∧ x / 256 ≤ 255 := by omega
            have hx2 : 0 ≤ x % 256 ∧ x % 256 ≤ 255 := by omega
            have HOT : Hid _ := own_new wC 3
            clear hoT hAC HOC
            simp only [Act.put]
            go_upto_region 12 with (first | (at_builtin; refine wpList_append_own _ rfl (.tmp 42) (.tmp 43) 22 rfl wC.heap.size 3 i0 (.int .i64 0) 1 8 Try.underlying22 HI.out HZ0.out HZ1.out HZ2.out rfl (by decide) (.slice (some ⟨wC.heap.size, 0, none⟩) 0 0) 0 [] rfl HOT.out ⟨bo, 0, none⟩ l.length cu (ints l) rfl (by rw [ints_len, Nat.mul_one]) HNT.out (ints_one' l) (by rw [mx]; omega) (by omega) (by simp) ?_; intro v5 w5 hown5a hg5 hnil; clear hnil; have hown5 : w5.ownsRow wC.heap.size 3 1 v5 l.length (ints l) := (by simpa using hown5a); clear hown5a; obtain ⟨A5, c5, rfl⟩ := own_form hown5; have hb5 : Below wC.heap.size wC w5 := ((Below.refl wC.heap.size wC).alloc (by simp) (.cells #[] 3)).grown hg5 (by simp) (fun j hj => by simp [Value.ownBlock] at hj; omega); clear hg5) | (at_builtin; refine wpList_append_own _ rfl (.tmp 44) (.tmp 49) 22 rfl wC.heap.size 3 i0 (.int .i64 0) 1 8 Try.underlying22 HI.out HZ0.out HZ1.out HZ2.out rfl (by decide) _ l.length (ints l) rfl (hown5.alloc _) ⟨w5.heap.size, 0, none⟩ 2 2 [.int .i64 (x / 256), .int .i64 (x % 256)] rfl rfl (two_new w5 _ _ _) (two_cells _ _ rfl rfl) (by rw [mx]; omega) (by omega) (by have := hb5.size; simp at this ⊢; omega) ?_; intro v6 w6 hown6 hg6 hnil; clear hnil; have hown6b := ownI_snoc2 hown6; have hb6 : Below wC.heap.size wC w6 := (hb5.alloc (by have := hb5.size; simp at this ⊢; omega) (.cells #[.int .i64 (x / 256), .int .i64 (x % 256)] 3)).grown hg6 (by have := hb5.size; simp at this ⊢; omega) (fun j hj => (hown5.lt j hj).1); have HC6 := Lib.hid (Rds.of_own hown6b); have HB6 := Lib.hid hb6; clear hown5 hb5 hown6 hg6 hown6b hb6))
            have hsum := fun (h : l.length % 2 = 0) (h14 : l.length ≤ 14) => HCL.out h h14
            have HTU6 := Lib.hid (HTU.out.below HB6.out HTUL.out)
            have htu := HIT.out _ _ HTU6.out
            have HTV := Lib.hid htu
            clear htu
            have hci := HIC.out _ _ HC6.out
            have hle : x ≤ 65535 := HXL.out
            have hle2 : decide (x ≤ 65535) = true := by simpa using hle
            have n4a : ¬ (l.length : Int) < 4 := by omega
            have n4b : decide ((l.length : Int) < 4) = false := by simp; omega
            rcases (show l.length % 2 = 1 ∨ (l.length % 2 = 0 ∧ 14 < l.length) ∨ (l.length % 2 = 0 ∧ l.length ≤ 14) from by omega) with hp | ⟨hp, h14⟩ | ⟨hp, h14⟩
            · have o1 : (((l.length : Int) % 2) == 1) = true := by simp; omega
              clear hci hp
              clear hsum
              go_wp2_with ((go_at_call 9; with_reducible refine HTV.out.mono ?_; rintro e w' ⟨rfl, rfl⟩))
              go_ret
              exact ⟨rfl, HB4.out.trans (HB6.out.mono hszT)⟩
            · have o1 : (((l.length : Int) % 2) == 1) = false := by simp; omega
              have o2 : (16 : Int) < (l.length : Int) + 2 := by omega
              have o3 : decide ((16 : Int) < (l.length : Int) + 2) = true := by simp; omega
              clear hci hp h14
              clear hsum
              go_wp2_with ((go_at_call 9; with_reducible refine HTV.out.mono ?_; rintro e w' ⟨rfl, rfl⟩))
              go_ret
              exact ⟨rfl, HB4.out.trans (HB6.out.mono hszT)⟩
            · have o1 : (((l.length : Int) % 2) == 1) = false := by simp; omega
              have o2 : ¬ (16 : Int) < (l.length : Int) + 2 := by omega
              have o3 : decide ((16 : Int) < (l.length : Int) + 2) = false := by simp; omega
              rw [hsum hp h14] at hci
              have HCI := Lib.hid hci
              clear hci hp h14
              clear hsum
              go_wp2_with (first | (go_at_call 9; with_reducible refine HCI.out.mono ?_; rintro e w' ⟨rfl, rfl⟩) | (go_at_call 9; with_reducible refine HTV.out.mono ?_; rintro e w' ⟨rfl, rfl⟩))
              go_ret
              exact ⟨rfl, HB4.out.trans (HB6.out.mono hszT)⟩
end Go.Proofs.Ytghamnccapggpaa
