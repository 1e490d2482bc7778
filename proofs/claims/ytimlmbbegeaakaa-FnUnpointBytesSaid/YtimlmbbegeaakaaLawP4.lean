/-
  The walk of the law FnUnpointBytes: it returns true at every code. No condition but that the code is a list that can be.
-/
import Derived.Test.YtimlmbbegeaakaaWbent
import Derived.Test.YtimlmbbegeaakaaWeql
import Derived.Test.YtimlmbbegeaakaaWunpS
import Derived.Test.YtimlmbbegeaakaaWpntS
namespace Go.Proofs.Ytimlmbbegeaakaa
open Go.RowKit
set_option linter.unusedVariables false

set_option maxHeartbeats 800000 in
theorem dup_any (w : World) (a : Option Addr) (len cap : Nat) (zs : List Int) (h : IsRow .u8 w a len cap zs) :
    Calls Try.prog 18 #[.slice a len cap] w fun e w' => ∃ u l W0, e = .returned u ∧ w'.ownsRow W0 3 1 u l.length (ints l) ∧ l.length ≤ 33 ∧ Below w.heap.size w w' := by
  have H := Lib.hid (nr_any w a len cap zs h)
  clear h
  go_enter Try.func18, Try.ntmps18
  go_wp2_with fail
  refine H.out.mono ?_
  rintro e w1 ⟨rfl, hr, hb, hz⟩
  have HR := Lib.hid hr
  clear hr H
  go_wp2_with fail
  refine (sy_any HR.out (by omega)).mono ?_
  rintro e w2 ⟨u, l, p', rfl, ho, hl, hr2, hp2, hb2⟩
  have HU := Lib.hid (Rds.of_own ho)
  have hz2 := hb2.size
  have hgl := hr2.lt
  have HR2 := Lib.hid hr2
  have hbb := hb.trans hb2
  clear ho hr2 HR hb hb2
  go_wp2_with fail
  refine (sPB_any _ _ l HU.out (by omega)).mono ?_
  rintro e w3 ⟨s, rfl, hs, hb3⟩
  have hr3 : Rd w.heap.size w3 w.heap.size p' := HR2.out.keep (hb3.mono (by omega)) (hb3.block _ hgl)
  have HR3 := Lib.hid hr3
  have HS := Lib.hid hs
  have hRl := pntR'_len l
  have hbb3 := hbb.trans (hb3.mono hbb.size)
  clear hs hr3 HR2 HU hbb
  go_wp2_with fail
  refine (bent_any HR3.out (by omega) hgl (by omega) HS.out).mono ?_
  rintro e w4 ⟨u4, l4, rfl, ho4, hl4, hb4⟩
  have hbb4 := hbb3.trans hb4
  have HO4 := Lib.hid ho4
  clear ho4 hb4 hbb3
  go_wp2
  go_ret
  exact ⟨u4, l4, _, rfl, HO4.out, by omega, hbb4⟩

theorem unp_bytes : ∀ (l o : List Int) (r : Nat) (f : Bool), unp f r l = some o → (∀ x ∈ l, isByte x = true) → ∀ x ∈ o, isByte x = true
  | [], o, 0, f, h, _ => by simp [unp] at h; subst h; simp
  | [], o, r + 1, f, h, _ => by simp [unp] at h
  | b :: l, o, 0, f, h, hl => by
    rw [unp] at h
    by_cases hb : b < 1
    · simp [hb] at h
    · rw [if_neg hb] at h
      obtain ⟨o1, ho, e⟩ := Option.map_eq_some_iff.1 h
      have ih := unp_bytes l o1 _ false ho (fun x hx => hl x (by simp [hx]))
      cases f
      · simp at e; subst e
        intro x hx
        rcases List.mem_cons.1 hx with rfl | hx
        · rfl
        · exact ih x hx
      · simp at e; subst e; exact ih
  | b :: l, o, r + 1, f, h, hl => by
    rw [unp] at h
    by_cases hb : b < 1
    · simp [hb] at h
    · rw [if_neg hb] at h
      obtain ⟨o1, ho, e⟩ := Option.map_eq_some_iff.1 h
      have ih := unp_bytes l o1 _ false ho (fun x hx => hl x (by simp [hx]))
      subst e
      intro x hx
      rcases List.mem_cons.1 hx with rfl | hx
      · exact hl _ (by simp)
      · exact ih x hx
theorem escR_une {l o : List Int} (h : unpR l = some o) : pntR' o = l := by
  unfold unpR at h
  by_cases h1 : l ≠ [] ∧ bytesB 17 l = true
  · rw [if_pos h1] at h
    have h2 := pnt_unp l o h1.1 h
    have h3 : l.length ≤ 17 ∧ ∀ x ∈ l, isByte x = true := by simpa [bytesB] using h1.2
    have h4 := pnt_len o
    rw [h2] at h4
    have h5 : bytesB 16 o = true := by
      simp only [bytesB, Bool.and_eq_true, decide_eq_true_eq]
      exact ⟨by omega, List.all_eq_true.2 (unp_bytes l o 0 true h h3.2)⟩
    unfold pntR'
    rw [if_pos h5, h2]
  · rw [if_neg h1] at h; cases h

set_option maxHeartbeats 3200000 in
theorem fnUnpointBytes_walk (a : Option Addr) (len cap : Nat) (zs : List Int) (w : World) (h : IsRow .u8 w a len cap zs) :
    Calls Try.prog 6 #[.slice a len cap] w fun e w' => e = .returned (.bool true) ∧ Below w.heap.size w w' := by
  by_cases hg : (1048576 : Int) < (len : Int)
  · go_enter Try.func6, Try.ntmps6
    go_wp2_with fail
    go_ret
    exact ⟨rfl, Below.refl _ _⟩
  · have H := Lib.hid (dup_any w a len cap zs h)
    clear h
    go_enter Try.func6, Try.ntmps6
    go_wp2_with fail
    refine H.out.mono ?_
    rintro e w1 ⟨u, l, B1, rfl, hu, hl, hb1⟩
    have HU := Lib.hid (Rds.of_own hu)
    have HLU := Lib.hid (own_lies (xs := l) hu)
    have hfu := own_fits' hu
    clear H hu
    have hI := fun W h => iUP_any W u l h (by omega) hfu
    have hS := fun W h => sUP_any W u l h (by omega)
    have hRl := unpR_len l
    unfold UnPost at hI hS
    cases hr : unpR l with
    | none =>
      rw [hr] at hI hS
      have HI : ∀ W, Rds W u l → Calls Try.prog 14 #[u] W fun e w' => ∃ v, e = .returned (.tuple #[v, .bool false]) ∧ w'.ownsRow W.heap.size 3 1 v 0 (ints []) ∧ Below W.heap.size W w' := hI
      have HS : ∀ W, Rds W u l → Calls Try.prog 13 #[u] W fun e w' => ∃ v, e = .returned (.tuple #[v, .bool false]) ∧ w'.ownsRow W.heap.size 3 1 v 0 (ints []) ∧ Below W.heap.size W w' := hS
      have HII := Lib.hid HI
      have HSS := Lib.hid HS
      clear hI hS HI HS hr hRl
      go_wp2_with fail
      refine (HII.out _ HU.out).mono ?_
      rintro e w2 ⟨o, rfl, ho, hb2⟩
      have HO : Hid (Rds w2 o []) := Rds.of_own ho
      have HLO := Lib.hid (own_lies (xs := []) ho)
      have HU2 := Lib.hid (HU.out.below hb2 HLU.out)
      have hz2 := hb2.size
      have hbb2 := hb1.trans (hb2.mono hb1.size)
      clear ho HU hb1 hb2
      go_wp2_with fail
      refine (HSS.out _ HU2.out).mono ?_
      rintro e w3 ⟨s, rfl, hs, hb3⟩
      have HS3 : Hid (Rds w3 s []) := Rds.of_own hs
      have HO3 := Lib.hid (HO.out.below hb3 HLO.out)
      have hbb3 := hbb2.trans (hb3.mono hbb2.size)
      clear hs HU2 HO hbb2 hb3
      go_wp2_with fail
      refine (eqL_same _ _ _ [] HO3.out HS3.out (by simp)).mono ?_
      rintro e w4 ⟨rfl, m4, rfl⟩
      go_wp2_with fail
      refine (eqL_same _ _ _ [] (HO3.out.drewN m4) (HS3.out.drewN m4) (by simp)).mono ?_
      rintro e w5 ⟨rfl, m5, rfl⟩
      go_wp2
      go_ret
      exact ⟨rfl, below_drewN hbb3 (m4 + m5)⟩
    | some r =>
      have he := escR_une hr
      rw [hr] at hI hS hRl
      have HI : ∀ W, Rds W u l → Calls Try.prog 14 #[u] W fun e w' => ∃ v, e = .returned (.tuple #[v, .bool true]) ∧ w'.ownsRow W.heap.size 3 1 v r.length (ints r) ∧ Below W.heap.size W w' := hI
      have HS : ∀ W, Rds W u l → Calls Try.prog 13 #[u] W fun e w' => ∃ v, e = .returned (.tuple #[v, .bool true]) ∧ w'.ownsRow W.heap.size 3 1 v r.length (ints r) ∧ Below W.heap.size W w' := hS
      have hr16 : r.length ≤ 17 := hRl
      have hE : ∀ W v, Rds W v r → Calls Try.prog 9 #[v] W fun e w' => ∃ u, e = .returned u ∧ w'.ownsRow W.heap.size 3 1 u l.length (ints l) ∧ Below W.heap.size W w' := fun W v h => by
        have := iPB_any W v r h (by omega)
        rw [he] at this; exact this
      have HII := Lib.hid HI
      have HSS := Lib.hid HS
      have HEE := Lib.hid hE
      clear hI hS HI HS hr hRl he hE
      go_wp2_with fail
      refine (HII.out _ HU.out).mono ?_
      rintro e w2 ⟨o, rfl, ho, hb2⟩
      have HO : Hid (Rds w2 o r) := Rds.of_own ho
      have HLO := Lib.hid (own_lies (xs := r) ho)
      have HU2 := Lib.hid (HU.out.below hb2 HLU.out)
      have hz2 := hb2.size
      have hbb2 := hb1.trans (hb2.mono hb1.size)
      clear ho HU hb1 hb2
      go_wp2_with fail
      refine (HSS.out _ HU2.out).mono ?_
      rintro e w3 ⟨s, rfl, hs, hb3⟩
      have hz3 := hb3.size
      have HS3 : Hid (Rds w3 s r) := Rds.of_own hs
      have HU3 := Lib.hid (HU2.out.below hb3 (HLU.out.mono hz2))
      have HO3 := Lib.hid (HO.out.below hb3 HLO.out)
      have hbb3 := hbb2.trans (hb3.mono hbb2.size)
      clear hs HU2 HO hbb2 hb3
      go_wp2_with fail
      refine (eqL_same _ _ _ r HO3.out HS3.out (by omega)).mono ?_
      rintro e w4 ⟨rfl, m4, rfl⟩
      go_wp2_with fail
      refine (HEE.out _ _ (HO3.out.drewN m4)).mono ?_
      rintro e w5 ⟨k, rfl, hk, hb5⟩
      have hb5' : Below w3.heap.size w3 w5 := (below_drewN (Below.refl w3.heap.size w3) m4).trans hb5
      have HK : Hid (Rds w5 k l) := Rds.of_own hk
      have HU5 := Lib.hid (HU3.out.below hb5' (HLU.out.mono (Nat.le_trans hz2 hz3)))
      have hbb5 := hbb3.trans (hb5'.mono hbb3.size)
      clear hk hb5 hb5' hbb3
      go_wp2_with fail
      refine (eqL_same _ _ _ l HK.out HU5.out (by omega)).mono ?_
      rintro e w6 ⟨rfl, m6, rfl⟩
      go_wp2
      go_ret
      exact ⟨rfl, below_drewN hbb5 m6⟩
end Go.Proofs.Ytimlmbbegeaakaa
