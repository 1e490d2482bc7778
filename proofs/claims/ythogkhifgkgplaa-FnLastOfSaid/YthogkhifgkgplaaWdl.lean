/-
  The walk of the draw of LastOf, and what is true of lists that grow. Conditions: the list is one that can be.
-/
import Derived.Test.YthogkhifgkgplaaWsog
import Derived.Test.YthogkhifgkgplaaWla
import Derived.Test.YthogkhifgkgplaaWeql
namespace Go.Proofs.Ythogkhifgkgplaa
open Go.RowKit
set_option linter.unusedVariables false

theorem laF_tag {L : List Fd} {t : Int} : ∀ {k : Nat} {b : List Int}, laF L t k = some b → ∃ j, j < k ∧ (L.getD j f0).t = t
  | 0, b, h => by cases h
  | k + 1, b, h => by
    unfold laF at h
    split at h <;> rename_i hc
    · exact ⟨k, by omega, hc⟩
    · obtain ⟨j, hj, ht⟩ := laF_tag h
      exact ⟨j, by omega, ht⟩
theorem laR_push {L : List Fd} {t : Int} (h : (laR L t).isSome = true) (h5 : L.length ≠ 5) : laR (L ++ [⟨t, [7]⟩]) t = some [7] := by
  have hv : vfsB L = true := by
    cases hvb : vfsB L with
    | true => rfl
    | false => rw [laR_no hvb] at h; cases h
  rw [laR_yes hv] at h
  obtain ⟨b, hb⟩ := Option.isSome_iff_exists.1 h
  obtain ⟨j, hj, ht⟩ := laF_tag hb
  have hl := vfs_len hv
  obtain ⟨ht1, _⟩ := vf_parts (vfs_get hv j hj)
  rw [ht] at ht1
  have hv2 : vfsB (L ++ [⟨t, [7]⟩]) = true := by
    simp only [vfsB, Bool.and_eq_true, decide_eq_true_eq, List.all_append, List.length_append] at hv ⊢
    refine ⟨by simp; omega, hv.2, ?_⟩
    simp [vfB, tagB, bysB, by8, ht1.1, ht1.2]
  rw [laR_yes hv2, List.length_append]
  show laF _ t (L.length + 1) = _
  unfold laF
  have hg : (L ++ [(⟨t, [7]⟩ : Fd)]).getD L.length f0 = ⟨t, [7]⟩ := by simp [List.getD_eq_getElem?_getD]
  rw [hg, if_pos rfl]
theorem flQ_one {w : World} {B : Nat} {v : Value} {Q : List (Fd × Value)} (h : FOwn w B v Q) : ∀ u ∈ flQ Q, u.oneCell' = true := by
  have key : ∀ (P : List (Fd × Value)), (∀ p ∈ P, OwnL w B p.2 p.1.b) → ∀ u ∈ flQ P, u.oneCell' = true := by
    intro P
    induction P with
    | nil => intro _ u hu; simp [flQ] at hu
    | cons p l ih =>
      intro hp u hu
      simp only [flQ, List.mem_cons] at hu
      rcases hu with rfl | rfl | hu
      · rfl
      · exact own_oneCell (hp p List.mem_cons_self)
      · exact ih (fun q hq => hp q (List.mem_cons_of_mem _ hq)) u hu
  exact key Q (fun p hp => (h.each p hp).1)
theorem FOwn.copy {w w' : World} {B s : Nat} {v v0 v' : Value} {Q : List (Fd × Value)} (h : FOwn w B v Q) (hs : ∀ p ∈ Q, ∀ k, p.2.ownBlock = some k → k < s) (hv0 : v0.ownBlock = some s) (hg : w.grownBy w' v0.ownBlock)
    (hat : v'.ownBlock = v0.ownBlock ∨ v'.ownBlock = some w.heap.size) (hown : w'.ownsRow B 40 2 v' Q.length (flQ Q)) : FOwn w' B v' Q := by
  refine ⟨hown, fun p hp => ?_⟩
  obtain ⟨h1, h2⟩ := h.each p hp
  refine ⟨World.ownsRow.kept h1 hg ?_, fun k e => ?_⟩
  · cases hb : p.2.ownBlock with
    | none => exact .inl rfl
    | some k => exact .inr (by rw [hv0]; have := hs p hp k hb; simp; omega)
  · have := hs p hp k e
    have := (World.ownsRow.lt h1 k e).2
    rcases hat with hat | hat
    · rw [hat, hv0]; simp; omega
    · rw [hat]; simp; omega
theorem fds_len {Q : List (Fd × Value)} {n : Nat} (h : ∀ q ∈ Q, q.1.b.length ≤ n) (k : Nat) : ((Q.map (·.1)).getD k f0).b.length ≤ n := by
  by_cases hk : k < Q.length
  · have : (Q.map (·.1)).getD k f0 = (Q[k]).1 := by simp [List.getD_eq_getElem?_getD, hk]
    rw [this]
    exact h _ (List.getElem_mem hk)
  · rw [List.getD_eq_getElem?_getD, List.getElem?_eq_none (by simp; omega)]; simp [f0]

/-- What a draw of fields and a tag leaves. -/
def DloPost (w : World) (e : Ending) (w' : World) : Prop :=
  ∃ (v : Value) (Q : List (Fd × Value)) (t : Int) (B : Nat), e = .returned (.tuple #[v, .int .i64 t]) ∧ FOwn w' B v Q ∧ Q.length ≤ 6 ∧ (∀ q ∈ Q, q.1.b.length ≤ 40) ∧ w.heap.size < B ∧ B ≤ w'.heap.size ∧ Below w.heap.size w w'

set_option maxHeartbeats 1600000 in
theorem dlo_any (w : World) (a : Option Addr) (len cap : Nat) (zs : List Int) (h : IsRow .u8 w a len cap zs) :
    Calls Try.prog 17 #[.slice a len cap] w (DloPost w) := by
  have H := Lib.hid (nr_any w a len cap zs h)
  clear h
  go_enter Try.func17, Try.ntmps17
  go_wp2_with fail
  refine H.out.mono ?_
  rintro e w0 ⟨rfl, hr0, hb0, hsz⟩
  have HR0 := Lib.hid hr0
  have HB0 := Lib.hid hb0
  have HSZ := Lib.hid hsz
  clear hr0 hb0 hsz H
  go_wp2_with fail
  refine (sof_any HR0.out (by omega)).mono ?_
  rintro e w1 ⟨v, Q, p1, rfl, hv, hQ, hQb, hr1, hp1, hb1⟩
  have HR1 := Lib.hid hr1
  have HV1 := Lib.hid hv
  have HB1 := Lib.hid (HB0.out.trans hb1.b)
  have HZ1 := Lib.hid hb1.k.z
  have HQB := Lib.hid hQb
  have hgl := hr1.lt
  obtain ⟨A, c, hvf⟩ := hv.form
  subst hvf
  clear hr1 hv hb1 HR0 HB0 hQb
  go_wp2_with fail
  refine (one_any (HR1.out.alloc _) (by omega) w1.heap.size 7 7 [0, 1, 2, 3, 300, 128, 301] rfl (by omega) (by omega) (by omega) (new_ints w1 [0, 1, 2, 3, 300, 128, 301] _)).mono ?_
  rintro e w2 ⟨x, m, rfl, _, hw2⟩
  have HV2 : Hid (FOwn w2 w0.heap.size (.slice A Q.length c) Q) := Lib.hid (by rw [hw2]; exact HV1.out.keeps ((Keeps.refl w.heap.size w1).alloc _).picked (by have := HSZ.out; omega))
  have HB2 : Hid (Below w.heap.size w w2) := Lib.hid (by rw [hw2]; exact (HB1.out.alloc (by omega) _).trans (picked_below (HR1.out.alloc _) m))
  have HZ2 : Hid (w0.heap.size ≤ w2.heap.size) := Lib.hid (by rw [hw2, picked_size]; have := HZ1.out; simp; omega)
  clear hw2 HR1 HV1 HB1 HZ1 hgl
  go_wp2
  go_ret2
  exact ⟨_, Q, x, w0.heap.size, rfl, HV2.out, hQ, HQB.out, by have := HSZ.out; omega, HZ2.out, HB2.out⟩
end Go.Proofs.Ythogkhifgkgplaa
