/-
  The walks of both functions WidthsOf. Conditions: the lengths that are typed.
-/
import Derived.Test.YtgpkopeaghobeaaWwd
namespace Go.Proofs.Ytgpkopeaghobeaa
open Go.RowKit
set_option linter.unusedVariables false

/-- What both give: a row of the call's own. -/
def RowPost (R : List Int) (w : World) (e : Ending) (w' : World) : Prop := ∃ u, e = .returned u ∧ OwnL w' w.heap.size u R ∧ Below w.heap.size w w'
theorem rowPost_nil {R : List Int} {w w' : World} (h : R = []) (hb : Below w.heap.size w w') : RowPost R w (.returned (.slice none 0 0)) w' := by
  subst h; exact ⟨_, rfl, OwnL.nil _ _, hb⟩
theorem rowPost_mk {R S : List Int} {w w' : World} {v : Value} (h : R = S) (ho : OwnL w' w.heap.size v S) (hb : Below w.heap.size w w') : RowPost R w (.returned v) w' := by
  subst h; exact ⟨_, rfl, ho, hb⟩

theorem widR_bad {lim : Int} {l : List UInt8} (h : widB lim l = false) : widR lim l = [] := by simp [widR, h]
theorem widR_ok {lim : Int} {l : List UInt8} (h : widB lim l = true) : widR lim l = wlist lim l := by simp [widR, h]
theorem sign_cases {c : UInt8} (h : isSign c = true) : c = 111 ∨ c = 120 ∨ c = 116 := by
  simp only [isSign, Bool.or_eq_true, beq_iff_eq] at h
  rcases h with (h | h) | h
  · exact .inl h
  · exact .inr (.inl h)
  · exact .inr (.inr h)
theorem sign_no {c : UInt8} (h : isSign c = false) : c ≠ 111 ∧ c ≠ 120 ∧ c ≠ 116 := by
  simp only [isSign, Bool.or_eq_false_iff, beq_eq_false_iff_ne, ne_eq] at h
  exact ⟨h.1.1, h.1.2, h.2⟩
theorem u8ne (c d : UInt8) (h : c ≠ d) : ((c.toNat : Int) != (d.toNat : Int)) = true := by
  have : c.toNat ≠ d.toNat := fun e => h (by rw [← UInt8.toNat_inj]; exact e)
  simp; omega

set_option maxHeartbeats 1600000 in
theorem sWO_any (lim : Int) (s : ByteArray) (w : World) (hs : s.size ≤ maxLen) :
    Calls Try.prog 5 #[.int .i64 lim, .string s] w (RowPost (widR lim s.data.toList) w) := by
  unfold maxLen at hs
  have hlen : s.data.toList.length = s.size := by simp
  cases hr : (decide ((1 : Int) ≤ lim) && decide (lim ≤ 30))
  · have e : widR lim s.data.toList = [] := widR_bad (by simp [widB, hr])
    rw [e]
    have H := inr_any w lim 1 30
    rw [hr] at H
    have HI := Lib.hid H
    clear H e hr hlen
    go_enter Try.func5, Try.ntmps5
    go_wp2_with (go_at_call 12; refine HI.out.mono ?_; rintro e w' ⟨rfl, rfl⟩)
    go_ret
    exact rowPost_nil rfl (Below.refl _ _)
  · have H := inr_any w lim 1 30
    rw [hr] at H
    have HI := Lib.hid H
    clear H
    by_cases hg : 16 < s.size
    · have e : widR lim s.data.toList = [] := widR_bad (by simp [widB, hlen]; omega)
      rw [e]
      clear e hr hlen
      go_enter Try.func5, Try.ntmps5
      go_wp2_with (go_at_call 12; refine HI.out.mono ?_; rintro e w' ⟨rfl, rfl⟩)
      go_ret
      exact rowPost_nil rfl (Below.refl _ _)
    · have hok : s.data.toList.all isSign = true → widR lim s.data.toList = wlist lim s.data.toList := fun ha => widR_ok (by simp only [widB, hr, hlen, ha]; simp; omega)
      have hbad : s.data.toList.all isSign = false → widR lim s.data.toList = [] := fun ha => widR_bad (by simp [widB, ha])
      obtain ⟨hl1, hl2⟩ : 1 ≤ lim ∧ lim ≤ 30 := by simpa using hr
      have HOK := fun h => Lib.hid (hok h)
      have HBAD := fun h => Lib.hid (hbad h)
      clear hok hbad hr hlen
      go_enter Try.func5, Try.ntmps5
      go_wp2_with (go_at_call 12; refine HI.out.mono ?_; rintro e w' ⟨rfl, rfl⟩)
      go_loop [5] (fun i => ∃ k : Nat, k ≤ s.size ∧ i = .int .i64 k ∧ (s.data.toList.take k).all isSign = true) (fun i => s.size - (intOf i).toNat)
      case atStart => exact ⟨0, Nat.zero_le _, rfl, by simp⟩
      case round =>
        obtain ⟨k, hk, rfl, hall⟩ := hrel
        have HA := Lib.hid hall
        clear hall
        by_cases hlt : k < s.size
        · cases hb : isSign s[k]
          · have HX := HBAD (allS_bad s k hlt hb)
            obtain ⟨n1, n2, n3⟩ := sign_no hb
            have q1 := u8ne _ _ n1
            have q2 := u8ne _ _ n2
            have q3 := u8ne _ _ n3
            rw [show ((111 : UInt8).toNat : Int) = 111 from rfl] at q1
            rw [show ((120 : UInt8).toNat : Int) = 120 from rfl] at q2
            rw [show ((116 : UInt8).toNat : Int) = 116 from rfl] at q3
            clear hb n1 n2 n3
            go_wp2
            go_ret
            exact rowPost_nil HX.out (Below.refl _ _)
          · have HX := Lib.hid (allS_snoc s k hlt HA.out hb)
            rcases sign_cases hb with e | e | e
            · have q : ((s[k].toNat : Int) != 111) = false := by rw [e]; rfl
              clear hb e
              go_wp2
              go_round
              case rel => exact ⟨k + 1, by omega, by go_num, HX.out⟩
              case measure => simp [intOf]; omega
            · have q0 : ((s[k].toNat : Int) != 111) = true := by rw [e]; rfl
              have q : ((s[k].toNat : Int) != 120) = false := by rw [e]; rfl
              clear hb e
              go_wp2
              go_round
              case rel => exact ⟨k + 1, by omega, by go_num, HX.out⟩
              case measure => simp [intOf]; omega
            · have q0 : ((s[k].toNat : Int) != 111) = true := by rw [e]; rfl
              have q1 : ((s[k].toNat : Int) != 120) = true := by rw [e]; rfl
              have q : ((s[k].toNat : Int) != 116) = false := by rw [e]; rfl
              clear hb e
              go_wp2
              go_round
              case rel => exact ⟨k + 1, by omega, by go_num, HX.out⟩
              case measure => simp [intOf]; omega
        · have ha := allS_end s k hlt HA.out
          have HX := HOK ha
          have HW := Lib.hid (swd_any lim s w hl1 hl2 (by omega) ha)
          clear ha
          go_wp2_with fail
          refine HW.out.mono ?_
          rintro e w1 ⟨u, rfl, hu, hb1⟩
          go_wp2
          go_ret
          exact rowPost_mk HX.out hu hb1

set_option maxHeartbeats 400000 in
theorem iWn_any (a b c : Int) (w : World) (ha : 1 ≤ a ∧ a ≤ 30) (hb : 1 ≤ b ∧ b ≤ 30) (hc : 1 ≤ c ∧ c ≤ 30) :
    Calls Try.prog 15 #[.int .i64 a, .int .i64 b, .int .i64 c] w fun e w' => e = .returned (.int .i64 (if a < b then min (2 * a) b else min (a + 1) c)) ∧ Below w.heap.size w w' := by
  by_cases hab : a < b
  · rw [if_pos hab]
    have H := Lib.hid (lst2_any (2 * a) b w.heap.size 1 (w.alloc (.cells #[.int .i64 b] 3)) (cell_of_row _ _ 0 _ _ (0, 0) (heap_alloc_new w _)))
    go_enter Try.func15, Try.ntmps15
    go_wp2_with fail
    refine H.out.mono ?_
    rintro e w1 ⟨rfl, rfl⟩
    go_wp2
    go_ret
    exact ⟨rfl, (Below.refl _ _).alloc (Nat.le_refl _) _⟩
  · rw [if_neg hab]
    have H := Lib.hid (lst2_any (a + 1) c w.heap.size 1 (w.alloc (.cells #[.int .i64 c] 3)) (cell_of_row _ _ 0 _ _ (0, 0) (heap_alloc_new w _)))
    go_enter Try.func15, Try.ntmps15
    go_wp2_with fail
    refine H.out.mono ?_
    rintro e w1 ⟨rfl, rfl⟩
    go_wp2
    go_ret
    exact ⟨rfl, (Below.refl _ _).alloc (Nat.le_refl _) _⟩

/-- What a range over a text gives at a byte that is no sign. -/
theorem dec_sign (s : ByteArray) (k : Nat) (h : k < s.size) (hb : isSign s[k] = false) : (((Utf8.decode s k).1 : Int) == 111) = false ∧ (((Utf8.decode s k).1 : Int) == 120) = false ∧ (((Utf8.decode s k).1 : Int) == 116) = false := by
  obtain ⟨h1, h2, h3⟩ := sign_no hb
  by_cases ha : s[k].toNat < 128
  · rw [decode_ascii s k h ha]
    exact ⟨u8n _ 111 h1, u8n _ 120 h2, u8n _ 116 h3⟩
  · have := (decode_high s k h (by omega)).1
    refine ⟨?_, ?_, ?_⟩ <;> (rw [beq_eq_false_iff_ne]; simp only [ne_eq]; omega)
theorem iter_below {w w' : World} {B k p : Nat} {s : ByteArray} (h : w.heap[k]? = some (.stringIter s p)) (hb : Below B w w') (hk : k < B) : w'.heap[k]? = some (.stringIter s p) := (hb.block k hk).trans h
theorem push_iter {IT p B : Nat} {s : ByteArray} {W w1 : World} {v : Value} {l : List Int} {o : Obj} (hit : W.heap[IT]? = some (.stringIter s p)) (hown : OwnL W B v l)
    (hg : (W.alloc o).grownBy w1 v.ownBlock) : w1.heap[IT]? = some (.stringIter s p) := by
  have hlt : IT < W.heap.size := (Array.getElem?_eq_some_iff.1 hit).1
  rw [hg.block IT (by simp; omega) ?_, Below.heap_alloc _ _ _ hlt]
  · exact hit
  · intro he
    rcases (hown : World.ownsRow _ _ _ _ _ _ _).2 with ⟨rfl, _⟩ | ⟨g, cap, cur, rfl, _, hh, _⟩
    · simp [Value.ownBlock] at he
    · simp [Value.ownBlock] at he
      subst he
      rw [hh] at hit; cases hit
end Go.Proofs.Ytgpkopeaghobeaa
