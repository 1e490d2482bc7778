/-
  The walks of the program's functions on rests and seals. Conditions: the lengths that are typed.
-/
import Derived.Test.YtpneopldbeefhaaWrepe
import Derived.Test.YtpneopldbeefhaaWrem
namespace Go.Proofs.Ytpneopldbeefhaa
open Go.RowKit
set_option linter.unusedVariables false

/-- A text made bytes. -/
theorem conv_any (w : World) (s : ByteArray) : ∃ c w1, (convert 9 29 (.string s)).run Try.prog w = .ok (.slice (some ⟨w.heap.size, 0, none⟩) s.size c) w1 ∧ s.size ≤ c ∧ OwnB w1 w.heap.size s.data.toList ∧ Below w.heap.size w w1 ∧ w.heap.size < w1.heap.size := by
  refine ⟨_, _, run_bytes_of_string (P := Try.prog) w 9 29 5 s Try.underlying9 Try.underlying29 Try.underlying5, grownCap_ge _ _ _ _, ?_, ?_, ?_⟩
  · have hg : ∀ (C : Array Value) (t : TypeId) (fr : Nat × Nat), (w.drew.alloc (.cells C t fr)).heap[w.heap.size]? = some (.cells C t fr) := fun C t fr => by
      show (w.heap.push _)[w.heap.size]? = _
      simp
    have hl : s.data.toList.length = s.data.size := by simp
    have hsz : (bytesRow s (grownCap w s.size 0 5)).size ≥ s.data.size := by simp [bytesRow]
    refine ⟨by simp, fun s' p h => ?_, fun j hj => ?_, fun j hj => ?_⟩
    · rw [hg] at h; cases h
    · have h1 := World.cell?_alloc_mark w.drew (bytesRow s (grownCap w s.size 0 5)) 5 ((bytesRow s (grownCap w s.size 0 5)).size, (bytesRow s (grownCap w s.size 0 5)).size + 1) j
      have h2 := bytesRow_at s (grownCap w s.size 0 5) j (by omega)
      have h3 := h1.trans h2
      have h4 : s.data.toList.getD j 0 = s.data[j]'(by omega) := by
        rw [List.getD_eq_getElem?_getD, List.getElem?_eq_getElem hj]; rfl
      rw [h4]; exact h3
    · have h1 := World.frozen?_alloc_mark w.drew (bytesRow s (grownCap w s.size 0 5)) 5 (bytesRow s (grownCap w s.size 0 5)).size ((bytesRow s (grownCap w s.size 0 5)).size + 1) j
      refine Eq.trans h1 ?_
      rw [decide_eq_false (by omega)]; rfl
  · exact (Below.refl w.heap.size w).drew.alloc (Nat.le_refl _) _
  · simp

/-- Bytes made a text. -/
theorem own_back {w : World} {g off k cap : Nat} {L : List UInt8} (h : OwnB w g L) (hk : off + k = L.length) : (convert 29 9 (.slice (some ⟨g, off, none⟩) k cap)).run Try.prog w = .ok (.string ⟨(L.drop off).toArray⟩) w := by
  have e : (L.drop off).length = k := by simp; omega
  have := run_convert_bytes_back (P := Try.prog) w 29 9 5 ⟨g, off, none⟩ cap (L.drop off) Try.underlying29 Try.underlying5 Try.underlying9 (fun j hj => by
    have e2 : (⟨g, off, none⟩ : Addr).add j = ⟨g, off + j, none⟩ := by unfold Addr.add; split <;> simp_all
    rw [e2, h.cellAt (off + j) (by omega)]
    simp [List.getD_eq_getElem?_getD, List.getElem?_eq_getElem (by omega : off + j < L.length)])
  rw [e] at this
  exact this

/-- The cells at an address are the bytes l. -/
def At8 (w : World) (g off : Nat) (l : List UInt8) : Prop := ∀ j, j < l.length → w.cell? ⟨g, off + j, none⟩ = some (.int .u8 ((l.getD j 0).toNat : Int))
theorem OwnB.at_drop {w : World} {g : Nat} {L : List UInt8} (h : OwnB w g L) (off : Nat) : At8 w g off (L.drop off) := by
  intro j hj
  have : off + j < L.length := by simp at hj; omega
  rw [h.cellAt _ this]
  simp [List.getD_eq_getElem?_getD]

theorem any_bad (l : List UInt8) (k : Nat) (h : k < l.length) (hb : l.getD k 0 = 49) : l.any (· == 49) = true := by
  rw [List.any_eq_true]
  refine ⟨l.getD k 0, ?_, by rw [hb]; rfl⟩
  rw [List.getD_eq_getElem?_getD, List.getElem?_eq_getElem h]; exact List.getElem_mem h
theorem any_snoc (l : List UInt8) (k : Nat) (h : k < l.length) (ha : (l.take k).any (· == 49) = false) (hb : l.getD k 0 ≠ 49) : (l.take (k + 1)).any (· == 49) = false := by
  have e : l.take (k + 1) = l.take k ++ [l.getD k 0] := by
    rw [List.take_add_one, List.getElem?_eq_getElem h]
    simp [List.getD_eq_getElem?_getD, List.getElem?_eq_getElem h]
  rw [e, List.any_append, ha, List.any_cons, List.any_nil, beq_eq_false_iff_ne.2 hb]; rfl

set_option maxHeartbeats 800000 in
theorem idx_any (w : World) (g off cap n : Nat) (l : List UInt8) (hl : l.length = n) (hn1 : 1 ≤ n) (hn : n ≤ 2000) (h : At8 w g off l) :
    Calls Try.prog 45 #[.slice (some ⟨g, off, none⟩) n cap, .int .u8 49] w fun e w' => (∃ x : Int, e = .returned (.int .i64 x) ∧ decide (0 ≤ x) = l.any (· == 49) ∧ -1 ≤ x ∧ x ≤ 2000) ∧ w' = w := by
  have HL := Lib.hid hl
  have HC := Lib.hid h
  clear hl h
  go_enter Try.func45, Try.ntmps45
  go_wp2
  go_loop [8] (fun i => ∃ k : Nat, k ≤ n ∧ i = .int .i64 k ∧ (l.take k).any (· == 49) = false) (fun i => n - (intOf i).toNat)
  case atStart => exact ⟨0, Nat.zero_le _, rfl, by simp⟩
  case round =>
    obtain ⟨k, hk, rfl, hall⟩ := hrel
    have HA := Lib.hid hall
    clear hall
    by_cases hlt : k < n
    · have hkl : k < l.length := by have := HL.out; omega
      have hc := HC.out k hkl
      by_cases hb : l.getD k 0 = 49
      · have HX := Lib.hid (any_bad l k hkl hb)
        rw [hb] at hc
        have hc' : w.cell? ⟨g, off + k, none⟩ = some (.int .u8 49) := hc
        clear hc hb hkl
        go_wp2
        go_ret
        exact ⟨⟨_, rfl, by rw [HX.out]; simp, by omega, by omega⟩, rfl⟩
      · have HX := Lib.hid (any_snoc l k hkl HA.out hb)
        have hq : ((49 : Int) == ((l.getD k 0).toNat : Int)) = false := by
          rw [beq_eq_false_iff_ne]; intro e; exact hb (by rw [← UInt8.toNat_inj]; show _ = 49; omega)
        have hq2 : ¬ (49 : Int) = ((l.getD k 0).toNat : Int) := by
          intro e; exact hb (by rw [← UInt8.toNat_inj]; show _ = 49; omega)
        generalize l.getD k 0 = y at *
        clear hb hkl
        go_wp2
        go_round
        case rel => exact ⟨k + 1, by omega, by go_num, HX.out⟩
        case measure => simp [intOf]; omega
    · have e : l.take k = l := List.take_of_length_le (by have := HL.out; omega)
      rw [e] at HA
      go_wp2
      go_ret
      exact ⟨⟨_, rfl, by rw [HA.out]; rfl, by omega, by omega⟩, rfl⟩
set_option maxHeartbeats 400000 in
theorem con_any (w : World) (g off cap n : Nat) (l : List UInt8) (hl : l.length = n) (hn1 : 1 ≤ n) (hn : n ≤ 2000) (h : At8 w g off l) :
    Calls Try.prog 40 #[.slice (some ⟨g, off, none⟩) n cap, .int .u8 49] w fun e w' => e = .returned (.bool (l.any (· == 49))) ∧ w = w' := by
  have h1 := idx_any w g off cap n l hl hn1 hn h
  generalize l.any (· == 49) = b at *
  have H := Lib.hid h1
  clear h1 h
  go_enter Try.func40, Try.ntmps40
  go_wp2_with fail
  refine H.out.mono ?_
  rintro e w1 ⟨⟨x, rfl, hx, h1, h2⟩, rfl⟩
  subst hx
  go_wp2
  go_ret
  exact ⟨rfl, rfl⟩

set_option maxHeartbeats 800000 in
theorem lvn_any (p : ByteArray) (w : World) (g cap n : Nat) (l : List UInt8) (hl : l.length = n) (hp1 : 2 ≤ p.size) (hp : p.size ≤ 9) (hpb : p.data.toList.all isBit = true) (hlb : l.all isBit = true) (hn : n ≤ 2000) (hge : p.size - 1 ≤ n) (hcap : n ≤ cap) (h : OwnB w g l) :
    Calls Try.prog 24 #[.string p, .slice (some ⟨g, 0, none⟩) n cap] w fun e w' => e = .returned (.bool (wholeB p.data.toList l)) ∧ w.grownBy w' (some g) := by
  have h1 := div_any p w g cap n l hl hp1 hp hpb hlb hn hge hcap h
  have hlp : p.data.toList.length = p.size := by simp
  have hrl := remU_len p.data.toList l (by omega)
  have hr : remU p.data.toList l = (redU p.data.toList l (n - (p.size - 1))).drop (n - (p.size - 1)) := by unfold remU; rw [hl, hlp]
  rw [show wholeB p.data.toList l = !((remU p.data.toList l).any (· == 49)) from rfl]
  rw [hlp, hl] at hrl
  have hrl2 : (remU p.data.toList l).length = p.size - 1 := by rw [hrl]; omega
  have HR := Lib.hid hr
  have HRL := Lib.hid hrl2
  have H1 := Lib.hid h1
  have HCON := Lib.hid (fun W => con_any W g (n - (p.size - 1)) (cap - (n - (p.size - 1))) (p.size - 1) _ hrl2 (by omega) (by omega))
  generalize hb : (remU p.data.toList l).any (· == 49) = b at *
  clear h1 h hr hrl hrl2 hl hlp hpb hlb hb
  go_enter Try.func24, Try.ntmps24
  go_wp2_with fail
  refine H1.out.mono ?_
  rintro e w1 ⟨rfl, ho, hg⟩
  have hat := ho.at_drop (n - (p.size - 1))
  rw [← HR.out] at hat
  have hc := HCON.out w1 hat
  have HG := Lib.hid hg
  have HC := Lib.hid hc
  clear hat hc ho hg
  cases b
  all_goals
    go_wp2_with (go_at_call 40; refine HC.out.mono ?_; rintro e w' ⟨rfl, rfl⟩)
    go_ret
    exact ⟨rfl, HG.out⟩
set_option maxHeartbeats 400000 in
theorem lvn_few (p : ByteArray) (A : Option Addr) (n cap : Nat) (w : World) (hp : p.size ≤ 1000) (hn : n ≤ 2000) (h : n + 1 < p.size) :
    Calls Try.prog 24 #[.string p, .slice A n cap] w fun e w' => e = .returned (.bool false) ∧ w = w' := by
  have H := Lib.hid (div_few p A n cap w hp hn h)
  go_enter Try.func24, Try.ntmps24
  go_wp2_with (go_at_call 39; refine H.out.mono ?_; rintro e w' ⟨rfl, rfl⟩)
  go_ret
  exact ⟨rfl, rfl⟩
end Go.Proofs.Ytpneopldbeefhaa
