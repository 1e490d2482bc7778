/-
  The walks of the functions that say whether a text is bits. No condition but the lengths that are typed.
-/
import Derived.Test.YtogoedjcacnfcaaDoorRows
import Derived.Test.YtogoedjcacnfcaaDoorBits
import Derived.Test.YtogoedjcacnfcaaDoorMem
import Derived.WalkKit
import Derived.WalkSmall
import Derived.WalkLawsBesides
import Derived.WalkSpells
import Derived.Outline
import Derived.Lib.Hide
namespace Go.Proofs.YtogoedjcacnfcaaDoor
open Go.RowKit
set_option linter.unusedVariables false

theorem take_snoc (s : ByteArray) (k : Nat) (h : k < s.size) : s.data.toList.take (k + 1) = s.data.toList.take k ++ [s[k]] := by
  rw [List.take_succ_eq_append_getElem (by simpa using h)]; rfl
theorem all_snoc (s : ByteArray) (k : Nat) (h : k < s.size) : (s.data.toList.take (k + 1)).all isBit = ((s.data.toList.take k).all isBit && isBit s[k]) := by
  rw [take_snoc s k h]; simp

theorem isBit_of48 {c : UInt8} (h : (c.toNat : Int) = 48) : isBit c = true := by
  have : c = 48 := by rw [← UInt8.toNat_inj]; show c.toNat = 48; omega
  rw [this]; rfl
theorem isBit_of49 {c : UInt8} (h : (c.toNat : Int) = 49) : isBit c = true := by
  have : c = 49 := by rw [← UInt8.toNat_inj]; show c.toNat = 49; omega
  rw [this]; rfl
theorem isBit_or {c : UInt8} (h1 : ¬ (c.toNat : Int) = 48) (h : ((c.toNat : Int) != 48) = false ∨ ((c.toNat : Int) != 49) = false) : isBit c = true := by
  rcases h with h | h
  · exact absurd (by simpa using h) h1
  · exact isBit_of49 (by simpa using h)
theorem isBit_ne {c : UInt8} (h : ((c.toNat : Int) != 48) = true ∧ ((c.toNat : Int) != 49) = true) : isBit c = false := by
  obtain ⟨h1, h2⟩ := h
  have e1 : c ≠ 48 := by rintro rfl; simp at h1
  have e2 : c ≠ 49 := by rintro rfl; simp at h2
  simp [isBit, e1, e2]
theorem all_bad (s : ByteArray) (k : Nat) (h : k < s.size) (hb : isBit s[k] = false) : s.data.toList.all isBit = false := by
  rw [List.all_eq_false]
  exact ⟨s[k], by rw [show s[k] = s.data.toList[k]'(by simpa using h) from rfl]; exact List.getElem_mem _, by rw [hb]; simp⟩
theorem all_end (s : ByteArray) (k : Nat) (h : ¬ k < s.size) (ha : (s.data.toList.take k).all isBit = true) : s.data.toList.all isBit = true := by
  rwa [List.take_of_length_le (by simp; omega)] at ha
theorem bitsB_bad {m : Nat} {l : List UInt8} (h : l.all isBit = false) : bitsB m l = false := by simp [bitsB, h]
theorem bitsB_ok {m : Nat} (s : ByteArray) (h : s.data.toList.all isBit = true) : bitsB m s.data.toList = decide ((s.size : Int) ≤ m) := by
  have e : s.data.toList.length = s.size := by simp
  simp only [bitsB, h, e, Bool.and_true]
  congr 1
  simp

set_option maxHeartbeats 400000 in
theorem svb_any (s : ByteArray) (w : World) (hs : s.size ≤ maxLen) :
    Calls Tryd.prog 32 #[.string s] w fun e w' => e = .returned (.bool (bitsB 40 s.data.toList)) ∧ w = w' := by
  unfold maxLen at hs
  go_enter Tryd.func32, Tryd.ntmps32
  go_wp2
  go_loop [3] (fun i => ∃ k : Nat, k ≤ s.size ∧ i = .int .i64 k ∧ (s.data.toList.take k).all isBit = true) (fun i => s.size - (intOf i).toNat)
  case atStart => exact ⟨0, Nat.zero_le _, rfl, by simp⟩
  case round =>
    obtain ⟨k, hk, rfl, hall⟩ := hrel
    have HA := Lib.hid hall
    clear hall
    by_cases hlt : k < s.size
    · go_wp2
      · have hb := isBit_of48 (c := s[k]) (by assumption)
        go_round
        case rel => exact ⟨k + 1, by omega, by go_num, by rw [all_snoc s k hlt, HA.out, hb]; rfl⟩
        case measure => simp [intOf]; omega
      · have hb := isBit_ne (c := s[k]) (by assumption)
        go_ret
        exact ⟨ret_bool (bitsB_bad (all_bad s k hlt hb)).symm, rfl⟩
      · have hb := isBit_or (c := s[k]) (by assumption) (by assumption)
        go_round
        case rel => exact ⟨k + 1, by omega, by go_num, by rw [all_snoc s k hlt, HA.out, hb]; rfl⟩
        case measure => simp [intOf]; omega
    · go_wp2
      go_ret
      exact ⟨ret_bool (bitsB_ok s (all_end s k hlt HA.out)).symm, rfl⟩

/-- What a range over a text gives at a byte. -/
theorem dec_bit (s : ByteArray) (k : Nat) (h : k < s.size) (hb : isBit s[k] = true) : Utf8.decode s k = ((s[k].toNat), 1) := by
  apply decode_ascii s k h
  rcases isBit_cases hb with e | e <;> rw [e] <;> decide
theorem dec_no (s : ByteArray) (k : Nat) (h : k < s.size) (hb : isBit s[k] = false) : (((Utf8.decode s k).1 : Int) != 48) = true ∧ (((Utf8.decode s k).1 : Int) != 49) = true := by
  obtain ⟨h1, h2⟩ := isBit_no hb
  by_cases ha : s[k].toNat < 128
  · rw [decode_ascii s k h ha]
    have e1 : s[k].toNat ≠ 48 := fun e => h1 (by rw [← UInt8.toNat_inj]; exact e)
    have e2 : s[k].toNat ≠ 49 := fun e => h2 (by rw [← UInt8.toNat_inj]; exact e)
    constructor <;> rw [bne_iff_ne] <;> simp only [ne_eq] <;> omega
  · have := (decode_high s k h (by omega)).1
    constructor <;> rw [bne_iff_ne] <;> simp only [ne_eq] <;> omega

theorem dec_48 (s : ByteArray) (k : Nat) (h : k < s.size) (hd : ((Utf8.decode s k).1 : Int) = 48) : isBit s[k] = true := by
  cases hb : isBit s[k]
  · have := (dec_no s k h hb).1
    rw [hd] at this; simp at this
  · rfl
theorem dec_or (s : ByteArray) (k : Nat) (h : k < s.size) (h1 : ¬ ((Utf8.decode s k).1 : Int) = 48) (hd : (((Utf8.decode s k).1 : Int) != 48) = false ∨ (((Utf8.decode s k).1 : Int) != 49) = false) : isBit s[k] = true := by
  cases hb : isBit s[k]
  · have := dec_no s k h hb
    rcases hd with hd | hd
    · rw [hd] at this; simp at this
    · rw [hd] at this; simp at this
  · rfl
theorem dec_bad (s : ByteArray) (k : Nat) (h : k < s.size) (hd : (((Utf8.decode s k).1 : Int) != 48) = true ∧ (((Utf8.decode s k).1 : Int) != 49) = true) : isBit s[k] = false := by
  cases hb : isBit s[k]
  · rfl
  · rw [dec_bit s k h hb] at hd
    rcases isBit_cases hb with e | e
    · rw [e] at hd; simp at hd
    · rw [e] at hd; simp at hd

set_option maxHeartbeats 400000 in
theorem iob_any (s : ByteArray) (m : Nat) (w : World) (hs : s.size ≤ maxLen) (hm : m ≤ 1000) :
    Calls Tryd.prog 19 #[.string s, .int .i64 m] w fun e w' => e = .returned (.bool (bitsB m s.data.toList)) ∧ Below w.heap.size w w' := by
  unfold maxLen at hs
  by_cases hg : (m : Int) < (s.size : Int)
  · go_enter Tryd.func19, Tryd.ntmps19
    go_wp2
    go_ret
    have e : s.data.toList.length = s.size := by simp
    exact ⟨ret_bool (by simp [bitsB, e]; omega), Below.refl _ _⟩
  · go_enter Tryd.func19, Tryd.ntmps19
    go_wp2
    go_loopw [] (fun w' => ∃ k : Nat, k ≤ s.size ∧ w' = w.iter s k ∧ (s.data.toList.take k).all isBit = true) (fun w' => s.size - w'.iterPos w.heap.size)
    case atStart => exact ⟨0, Nat.zero_le _, rfl, by simp⟩
    case round =>
      obtain ⟨k, hk, rfl, hall⟩ := hrel
      have HA := Lib.hid hall
      clear hall
      by_cases hlt : k < s.size
      · have hnx : ∀ ty, (Instr.next (.pointer (some ⟨w.heap.size, 0, none⟩)) true ty).run Tryd.prog (w.iter s k) = _ := fun ty => run_next_any w s k ty hlt
        go_wp2
        · have hb := dec_48 s k hlt (by assumption)
          go_roundw
          case rel => exact ⟨k + 1, by omega, by rw [dec_bit s k hlt hb], by rw [all_snoc s k hlt, HA.out, hb]; rfl⟩
          case measure => rw [World.iterPos_iter, World.iterPos_iter, dec_bit s k hlt hb]; simp only []; omega
        · have hb := dec_bad s k hlt (by assumption)
          go_ret
          exact ⟨ret_bool (bitsB_bad (all_bad s k hlt hb)).symm, (Below.refl _ _).alloc (Nat.le_refl _) _⟩
        · have hb := dec_or s k hlt (by assumption) (by assumption)
          go_roundw
          case rel => exact ⟨k + 1, by omega, by rw [dec_bit s k hlt hb], by rw [all_snoc s k hlt, HA.out, hb]; rfl⟩
          case measure => rw [World.iterPos_iter, World.iterPos_iter, dec_bit s k hlt hb]; simp only []; omega
      · have hnx : ∀ ty, (Instr.next (.pointer (some ⟨w.heap.size, 0, none⟩)) true ty).run Tryd.prog (w.iter s k) = _ := fun ty => run_next_end w s k ty hlt
        go_wp2
        go_ret
        exact ⟨ret_bool (by rw [bitsB_ok s (all_end s k hlt HA.out)]; simp; omega), (Below.refl _ _).alloc (Nat.le_refl _) _⟩

set_option maxHeartbeats 400000 in
theorem iVB_any (s : ByteArray) (w : World) (hs : s.size ≤ maxLen) :
    Calls Tryd.prog 16 #[.string s] w fun e w' => e = .returned (.bool (bitsB 40 s.data.toList)) ∧ Below w.heap.size w w' := by
  go_enter Tryd.func16, Tryd.ntmps16
  go_wp2_with (go_at_call 19; refine (iob_any _ 40 _ hs (by omega)).mono ?_; rintro e w' ⟨rfl, hb⟩)
  go_ret
  exact ⟨rfl, hb⟩
end Go.Proofs.YtogoedjcacnfcaaDoor
