/-
  The walks of the functions that say whether a text is bits. No condition but the lengths that are typed.
  Rows of texts in memory of a call's own, and the walk of the model's function that splits a text at a byte. Conditions: the lengths that are typed.
  The walk of the model's function that splits a text at a byte. Condition: the length that is typed.
-/
import Derived.Test.YtndpbhmokobbpaaGreatDoorRows
import Derived.Test.YtndpbhmokobbpaaGreatDoorDm04
import Derived.Test.YtndpbhmokobbpaaGreatDoorDm01
import Derived.WalkKit
import Derived.WalkSmall
import Derived.WalkLawsBesides
import Derived.WalkSpells
import Derived.Outline
import Derived.Lib.Hide
import Derived.Test.YtndpbhmokobbpaaGreatDoorDm02
namespace Go.Proofs.YtndpbhmokobbpaaGreatDoor
open Go.RowKit
set_option linter.unusedVariables false

theorem take_snoc (s : ByteArray) (k : Nat) (h : k < s.size) : s.data.toList.take (k + 1) = s.data.toList.take k ++ [s[k]] := by
  rw [List.take_succ_eq_append_getElem (by simpa using h)]; rfl
theorem all_snoc (s : ByteArray) (k : Nat) (h : k < s.size) : (s.data.toList.take (k + 1)).all isBit = ((s.data.toList.take k).all isBit && isBit s[k]) := by
  rw [take_snoc s k h]; simp

theorem isBit_of48 {c : UInt8} (h : (c.toNat : Int) = 48) : isBit c = true := by
  have : c = 48 := by rw [← UInt8.toNat_inj]; show c.toNat = 48; omega
  rw [this]; rfl
theorem isBit_of49 {c : UInt8} (h : (c.toNat : Int) = 49) : isBit c = true := by
  have : c = 49 := by rw [← UInt8.toNat_inj]; show c.toNat = 49; omega
  rw [this]; rfl
theorem isBit_or {c : UInt8} (h1 : ¬ (c.toNat : Int) = 48) (h : ((c.toNat : Int) != 48) = false ∨ ((c.toNat : Int) != 49) = false) : isBit c = true := by
  rcases h with h | h
  · exact absurd (by simpa using h) h1
  · exact isBit_of49 (by simpa using h)
theorem isBit_ne {c : UInt8} (h : ((c.toNat : Int) != 48) = true ∧ ((c.toNat : Int) != 49) = true) : isBit c = false := by
  obtain ⟨h1, h2⟩ := h
  have e1 : c ≠ 48 := by rintro rfl; simp at h1
  have e2 : c ≠ 49 := by rintro rfl; simp at h2
  simp [isBit, e1, e2]
theorem all_bad (s : ByteArray) (k : Nat) (h : k < s.size) (hb : isBit s[k] = false) : s.data.toList.all isBit = false := by
  rw [List.all_eq_false]
  exact ⟨s[k], by rw [show s[k] = s.data.toList[k]'(by simpa using h) from rfl]; exact List.getElem_mem _, by rw [hb]; simp⟩
theorem all_end (s : ByteArray) (k : Nat) (h : ¬ k < s.size) (ha : (s.data.toList.take k).all isBit = true) : s.data.toList.all isBit = true := by
  rwa [List.take_of_length_le (by simp; omega)] at ha
theorem bitsB_bad {m : Nat} {l : List UInt8} (h : l.all isBit = false) : bitsB m l = false := by simp [bitsB, h]
theorem bitsB_ok {m : Nat} (s : ByteArray) (h : s.data.toList.all isBit = true) : bitsB m s.data.toList = decide ((s.size : Int) ≤ m) := by
  have e : s.data.toList.length = s.size := by simp
  simp only [bitsB, h, e, Bool.and_true]
  congr 1
  simp

set_option maxHeartbeats 400000 in
theorem svb_any (s : ByteArray) (w : World) (hs : s.size ≤ maxLen) :
    Calls Tryz.prog 28 #[.string s] w fun e w' => e = .returned (.bool (bitsB 40 s.data.toList)) ∧ w = w' := by
  unfold maxLen at hs
  go_enter Tryz.func28, Tryz.ntmps28
  go_wp2
  go_loop [3] (fun i => ∃ k : Nat, k ≤ s.size ∧ i = .int .i64 k ∧ (s.data.toList.take k).all isBit = true) (fun i => s.size - (intOf i).toNat)
  case atStart => exact ⟨0, Nat.zero_le _, rfl, by simp⟩
  case round =>
    obtain ⟨k, hk, rfl, hall⟩ := hrel
    have HA := Lib.hid hall
    clear hall
    by_cases hlt : k < s.size
    · go_wp2
      · have hb := isBit_of48 (c := s[k]) (by assumption)
        go_round
        case rel => exact ⟨k + 1, by omega, by go_num, by rw [all_snoc s k hlt, HA.out, hb]; rfl⟩
        case measure => simp [intOf]; omega
      · have hb := isBit_ne (c := s[k]) (by assumption)
        go_ret
        exact ⟨ret_bool (bitsB_bad (all_bad s k hlt hb)).symm, rfl⟩
      · have hb := isBit_or (c := s[k]) (by assumption) (by assumption)
        go_round
        case rel => exact ⟨k + 1, by omega, by go_num, by rw [all_snoc s k hlt, HA.out, hb]; rfl⟩
        case measure => simp [intOf]; omega
    · go_wp2
      go_ret
      exact ⟨ret_bool (bitsB_ok s (all_end s k hlt HA.out)).symm, rfl⟩

/-- What a range over a text gives at a byte. -/
theorem dec_bit (s : ByteArray) (k : Nat) (h : k < s.size) (hb : isBit s[k] = true) : Utf8.decode s k = ((s[k].toNat), 1) := by
  apply decode_ascii s k h
  rcases isBit_cases hb with e | e <;> rw [e] <;> decide
theorem dec_no (s : ByteArray) (k : Nat) (h : k < s.size) (hb : isBit s[k] = false) : (((Utf8.decode s k).1 : Int) != 48) = true ∧ (((Utf8.decode s k).1 : Int) != 49) = true := by
  obtain ⟨h1, h2⟩ := isBit_no hb
  by_cases ha : s[k].toNat < 128
  · rw [decode_ascii s k h ha]
    have e1 : s[k].toNat ≠ 48 := fun e => h1 (by rw [← UInt8.toNat_inj]; exact e)
    have e2 : s[k].toNat ≠ 49 := fun e => h2 (by rw [← UInt8.toNat_inj]; exact e)
    constructor <;> rw [bne_iff_ne] <;> simp only [ne_eq] <;> omega
  · have := (decode_high s k h (by omega)).1
    constructor <;> rw [bne_iff_ne] <;> simp only [ne_eq] <;> omega

theorem dec_48 (s : ByteArray) (k : Nat) (h : k < s.size) (hd : ((Utf8.decode s k).1 : Int) = 48) : isBit s[k] = true := by
  cases hb : isBit s[k]
  · have := (dec_no s k h hb).1
    rw [hd] at this; simp at this
  · rfl
theorem dec_or (s : ByteArray) (k : Nat) (h : k < s.size) (h1 : ¬ ((Utf8.decode s k).1 : Int) = 48) (hd : (((Utf8.decode s k).1 : Int) != 48) = false ∨ (((Utf8.decode s k).1 : Int) != 49) = false) : isBit s[k] = true := by
  cases hb : isBit s[k]
  · have := dec_no s k h hb
    rcases hd with hd | hd
    · rw [hd] at this; simp at this
    · rw [hd] at this; simp at this
  · rfl
theorem dec_bad (s : ByteArray) (k : Nat) (h : k < s.size) (hd : (((Utf8.decode s k).1 : Int) != 48) = true ∧ (((Utf8.decode s k).1 : Int) != 49) = true) : isBit s[k] = false := by
  cases hb : isBit s[k]
  · rfl
  · rw [dec_bit s k h hb] at hd
    rcases isBit_cases hb with e | e
    · rw [e] at hd; simp at hd
    · rw [e] at hd; simp at hd

set_option maxHeartbeats 400000 in
theorem iob_any (s : ByteArray) (m : Nat) (w : World) (hs : s.size ≤ maxLen) (hm : m ≤ 1000) :
    Calls Tryz.prog 62 #[.string s, .int .i64 m] w fun e w' => e = .returned (.bool (bitsB m s.data.toList)) ∧ Below w.heap.size w w' := by
  unfold maxLen at hs
  by_cases hg : (m : Int) < (s.size : Int)
  · go_enter Tryz.func62, Tryz.ntmps62
    go_wp2
    go_ret
    have e : s.data.toList.length = s.size := by simp
    exact ⟨ret_bool (by simp [bitsB, e]; omega), Below.refl _ _⟩
  · go_enter Tryz.func62, Tryz.ntmps62
    go_wp2
    go_loopw [] (fun w' => ∃ k : Nat, k ≤ s.size ∧ w' = w.iter s k ∧ (s.data.toList.take k).all isBit = true) (fun w' => s.size - w'.iterPos w.heap.size)
    case atStart => exact ⟨0, Nat.zero_le _, rfl, by simp⟩
    case round =>
      obtain ⟨k, hk, rfl, hall⟩ := hrel
      have HA := Lib.hid hall
      clear hall
      by_cases hlt : k < s.size
      · have hnx : ∀ ty, (Instr.next (.pointer (some ⟨w.heap.size, 0, none⟩)) true ty).run Tryz.prog (w.iter s k) = _ := fun ty => run_next_any w s k ty hlt
        go_wp2
        · have hb := dec_48 s k hlt (by assumption)
          go_roundw
          case rel => exact ⟨k + 1, by omega, by rw [dec_bit s k hlt hb], by rw [all_snoc s k hlt, HA.out, hb]; rfl⟩
          case measure => rw [World.iterPos_iter, World.iterPos_iter, dec_bit s k hlt hb]; simp only []; omega
        · have hb := dec_bad s k hlt (by assumption)
          go_ret
          exact ⟨ret_bool (bitsB_bad (all_bad s k hlt hb)).symm, (Below.refl _ _).alloc (Nat.le_refl _) _⟩
        · have hb := dec_or s k hlt (by assumption) (by assumption)
          go_roundw
          case rel => exact ⟨k + 1, by omega, by rw [dec_bit s k hlt hb], by rw [all_snoc s k hlt, HA.out, hb]; rfl⟩
          case measure => rw [World.iterPos_iter, World.iterPos_iter, dec_bit s k hlt hb]; simp only []; omega
      · have hnx : ∀ ty, (Instr.next (.pointer (some ⟨w.heap.size, 0, none⟩)) true ty).run Tryz.prog (w.iter s k) = _ := fun ty => run_next_end w s k ty hlt
        go_wp2
        go_ret
        exact ⟨ret_bool (by rw [bitsB_ok s (all_end s k hlt HA.out)]; simp; omega), (Below.refl _ _).alloc (Nat.le_refl _) _⟩

set_option maxHeartbeats 400000 in
theorem iVB_any (s : ByteArray) (w : World) (hs : s.size ≤ maxLen) :
    Calls Tryz.prog 47 #[.string s] w fun e w' => e = .returned (.bool (bitsB 40 s.data.toList)) ∧ Below w.heap.size w w' := by
  go_enter Tryz.func47, Tryz.ntmps47
  go_wp2_with (go_at_call 62; refine (iob_any _ 40 _ hs (by omega)).mono ?_; rintro e w' ⟨rfl, hb⟩)
  go_ret
  exact ⟨rfl, hb⟩
end Go.Proofs.YtndpbhmokobbpaaGreatDoor

namespace Go.Proofs.YtndpbhmokobbpaaGreatDoor
open Go.RowKit
set_option linter.unusedVariables false

/-- A text of bytes. -/
def mkT (l : List UInt8) : ByteArray := ⟨l.toArray⟩
theorem mkT_data (s : ByteArray) : mkT s.data.toList = s := by cases s; rfl
theorem mkT_list (l : List UInt8) : (mkT l).data.toList = l := by simp [mkT]
theorem mkT_size (l : List UInt8) : (mkT l).size = l.length := rfl
theorem mkT_ext (s : ByteArray) (f i : Nat) : s.extract f i = mkT ((s.data.toList.drop f).take (i - f)) := by
  rw [← mkT_data (s.extract f i)]
  congr 1
  simp [ByteArray.data_extract, Array.toList_extract, List.extract]
theorem mkT_app (a b : List UInt8) : mkT a ++ mkT b = mkT (a ++ b) := by
  rw [← mkT_data (mkT a ++ mkT b)]
  congr 1
/-- The parts of a text, as texts. -/
def ptT (c : UInt8) (s : ByteArray) : List ByteArray := (pts c s.data.toList).map mkT
theorem ptT_split (c : UInt8) (s : ByteArray) : Lib.splitB ⟨#[c]⟩ 0 (Lib.countB s ⟨#[c]⟩) s = ptT c s := by
  unfold ptT
  rw [← split_pts c (s.size + 1) s (Nat.lt_succ_self _), List.map_map]
  have : (mkT ∘ fun x : ByteArray => x.data.toList) = id := by funext x; exact mkT_data x
  rw [this, List.map_id]
/-- A row of texts of the call's own. -/
def OwnT (w : World) (B : Nat) (v : Value) (xs : List ByteArray) : Prop := w.ownsRow B 9 1 v xs.length (strv xs)
theorem OwnT.form {w : World} {B : Nat} {v : Value} {xs : List ByteArray} (h : OwnT w B v xs) : ∃ A c, v = .slice A xs.length c := own_form h
theorem OwnT.empty (w : World) (B : Nat) (h : B ≤ w.heap.size) : OwnT (w.alloc (.cells #[] 9)) B (.slice (some ⟨w.heap.size, 0, none⟩) 0 0) [] :=
  World.ownsRow_made (base := B) (e := 9) (size := 1) w #[] 0 h (by unfold maxLen; omega) rfl
theorem OwnT.nil (w : World) (B : Nat) : OwnT w B (.slice none 0 0) [] := World.ownsRow_nil _ _ _ _
theorem OwnT.rss {w : World} {B : Nat} {v : Value} {xs : List ByteArray} (h : OwnT w B v xs) : Rss w v xs := by
  rcases h.2 with ⟨hv, h0⟩ | ⟨g, cap, cur, rfl, _⟩
  · rw [hv]
    exact ⟨none, 0, by rw [h0], fun h1 => by rw [h0] at h1; omega⟩
  · exact ⟨_, cap, rfl, fun _ => ⟨g, 0, rfl, OwnS.at_ h⟩⟩
theorem OwnT.below {w w' : World} {B : Nat} {v : Value} {xs : List ByteArray} (h : OwnT w B v xs) (hb : Below w.heap.size w w') : OwnT w' B v xs := own_belowS h hb (fun g hg => (World.ownsRow.lt h g hg).2)
theorem new1T (w : World) (y : ByteArray) (t : TypeId) : ∀ j u, (strv [y])[j]? = some u → (w.alloc (.cells #[.string y] t)).cell? ((⟨w.heap.size, 0, none⟩ : Addr).add j) = some u := by
  intro j u hj
  match j, hj with
  | 0, hj =>
    simp [strv] at hj
    subst hj
    simp [Addr.add]
theorem one1T (y : ByteArray) : ∀ u ∈ strv [y], u.oneCell' = true := by
  intro u hu
  have : u = .string y := by simpa [strv] using hu
  rw [this]; rfl
/-- One text is appended onto a row of the call's own. -/
theorem append_oneT {w0 : World} {ops : Array Oper} {rest : List Oper} {o : Oper} {a : Act} {Q : Exit → Act → World → Prop} (hgd : o.guard = none) (s x : Operand)
    (ho : o.op = .call { callee := .builtin .append, args := #[s, x], argTypes := #[22, 22] })
    (B : Nat) (v : Value) (l : List ByteArray) (y : ByteArray) (hs : a.eval s = v) (hx : a.eval x = .slice (some ⟨w0.heap.size, 0, none⟩) 1 1) (hown : OwnT w0 B v l) (hl : l.length ≤ 10000000) (hB : B ≤ w0.heap.size)
    (h : ∀ A c w', OwnT w' B (.slice A (l.length + 1) c) (l ++ [y]) → (w0.alloc (.cells #[.string y] 9)).grownBy w' v.ownBlock → Below B w0 w' → w0.heap.size ≤ w'.heap.size →
      wpList Tryz.prog ops Q rest (a.put o.dst (.slice A (l.length + 1) c)) w') : wpList Tryz.prog ops Q (o :: rest) a (w0.alloc (.cells #[.string y] 9)) := by
  obtain ⟨i0, hi, hz0, hz1, hz2⟩ := info_parts infoS
  refine wpList_append_own _ hgd s x 22 ho B 9 i0 (.string ByteArray.empty) 1 16 Tryz.underlying22 hi hz0 hz1 hz2 rfl (by decide) v l.length (strv l) hs (World.ownsRow.alloc hown _) ⟨w0.heap.size, 0, none⟩ 1 1 (strv [y]) hx rfl (new1T _ _ _) (one1T _) (by unfold maxLen; omega) (by omega) (by simp; omega) ?_
  intro v' w' h1 h2 _
  have h3 : OwnT w' B v' (l ++ [y]) := by
    unfold OwnT
    rw [strv_app, List.length_append]
    exact h1
  obtain ⟨A, c, rfl⟩ := own_form h1
  refine h A c w' h3 h2 ?_ ?_
  · exact ((Below.refl B w0).alloc hB _).grown h2 (by simp; omega) (fun j hj => by have := (World.ownsRow.lt hown j hj).1; omega)
  · have := h2.size
    simp at this; omega
end Go.Proofs.YtndpbhmokobbpaaGreatDoor

namespace Go.Proofs.YtndpbhmokobbpaaGreatDoor
open Go.RowKit
set_option linter.unusedVariables false

/-- What stands ahead of the first part. -/
def addp (q : List UInt8) : List (List UInt8) → List (List UInt8)
  | [] => [q]
  | p :: r => (q ++ p) :: r
theorem addp_nil {L : List (List UInt8)} (h : L ≠ []) : addp [] L = L := by
  cases L with
  | nil => exact absurd rfl h
  | cons p r => rfl
theorem pts_hit {c x : UInt8} {t : List UInt8} (h : x = c) (q : List UInt8) : addp q (pts c (x :: t)) = q :: pts c t := by
  rw [pts.eq_2, if_pos h]
  show (q ++ []) :: pts c t = q :: pts c t
  rw [List.append_nil]
theorem pts_pass {c x : UInt8} {t : List UInt8} (h : x ≠ c) (q : List UInt8) : addp q (pts c (x :: t)) = addp (q ++ [x]) (pts c t) := by
  have hn := pts_ne c t
  rw [pts.eq_2, if_neg h]
  cases hp : pts c t with
  | nil => exact absurd hp hn
  | cons p r => simp [addp]
/-- What the walk keeps. -/
def SpI (c : UInt8) (l : List UInt8) (O : List (List UInt8)) (f i : Nat) : Prop := pts c l = O ++ addp ((l.drop f).take (i - f)) (pts c (l.drop i))
theorem SpI.start (c : UInt8) (l : List UInt8) : SpI c l [] 0 0 := by
  unfold SpI
  simp only [List.drop_zero, Nat.sub_self, List.take_zero, List.nil_append]
  exact (addp_nil (pts_ne c l)).symm
theorem SpI.hit {c : UInt8} {l : List UInt8} {O : List (List UInt8)} {f i : Nat} (h : SpI c l O f i) (hi : i < l.length) (hx : l[i] = c) : SpI c l (O ++ [(l.drop f).take (i - f)]) (i + 1) (i + 1) := by
  unfold SpI at *
  rw [h, List.drop_eq_getElem_cons hi, pts_hit hx]
  simp only [Nat.sub_self, List.take_zero]
  rw [addp_nil (pts_ne c _)]
  simp
theorem SpI.pass {c : UInt8} {l : List UInt8} {O : List (List UInt8)} {f i : Nat} (h : SpI c l O f i) (hf : f ≤ i) (hi : i < l.length) (hx : l[i] ≠ c) : SpI c l O f (i + 1) := by
  unfold SpI at *
  rw [h, List.drop_eq_getElem_cons hi, pts_pass hx]
  have e : (l.drop f).take (i + 1 - f) = (l.drop f).take (i - f) ++ [l[i]] := by
    rw [show i + 1 - f = (i - f) + 1 from by omega, List.take_add_one, List.getElem?_drop, show f + (i - f) = i from by omega, List.getElem?_eq_getElem hi]
    rfl
  rw [e]
theorem SpI.done {c : UInt8} {l : List UInt8} {O : List (List UInt8)} {f i : Nat} (h : SpI c l O f i) (hi : i = l.length) : pts c l = O ++ [l.drop f] := by
  unfold SpI at h
  subst hi
  rw [h, List.drop_length, List.take_of_length_le (by rw [List.length_drop]; omega)]
  show O ++ [l.drop f ++ []] = O ++ [l.drop f]
  rw [List.append_nil]
theorem pts_len (c : UInt8) : ∀ l, (pts c l).length ≤ l.length + 1
  | [] => by simp [pts]
  | x :: t => by
    have ih := pts_len c t
    rw [pts.eq_2]
    split
    · simp; omega
    · cases hp : pts c t with
      | nil => simp
      | cons p r => rw [hp] at ih; simp at ih ⊢; omega
/-- What a function that splits leaves. -/
def SptPost (xs : List ByteArray) (w : World) (e : Ending) (w' : World) : Prop := ∃ u, e = .returned u ∧ OwnT w' w.heap.size u xs ∧ Below w.heap.size w w'

set_option maxRecDepth 50000 in
set_option maxHeartbeats 3200000 in
theorem spa_any (c : UInt8) (s : ByteArray) (w : World) (hs : s.size ≤ 1048576) :
    Calls Tryz.prog 26 #[.string s, .int .u8 (c.toNat : Int)] w (SptPost (ptT c s) w) := by
  have hsl : s.data.toList.length = s.size := Array.length_toList
  have HM := Lib.hid (OwnT.empty w w.heap.size (Nat.le_refl _))
  have HB0 := Lib.hid ((Below.refl w.heap.size w).alloc (Nat.le_refl _) (.cells #[] 9))
  have HPL := Lib.hid (pts_len c s.data.toList)
  go_enter Tryz.func26, Tryz.ntmps26
  go_wp2
  go_loopw [5, 6, 7] (fun ov fv iv wr => ∃ (O : List (List UInt8)) (f i : Nat), fv = .int .i64 f ∧ iv = .int .i64 i ∧ f ≤ i ∧ i ≤ s.size ∧ Hid (SpI c s.data.toList O f i) ∧ Hid (OwnT wr w.heap.size ov (O.map mkT)) ∧ O.length ≤ i ∧ Hid (Below w.heap.size w wr) ∧ w.heap.size ≤ wr.heap.size) (fun _ _ iv _ => s.size - (intOf iv).toNat)
  case atStart => exact ⟨[], 0, 0, rfl, rfl, Nat.le_refl _, Nat.zero_le _, Lib.hid (SpI.start _ _), Lib.hid HM.out, Nat.le_refl _, Lib.hid HB0.out, by rw [World.size_alloc]; omega⟩
  case round =>
    obtain ⟨O, f, i, rfl, rfl, hfi, hi, HI, HO, hOi, HB, hz⟩ := hrel
    obtain ⟨A, cp, hof⟩ := HO.out.form
    have hOl : (O.map mkT).length = O.length := List.length_map _
    rw [hOl] at hof
    subst hof
    clear hOl
    by_cases hlt : i < s.size
    · have hgi : s[i] = s.data.toList[i]'(by omega) := rfl
      by_cases hx : s[i] = c
      · have HN := Lib.hid (HI.out.hit (by omega) (by rw [← hgi]; exact hx))
        have hb : ((s[i].toNat : Int) == (c.toNat : Int)) = true := by rw [hx]; simp
        have HEE := Lib.hid (mkT_ext s f i)
        have hil : (i : Int) ≤ (s.size : Int) := by omega
        clear hx hgi HI
        go_wp2_with (at_builtin; go_loud (refine append_oneT rfl (.tmp 20) (.tmp 25) rfl w.heap.size _ (O.map mkT) (s.extract f i) rfl rfl HO.out (by rw [List.length_map]; omega) hz ?_); intro A9 c9 w9 hown9 hg9 hb9 hz9)
        have HO9 : Hid (OwnT w9 w.heap.size (.slice A9 ((O.map mkT).length + 1) c9) ((O ++ [(s.data.toList.drop f).take (i - f)]).map mkT)) := Lib.hid (by rw [List.map_append, List.map_cons, List.map_nil, ← HEE.out]; exact hown9)
        have HB9 := Lib.hid (HB.out.trans hb9)
        clear hown9 hg9 hb9 HEE
        go_wp2
        go_roundw
        case rel => exact ⟨_, i + 1, i + 1, by go_num, by go_num, Nat.le_refl _, by omega, HN, Lib.hid (by have := HO9.out; simpa using this), by simp; omega, HB9, by omega⟩
        case measure => simp [intOf]; omega
      · have HN := Lib.hid (HI.out.pass hfi (by omega) (by rw [← hgi]; exact hx))
        have hb : ((s[i].toNat : Int) == (c.toNat : Int)) = false := by
          refine beq_eq_false_iff_ne.2 (fun e => hx ?_)
          rw [← UInt8.toNat_inj]; omega
        clear hx hgi HI
        go_wp2
        go_roundw
        case rel => exact ⟨O, f, i + 1, rfl, by go_num, by omega, by omega, HN, Lib.hid HO.out, by omega, Lib.hid HB.out, hz⟩
        case measure => simp [intOf]; omega
    · have HN := Lib.hid (HI.out.done (by omega))
      have HEE : Hid (s.extract f s.size = mkT (s.data.toList.drop f)) := Lib.hid (by rw [mkT_ext, List.take_of_length_le (by rw [List.length_drop]; omega)])
      have hfs : f ≤ s.size := by omega
      clear HI
      go_wp2_with (at_builtin; go_loud (refine append_oneT rfl (.tmp 29) (.tmp 33) rfl w.heap.size _ (O.map mkT) (s.extract f s.size) rfl rfl HO.out (by rw [List.length_map]; omega) hz ?_); intro A9 c9 w9 hown9 hg9 hb9 hz9)
      have HO9 : Hid (OwnT w9 w.heap.size (.slice A9 ((O.map mkT).length + 1) c9) (ptT c s)) := Lib.hid (by unfold ptT; rw [HN.out, List.map_append, List.map_cons, List.map_nil, ← HEE.out]; exact hown9)
      have HB9 := Lib.hid (HB.out.trans hb9)
      clear hown9 hg9 hb9 HEE
      go_wp2
      go_ret
      exact ⟨.slice A9 (O.length + 1) c9, rfl, by have := HO9.out; rwa [List.length_map] at this, HB9.out⟩
end Go.Proofs.YtndpbhmokobbpaaGreatDoor
