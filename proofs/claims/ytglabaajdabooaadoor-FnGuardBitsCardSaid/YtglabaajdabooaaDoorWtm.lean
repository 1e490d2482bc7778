/-
  The walks of what draws four and seven bits, and of the laws' own function that turns a bit. Conditions: where the reader lies, and the bounds that are typed.
-/
import Derived.Test.YtglabaajdabooaaDoorWnr
import Derived.Test.YtglabaajdabooaaDoorWof
import Derived.Test.YtglabaajdabooaaDoorWtxt
import Derived.Deep.RegionWith
import Derived.Lib.Strings
import Derived.IntWalk
import Derived.BigQuiet
import Derived.Deep.QuietTactic
namespace Go.Proofs.YtglabaajdabooaaDoor
open Go.RowKit
set_option linter.unusedVariables false

theorem tm_at (s : ByteArray) (k : Nat) (h : k < s.size) : s.data.toList.getD k 0 = s[k] := by
  have h' : k < s.data.toList.length := by simpa using h
  rw [List.getD_eq_getElem?_getD, List.getElem?_eq_getElem h']; rfl
theorem tm_49 (c : UInt8) : (c == 49) = ((c.toNat : Int) == 49) := by
  by_cases h : c = 49
  · subst h; rfl
  · have : c.toNat ≠ 49 := fun e => h (by rw [← UInt8.toNat_inj]; exact e)
    rw [beq_eq_false_iff_ne.2 h, beq_eq_false_iff_ne.2 (by omega)]
/-- The other byte of a bit. -/
def flipU (c : UInt8) : UInt8 := if c = 49 then 48 else 49
/-- A text with one bit turned. -/
def turnU (l : List UInt8) (i : Nat) : List UInt8 := l.take i ++ [flipU (l.getD i 0)] ++ l.drop (i + 1)
theorem tb_eq (s : ByteArray) (i : Nat) (h : i < s.size) (c : UInt8) (hc : flipU s[i] = c) : s.extract 0 i ++ ByteArray.mk #[c] ++ s.extract (i + 1) s.size = ByteArray.mk (turnU s.data.toList i).toArray := by
  rw [Lib.extract_eq, Lib.extract_eq, show (#[c] : Array UInt8) = [c].toArray from rfl, ByteArray.mk_append_mk, ByteArray.mk_append_mk]
  unfold turnU
  rw [tm_at s i h, hc, List.drop_zero, Nat.sub_zero, List.take_of_length_le (l := s.data.toList.drop (i + 1)) (by simp)]

set_option maxHeartbeats 800000 in
theorem tb_any (s : ByteArray) (i : Nat) (w : World) (h : i < s.size) (hs : s.size ≤ 2000) :
    Calls Tryd.prog 12 #[.string s, .int .i64 i] w fun e w' => e = .returned (.string ⟨(turnU s.data.toList i).toArray⟩) ∧ ∃ m, w' = w.drewN m := by
  have q1 : IntKind.i64.wrap ((i : Int) + 1) = (i : Int) + 1 := IntWalk.i64_in _ (by omega)
  have q2 : (0 : Int) ≤ (i : Int) + 1 := by omega
  have q3 : ((i : Int) + 1).toNat = i + 1 := by omega
  have q4 : (i : Int) + 1 ≤ (s.size : Int) := by omega
  have q5 : i + 1 ≤ s.size := by omega
  have q6 : i ≤ s.size := by omega
  have q7 : (i : Int) ≤ (s.size : Int) := by omega
  have hb := tm_49 s[i]
  cases hc : (s[i] == 49)
  · rw [hc] at hb
    have hb' := hb.symm
    have hf : flipU s[i] = 49 := by unfold flipU; rw [if_neg (by simpa using hc)]
    have he := tb_eq s i h 49 hf
    have HE := Lib.hid he
    clear hb hc he hf
    go_enter Tryd.func12, Tryd.ntmps12
    go_wp2
    go_quiet (fail)
    go_wp2
    go_ret
    exact ⟨ret_str HE.out, nq, rfl⟩
  · rw [hc] at hb
    have hb' := hb.symm
    have hf : flipU s[i] = 48 := by unfold flipU; rw [if_pos (by simpa using hc)]
    have he := tb_eq s i h 48 hf
    have HE := Lib.hid he
    clear hb hc he hf
    go_enter Tryd.func12, Tryd.ntmps12
    go_wp2
    go_quiet (fail)
    go_wp2
    go_ret
    exact ⟨ret_str HE.out, nq, rfl⟩

theorem dm_below {B : Nat} {w w2 w3 : World} {g p m : Nat} {o : Obj} (hb : Below B w w2) (hr : Hid (Rd B w2 g p)) (h : w3 = picked (w2.alloc o).drew g p m) : Below B w w3 := by
  rw [h]
  exact (hb.alloc (by have := hr.out.lt; have := hr.out.1; omega) o).drew.trans (picked_below (hr.out.alloc o).drew m)
theorem dm_bit {x : ByteArray} (hx : x ∈ [(⟨#[48]⟩ : ByteArray), ⟨#[49]⟩]) : ∃ c, x = ⟨[c].toArray⟩ := by
  simp only [List.mem_cons, List.not_mem_nil, or_false] at hx
  rcases hx with rfl | rfl
  · exact ⟨48, rfl⟩
  · exact ⟨49, rfl⟩
theorem dm_one {x : ByteArray} (hx : x ∈ [ByteArray.empty, ⟨#[120]⟩]) : x.size ≤ 1 := by
  simp only [List.mem_cons, List.not_mem_nil, or_false] at hx
  rcases hx with rfl | rfl <;> decide
theorem dm_two {x : ByteArray} (hx : x ∈ [(⟨#[48]⟩ : ByteArray), ⟨#[120]⟩]) : x.size ≤ 1 := by
  simp only [List.mem_cons, List.not_mem_nil, or_false] at hx
  rcases hx with rfl | rfl <;> decide

set_option maxHeartbeats 3200000 in
theorem dgb_any (w : World) (a : Option Addr) (len cap : Nat) (zs : List Int) (h : IsRow .u8 w a len cap zs) :
    Calls Tryd.prog 11 #[.slice a len cap] w fun e w' => ∃ t : ByteArray, e = .returned (.string t) ∧ t.size ≤ 20 ∧ Below w.heap.size w w' := by
  have H := Lib.hid (nr_any w a len cap zs h)
  clear h
  go_enter Tryd.func11, Tryd.ntmps11
  go_wp2_with fail
  refine H.out.mono ?_
  rintro e w1 ⟨rfl, hr, hb, hz⟩
  clear H hz
  go_wp2
  go_loopw [4] (fun sv wr => ∃ (l : List UInt8) (p' : Nat), sv = .string ⟨l.toArray⟩ ∧ l.length ≤ 4 ∧ p' = l.length ∧ Rd w.heap.size wr w.heap.size p' ∧ Below w.heap.size w wr) (fun sv _ => 4 - (match sv with | .string t => t.size | _ => 0))
  case atStart => exact ⟨[], 0, rfl, by simp, rfl, hr, hb⟩
  case round =>
    clear hr hb
    obtain ⟨l, p', rfl, hll, hpl, hr, hb⟩ := hrel
    have hgl2 := hr.lt
    have HR := Lib.hid hr
    clear hr
    by_cases hgo : l.length < 4
    · have hl1 : decide ((l.length : Int) < 4) = true := by simp; omega
      go_wp2_with fail
      refine (of_any (HR.out.alloc _) (by omega) wr.heap.size 2 2 [⟨#[48]⟩, ⟨#[49]⟩] rfl (by omega) (by omega) (by omega) (new_strs wr [⟨#[48]⟩, ⟨#[49]⟩] _)).mono ?_
      rintro e w2 ⟨x, m, rfl, hx, hw2⟩
      have hr2 : Rd w.heap.size w2 w.heap.size (p' + 1) := by rw [hw2]; exact (HR.out.alloc _).picked m
      have hb2 : Below w.heap.size w w2 := by rw [hw2]; exact (hb.alloc (by omega) _).trans (picked_below (HR.out.alloc _) m)
      obtain ⟨c, rfl⟩ := dm_bit hx
      clear hw2 hx hb
      go_wp2
      go_roundw
      case rel => exact ⟨l ++ [c], p' + 1, by rw [ByteArray.mk_append_mk], by simp; omega, by simp; omega, hr2, hb2⟩
      case measure => simp [mk_size, ByteArray.size_append]; omega
    · have h7 : l.length = 4 := by omega
      have hl1 : ¬ ((l.length : Int) < 4) := by omega
      clear hgo
      go_wp2_with fail
      refine (pick_any HR.out (by omega) 12 (by omega) (by omega)).mono ?_
      rintro e w2 ⟨r, m, rfl, hr12, hw2⟩
      have hr2 : Rd w.heap.size w2 w.heap.size (p' + 1) := by rw [hw2]; exact HR.out.picked m
      have hb2 : Below w.heap.size w w2 := by rw [hw2]; exact hb.trans (picked_below HR.out m)
      have hgl3 := hr2.lt
      have HR2 := Lib.hid hr2
      have hms : (ByteArray.mk l.toArray).size = 4 := by rw [mk_size]; exact h7
      clear hw2 hr2 hb HR
      cases hr0 : ((r : Int) == 0)
      · go_wp2
        go_ret
        exact ⟨_, rfl, by omega, hb2⟩
      · go_wp2_with fail
        refine (of_any (HR2.out.alloc _) (by omega) w2.heap.size 2 2 [⟨#[48]⟩, ⟨#[120]⟩] rfl (by omega) (by omega) (by omega) (new_strs w2 [⟨#[48]⟩, ⟨#[120]⟩] _)).mono ?_
        rintro e w3 ⟨x, m3, rfl, hx, hw3⟩
        have hb3 : Below w.heap.size w w3 := by rw [hw3]; exact (hb2.alloc (by omega) _).trans (picked_below (HR2.out.alloc _) m3)
        have hxl := dm_two hx
        clear hw3 hx hb2
        go_wp2
        go_ret
        refine ⟨_, rfl, ?_, hb3⟩
        rw [ByteArray.size_append]; omega

set_option maxHeartbeats 3200000 in
theorem dmb_any (w : World) (a : Option Addr) (len cap : Nat) (zs : List Int) (h : IsRow .u8 w a len cap zs) :
    Calls Tryd.prog 13 #[.slice a len cap] w fun e w' => ∃ t : ByteArray, e = .returned (.string t) ∧ t.size ≤ 20 ∧ Below w.heap.size w w' := by
  have H := Lib.hid (nr_any w a len cap zs h)
  clear h
  go_enter Tryd.func13, Tryd.ntmps13
  go_wp2_with fail
  refine H.out.mono ?_
  rintro e w1 ⟨rfl, hr, hb, hz⟩
  clear H hz
  go_wp2
  go_loopw [4] (fun sv wr => ∃ (l : List UInt8) (p' : Nat), sv = .string ⟨l.toArray⟩ ∧ l.length ≤ 7 ∧ p' = l.length ∧ Rd w.heap.size wr w.heap.size p' ∧ Below w.heap.size w wr) (fun sv _ => 7 - (match sv with | .string t => t.size | _ => 0))
  case atStart => exact ⟨[], 0, rfl, by simp, rfl, hr, hb⟩
  case round =>
    clear hr hb
    obtain ⟨l, p', rfl, hll, hpl, hr, hb⟩ := hrel
    have hgl2 := hr.lt
    have HR := Lib.hid hr
    clear hr
    by_cases hgo : l.length < 7
    · have hl1 : decide ((l.length : Int) < 7) = true := by simp; omega
      go_wp2_with fail
      refine (of_any (HR.out.alloc _) (by omega) wr.heap.size 2 2 [⟨#[48]⟩, ⟨#[49]⟩] rfl (by omega) (by omega) (by omega) (new_strs wr [⟨#[48]⟩, ⟨#[49]⟩] _)).mono ?_
      rintro e w2 ⟨x, m, rfl, hx, hw2⟩
      have hr2 : Rd w.heap.size w2 w.heap.size (p' + 1) := by rw [hw2]; exact (HR.out.alloc _).picked m
      have hb2 : Below w.heap.size w w2 := by rw [hw2]; exact (hb.alloc (by omega) _).trans (picked_below (HR.out.alloc _) m)
      obtain ⟨c, rfl⟩ := dm_bit hx
      clear hw2 hx hb
      go_wp2
      go_roundw
      case rel => exact ⟨l ++ [c], p' + 1, by rw [ByteArray.mk_append_mk], by simp; omega, by simp; omega, hr2, hb2⟩
      case measure => simp [mk_size, ByteArray.size_append]; omega
    · have h7 : l.length = 7 := by omega
      have hl1 : ¬ ((l.length : Int) < 7) := by omega
      clear hgo
      go_wp2_with fail
      refine (pick_any HR.out (by omega) 12 (by omega) (by omega)).mono ?_
      rintro e w2 ⟨r, m, rfl, hr12, hw2⟩
      have hr2 : Rd w.heap.size w2 w.heap.size (p' + 1) := by rw [hw2]; exact HR.out.picked m
      have hb2 : Below w.heap.size w w2 := by rw [hw2]; exact hb.trans (picked_below HR.out m)
      have hgl3 := hr2.lt
      have HR2 := Lib.hid hr2
      have hms : (ByteArray.mk l.toArray).size = 7 := by rw [mk_size]; exact h7
      clear hw2 hr2 hb HR
      cases hr0 : ((r : Int) == 0)
      · go_wp2
        go_ret
        exact ⟨_, rfl, by omega, hb2⟩
      · go_wp2_with fail
        generalize ByteArray.mk l.toArray = s at *
        have q1 : (6 : Int) ≤ (s.size : Int) := by omega
        have q2 : 6 ≤ s.size := by omega
        have hx1 : (s.extract 0 6).size ≤ 6 := by rw [ByteArray.size_extract]; omega
        go_region_with (go_at_call 22; refine (of_any (HR2.out.alloc _).drew (by omega) w2.heap.size 2 2 [ByteArray.empty, ⟨#[120]⟩] rfl (by omega) (by omega) (by omega) (new_strs w2 [ByteArray.empty, ⟨#[120]⟩] _)).mono ?_; rintro e w3 ⟨x, m3, rfl, hx, hw3⟩; have hb3 := dm_below hb2 HR2 hw3; have hxl := dm_one hx; clear hw3 hx; have ha1 := fun W => run_string_add_sum (P := Tryd.prog) W (s.extract 0 6) x (by omega); generalize s.extract 0 6 = s1 at *)
        go_wp2
        go_ret
        refine ⟨_, rfl, ?_, hb3⟩
        rw [ByteArray.size_append]; omega
end Go.Proofs.YtglabaajdabooaaDoor
