/-
  The walks of the model's functions that read numbers in decimal, and write lists of them. Conditions: the lengths that are typed.
  What all walks of the sixth chapter share: the two functions that tell whether a number lies between two, and what a call leaves. No condition.
-/
import Derived.Test.YtndpbhmokobbpaaGreatDoorDm06
import Derived.Test.YtndpbhmokobbpaaGreatDoorDm04
namespace Go.Proofs.YtndpbhmokobbpaaGreatDoor
open Go.RowKit
set_option linter.unusedVariables false

theorem rd_step {l : List UInt8} {k n : Nat} (h : rdD 0 (l.take k) = some n) (hk : k < l.length) : rdD 0 (l.take (k + 1)) = if 48 ≤ (l[k]).toNat ∧ (l[k]).toNat ≤ 57 ∧ n ≤ 100000 then some (10 * n + ((l[k]).toNat - 48)) else none := by
  rw [List.take_add_one, List.getElem?_eq_getElem hk]
  simp only [Option.toList_some]
  rw [rd_app, h]
  simp only [Option.bind_some]
  rw [rdD]
  split <;> rfl
theorem rd_bad {l : List UInt8} {k : Nat} (h : rdD 0 (l.take k) = none) : rdD 0 l = none := by
  have e : rdD 0 l = rdD 0 (l.take k ++ l.drop k) := by rw [List.take_append_drop]
  rw [e, rd_app, h]; rfl
theorem rdN_none {l : List UInt8} (h : rdD 0 l = none) : rdN l = -1 := by unfold rdN; rw [h]
theorem rdN_some {l : List UInt8} {n : Nat} (h : rdD 0 l = some n) : rdN l = if l ≠ [] ∧ Lib.decDigits n = l then (n : Int) else -1 := by unfold rdN; rw [h]

set_option maxHeartbeats 1600000 in
theorem srN_any (s : ByteArray) (w : World) (hs : s.size ≤ 1048576) :
    Calls Tryz.prog 35 #[.string s] w fun e w' => e = .returned (.int .i64 (rdN s.data.toList)) ∧ w = w' := by
  have hsl : s.data.toList.length = s.size := Array.length_toList
  go_enter Tryz.func35, Tryz.ntmps35
  go_wp2
  go_loop [3, 4] (fun nv iv => ∃ n k : Nat, nv = .int .i64 n ∧ iv = .int .i64 k ∧ k ≤ s.size ∧ Hid (rdD 0 (s.data.toList.take k) = some n) ∧ n ≤ 1000009) (fun _ iv => s.size - (intOf iv).toNat)
  case atStart => exact ⟨0, 0, rfl, rfl, Nat.zero_le _, Lib.hid rfl, by omega⟩
  case round =>
    obtain ⟨n, k, rfl, rfl, hk, HR, hn⟩ := hrel
    by_cases hlt : k < s.size
    · have hgi : s[k] = s.data.toList[k]'(by omega) := rfl
      have hst := rd_step HR.out (by omega : k < s.data.toList.length)
      rw [← hgi] at hst
      have h255 : s[k].toNat ≤ 255 := by have := s[k].toNat_lt; omega
      by_cases hc : 48 ≤ s[k].toNat ∧ s[k].toNat ≤ 57 ∧ n ≤ 100000
      · rw [if_pos hc] at hst
        have HST := Lib.hid hst
        obtain ⟨c1, c2, c3⟩ := hc
        have d1 : ¬ (s[k].toNat : Int) < 48 := by omega
        have d2 : ¬ (57 : Int) < (s[k].toNat : Int) := by omega
        have d3 : ¬ (100000 : Int) < (n : Int) := by omega
        have hwr : IntKind.u8.wrap ((s[k].toNat : Int) - 48) = (s[k].toNat : Int) - 48 := IntWalk.u8_in _ (by omega)
        clear hst hgi HR
        go_wp2
        go_round
        case rel => exact ⟨10 * n + (s[k].toNat - 48), k + 1, by go_num, by go_num, by omega, HST, by omega⟩
        case measure => simp [intOf]; omega
      · rw [if_neg hc] at hst
        have HN := Lib.hid (rdN_none (rd_bad hst))
        clear hst hgi HR
        by_cases d1 : (s[k].toNat : Int) < 48
        · go_wp2
          go_ret
          exact ⟨by rw [HN.out]; rfl, rfl⟩
        · by_cases d2 : (57 : Int) < (s[k].toNat : Int)
          · go_wp2
            go_ret
            exact ⟨by rw [HN.out]; rfl, rfl⟩
          · have d3 : (100000 : Int) < (n : Int) := by omega
            go_wp2
            go_ret
            exact ⟨by rw [HN.out]; rfl, rfl⟩
    · have hke : k = s.size := by omega
      have hr := HR.out
      rw [List.take_of_length_le (by omega)] at hr
      have HN := Lib.hid (rdN_some hr)
      have H := Lib.hid (fun W => num_any n (by omega) W)
      clear HR hr
      go_wp2_with (go_at_call 23; refine (H.out _).mono ?_; rintro e w1 ⟨rfl, rfl⟩)
      · have h0 : s.toList = [] := by assumption
        rw [Lib.toList_data] at h0
        have hN : rdN s.data.toList = -1 := by rw [HN.out, if_neg (fun h => h.1 h0)]
        go_ret
        exact ⟨by rw [hN]; rfl, rfl⟩
      · have h0 : ¬ s.toList = [] := by assumption
        have h1 : s.toList.isEmpty = true ∨ (!(dT n).toList == s.toList) = true := by assumption
        rw [Lib.toList_data] at h0
        rw [Lib.toList_data, Lib.toList_data] at h1
        have hne : ¬ Lib.decDigits n = s.data.toList := by
          intro e
          rcases h1 with h1 | h1
          · exact h0 (List.isEmpty_iff.1 h1)
          · have e2 : (dT n).data.toList = s.data.toList := by unfold dT; rw [mkT_list, e]
            rw [e2] at h1
            simp at h1
        have hN : rdN s.data.toList = -1 := by rw [HN.out, if_neg (fun h => hne h.2)]
        go_ret
        exact ⟨by rw [hN]; rfl, rfl⟩
      · have h0 : ¬ s.toList = [] := by assumption
        have h1 : s.toList.isEmpty = false ∧ (!(dT n).toList == s.toList) = false := by assumption
        rw [Lib.toList_data] at h0
        rw [Lib.toList_data, Lib.toList_data] at h1
        have he : Lib.decDigits n = s.data.toList := by
          have e2 : (dT n).data.toList = s.data.toList := by simpa using h1.2
          unfold dT at e2
          rwa [mkT_list] at e2
        have hN : rdN s.data.toList = (n : Int) := by rw [HN.out, if_pos ⟨h0, he⟩]
        go_ret
        exact ⟨by rw [hN]; rfl, rfl⟩

/-- Numbers in decimal with a comma between two of them. -/
def ltx : List Int → List UInt8
  | [] => []
  | [x] => Lib.decDigits x.toNat
  | x :: y :: l => Lib.decDigits x.toNat ++ 44 :: ltx (y :: l)
theorem ltx_snoc : ∀ (l : List Int) (x : Int), ltx (l ++ [x]) = (if l = [] then [] else ltx l ++ [44]) ++ Lib.decDigits x.toNat
  | [], x => by simp [ltx]
  | [y], x => by simp [ltx]
  | y :: z :: l, x => by
    have ih := ltx_snoc (z :: l) x
    rw [if_neg (by simp)] at ih
    rw [if_neg (by simp)]
    show Lib.decDigits y.toNat ++ 44 :: ltx ((z :: l) ++ [x]) = _
    rw [ih]
    show _ = (Lib.decDigits y.toNat ++ 44 :: ltx (z :: l)) ++ [44] ++ _
    simp
theorem ltx_len : ∀ (l : List Int), (∀ x ∈ l, x ≤ 1000) → (ltx l).length ≤ 1002 * l.length
  | [], _ => by simp [ltx]
  | [x], h => by
    have := dd_len x.toNat
    have := h x List.mem_cons_self
    simp only [ltx, List.length_cons, List.length_nil]
    omega
  | x :: y :: l, h => by
    have := dd_len x.toNat
    have := h x List.mem_cons_self
    have ih := ltx_len (y :: l) (fun z hz => h z (List.mem_cons_of_mem _ hz))
    simp only [ltx, List.length_append, List.length_cons] at ih ⊢
    omega
theorem ltx_step (xs : List Int) (k : Nat) (h : k < xs.length) : ltx (xs.take (k + 1)) = (if k = 0 then [] else ltx (xs.take k) ++ [44]) ++ Lib.decDigits (xs.getD k 0).toNat := by
  have e : xs.take (k + 1) = xs.take k ++ [xs.getD k 0] := by
    rw [List.take_add_one, List.getElem?_eq_getElem h]
    simp [List.getD_eq_getElem?_getD, List.getElem?_eq_getElem h]
  rw [e, ltx_snoc]
  by_cases h0 : k = 0
  · subst h0; simp
  · rw [if_neg h0, if_neg (by intro e; have := congrArg List.length e; rw [List.length_take, List.length_nil] at this; omega)]

theorem mk44 (T : ByteArray) (a b : List UInt8) (h : T = mkT a) : T ++ ByteArray.mk #[44] ++ mkT b = mkT (a ++ [44] ++ b) := by
  rw [h, show ByteArray.mk #[44] = mkT [44] from rfl, mkT_app, mkT_app]
set_option maxHeartbeats 1600000 in
theorem slt_any (w : World) (v : Value) (xs : List Int) (h : Rds w v xs) (hn : xs.length ≤ 100) (hx : ∀ x ∈ xs, 0 ≤ x ∧ x ≤ 1000) :
    Calls Tryz.prog 21 #[v] w fun e w' => e = .returned (.string (mkT (ltx xs))) ∧ w = w' := by
  have HR := Lib.hid h
  obtain ⟨A, c, rfl, h1⟩ := h
  have HA := Lib.hid h1
  have HX := Lib.hid hx
  clear h1 hx
  go_enter Tryz.func21, Tryz.ntmps21
  go_wp2
  go_loop [3, 4] (fun ov iv => ∃ (T : ByteArray) (k : Nat), ov = .string T ∧ iv = .int .i64 k ∧ k ≤ xs.length ∧ Hid (T = mkT (ltx (xs.take k)))) (fun _ iv => xs.length - (intOf iv).toNat)
  case atStart => exact ⟨mkT [], 0, rfl, rfl, Nat.zero_le _, Lib.hid rfl⟩
  case round =>
    obtain ⟨T, k, rfl, rfl, hk, HT⟩ := hrel
    by_cases hlt : k < xs.length
    · obtain ⟨b, off, hA, hat⟩ := HA.out (by omega)
      subst hA
      have hc := hat.2 k hlt
      have hmem : xs.getD k 0 ∈ xs := by
        rw [List.getD_eq_getElem?_getD, List.getElem?_eq_getElem hlt]; exact List.getElem_mem hlt
      obtain ⟨x0, x1⟩ := HX.out _ hmem
      have HST := Lib.hid (ltx_step xs k hlt)
      have hTs : T.size ≤ 100200 := by
        have := ltx_len (xs.take k) (fun x hx => (HX.out x (List.mem_of_mem_take hx)).2)
        rw [List.length_take] at this
        rw [HT.out]
        show (ltx (xs.take k)).length ≤ _
        have : min k xs.length ≤ 100 := by omega
        omega
      obtain ⟨m, hm⟩ : ∃ m : Nat, xs.getD k 0 = (m : Int) := ⟨(xs.getD k 0).toNat, by omega⟩
      have HM := Lib.hid hm
      rw [hm] at hc x0 x1
      have H := Lib.hid (fun W => num_any m (by omega) W)
      have hds : (dT m).size ≤ 2000 := by
        have := dd_len m
        show (Lib.decDigits m).length ≤ _
        omega
      have HDT : Hid (dT m = mkT (Lib.decDigits m)) := Lib.hid rfl
      generalize dT m = D at *
      clear hat hm hmem
      by_cases h0 : k = 0
      · have HN : Hid (T ++ D = mkT (ltx (xs.take (k + 1)))) := Lib.hid (by rw [HST.out, if_pos h0, HM.out, HT.out, HDT.out, mkT_app, h0]; simp [ltx])
        subst h0
        rw [Nat.add_zero] at hc
        go_wp2_with (go_at_call 23; refine (H.out _).mono ?_; rintro e w1 ⟨rfl, rfl⟩)
        go_round
        case rel => exact ⟨_, 1, rfl, by go_num, by omega, HN⟩
        case measure => simp [intOf]; omega
      · have HN : Hid (T ++ ByteArray.mk #[44] ++ D = mkT (ltx (xs.take (k + 1)))) := Lib.hid (by rw [HST.out, if_neg h0, HM.out, HDT.out, mk44 T _ _ HT.out, Int.toNat_natCast])
        have hk0 : (0 : Int) < (k : Int) := by omega
        have hcs : (ByteArray.mk #[44]).size = 1 := rfl
        clear HST
        go_wp2_with (go_at_call 23; refine (H.out _).mono ?_; rintro e w1 ⟨rfl, rfl⟩)
        go_round
        case rel => exact ⟨_, k + 1, rfl, by go_num, by omega, HN⟩
        case measure => simp [intOf]; omega
    · have hke : k = xs.length := by omega
      have HN : Hid (T = mkT (ltx xs)) := Lib.hid (by rw [HT.out, hke, List.take_length])
      clear HT
      go_wp2
      go_ret
      exact ⟨by rw [← HN.out]; rfl, rfl⟩
end Go.Proofs.YtndpbhmokobbpaaGreatDoor

namespace Go.Proofs.YtndpbhmokobbpaaGreatDoor
open Go.RowKit
set_option linter.unusedVariables false

/-- Whether a number is from the least up to the most one. -/
def btw (x lo hi : Int) : Bool := decide (lo ≤ x) && decide (x ≤ hi)
theorem btw_yes {x lo hi : Int} (h : btw x lo hi = true) : lo ≤ x ∧ x ≤ hi := by simpa [btw] using h
theorem btw_no {x lo hi : Int} (h : btw x lo hi = false) : ¬ (lo ≤ x ∧ x ≤ hi) := by
  intro hc
  have : btw x lo hi = true := by simp [btw, hc.1, hc.2]
  rw [this] at h; cases h
theorem btw_mk {x lo hi : Int} (h : lo ≤ x ∧ x ≤ hi) : btw x lo hi = true := by simp [btw, h.1, h.2]
theorem btw_out {x lo hi : Int} (h : ¬ (lo ≤ x ∧ x ≤ hi)) : btw x lo hi = false := by
  cases hb : btw x lo hi
  · rfl
  · exact absurd (btw_yes hb) h
set_option maxHeartbeats 400000 in
theorem win_any (x lo hi : Int) (w : World) :
    Calls Tryz.prog 69 #[.int .i64 x, .int .i64 lo, .int .i64 hi] w fun e w' => e = .returned (.bool (btw x lo hi)) ∧ w = w' := by
  by_cases h1 : lo ≤ x
  · have h2 : decide (lo ≤ x) = true := by simpa using h1
    go_enter Tryz.func69, Tryz.ntmps69
    go_wp2
    go_ret
    exact ⟨ret_bool (by simp [btw, h1]), rfl⟩
  · have h2 : decide (lo ≤ x) = false := by simpa using h1
    go_enter Tryz.func69, Tryz.ntmps69
    go_wp2
    go_ret
    exact ⟨ret_bool (by simp [btw, h2]), rfl⟩
set_option maxHeartbeats 400000 in
theorem inq_any (x lo hi : Int) (w : World) :
    Calls Tryz.prog 36 #[.int .i64 x, .int .i64 lo, .int .i64 hi] w fun e w' => e = .returned (.bool (btw x lo hi)) ∧ w = w' := by
  by_cases h1 : lo ≤ x
  · have h2 : decide (lo ≤ x) = true := by simpa using h1
    go_enter Tryz.func36, Tryz.ntmps36
    go_wp2
    go_ret
    exact ⟨ret_bool (by simp [btw, h1]), rfl⟩
  · have h2 : decide (lo ≤ x) = false := by simpa using h1
    go_enter Tryz.func36, Tryz.ntmps36
    go_wp2
    go_ret
    exact ⟨ret_bool (by simp [btw, h2]), rfl⟩

/-- What a call leaves: a row of numbers of the call's own. -/
def RowPost (R : List Int) (w : World) (e : Ending) (w' : World) : Prop := ∃ u, e = .returned u ∧ OwnL w' w.heap.size u R ∧ Below w.heap.size w w'
theorem rowPost_nil {R : List Int} {w w' : World} (h : R = []) (hb : Below w.heap.size w w') : RowPost R w (.returned (.slice none 0 0)) w' := by
  subst h; exact ⟨_, rfl, OwnL.nil _ _, hb⟩
theorem rowPost_mk {R S : List Int} {w w' : World} {v : Value} (h : R = S) (ho : OwnL w' w.heap.size v S) (hb : Below w.heap.size w w') : RowPost R w (.returned v) w' := by
  subst h; exact ⟨_, rfl, ho, hb⟩
end Go.Proofs.YtndpbhmokobbpaaGreatDoor
