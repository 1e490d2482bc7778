/-
  The walks of the functions that give the groups of a number. Conditions: the bounds that are typed.
  The walk of the model's function that reads lists of numbers in decimal. Conditions: the lengths that are typed.
  Plain facts on texts of bytes. No condition.
  Bytes in a block that may be written: plain facts on memory. No condition.
-/
import Derived.Test.YtndpbhmokobbpaaGreatDoorDm07
import Derived.Test.YtndpbhmokobbpaaGreatDoorDm08
import Derived.Test.YtndpbhmokobbpaaGreatDoorDm05
import Derived.OneCell
namespace Go.Proofs.YtndpbhmokobbpaaGreatDoor
open Go.RowKit
set_option linter.unusedVariables false

/-- The groups of a number, none of one that is out of the limit. -/
def goR (x : Int) : List Int := if btw x 0 1000000 = true then gr x.toNat else []
theorem goR_len (x : Int) : (goR x).length ≤ 3 := by
  unfold goR; split
  · rename_i h
    have := btw_yes h
    exact gr_len3 (by omega)
  · simp

set_option maxHeartbeats 1600000 in
theorem sgr_any (n : Nat) (w : World) (hn : n < 2097152) :
    Calls Tryz.prog 37 #[.int .i64 n] w (RowPost (gr n) w) := by
  have hL := gr_len3 hn
  have HM := Lib.hid (OwnL.empty w w.heap.size (Nat.le_refl _))
  have HB0 := Lib.hid ((Below.refl w.heap.size w).alloc (Nat.le_refl _) (.cells #[] 3))
  go_enter Tryz.func37, Tryz.ntmps37
  go_wp2
  go_loopw [0, 3] (fun nv sv wr => ∃ (y : Nat) (l : List Int), nv = .int .i64 y ∧ y ≤ n ∧ Hid (l ++ gr y = gr n) ∧ OwnL wr w.heap.size sv l ∧ Below w.heap.size w wr ∧ w.heap.size ≤ wr.heap.size) (fun nv _ _ => (intOf nv).toNat)
  case atStart => exact ⟨n, [], rfl, Nat.le_refl _, Lib.hid rfl, HM.out, HB0.out, by rw [World.size_alloc]; omega⟩
  case round =>
    obtain ⟨y, l, rfl, hy, hle, hown, hb, hz⟩ := hrel
    have hll : l.length ≤ 3 := by have := congrArg List.length hle.out; rw [List.length_append] at this; omega
    obtain ⟨A, cp, rfl⟩ := hown.form
    have HO := Lib.hid hown
    have HB := Lib.hid hb
    clear hown hb
    by_cases hlt : y < 128
    · have hd : decide ((128 : Int) ≤ (y : Int)) = false := decide_eq_false (by omega)
      have HE : Hid (gr n = l ++ [(y : Int)]) := Lib.hid (by rw [← hle.out, gr_one hlt])
      clear hle
      go_wp2_with (at_builtin; refine append_oneI rfl (.tmp 15) (.tmp 17) rfl w.heap.size _ l (y : Int) rfl rfl HO.out (by omega) hz ?_; intro A9 c9 w9 hown9 hg9 hb9 hz9)
      go_ret
      exact rowPost_mk HE.out hown9 (HB.out.trans hb9)
    · have hd : decide ((128 : Int) ≤ (y : Int)) = true := decide_eq_true (by omega)
      have HE : Hid ((l ++ [128 + (y : Int) % 128]) ++ gr (y / 128) = gr n) := Lib.hid (by rw [← hle.out, gr_more hlt]; simp)
      have e2 : (y : Int) / 128 = ((y / 128 : Nat) : Int) := by omega
      have y0 : 0 ≤ (y : Int) % 128 := by omega
      have y1 : (y : Int) % 128 < 128 := by omega
      have hy2 : y / 128 < y := by omega
      clear hle
      generalize y / 128 = z at *
      go_wp2_with (at_builtin; refine append_oneI rfl (.tmp 7) (.tmp 11) rfl w.heap.size _ l (128 + (y : Int) % 128) rfl rfl HO.out (by omega) hz ?_; intro A9 c9 w9 hown9 hg9 hb9 hz9)
      go_roundw
      case rel => exact ⟨z, l ++ [128 + (y : Int) % 128], by go_num, by omega, HE, hown9, HB.out.trans hb9, by omega⟩
      case measure => simp [intOf]; omega

set_option maxHeartbeats 1600000 in
theorem igr_ok (n : Nat) (w : World) (hn : n ≤ 1000000) :
    Calls Tryz.prog 53 #[.int .i64 n] w (RowPost (gr n) w) := by
  have hL := gr_len3 (n := n) (by omega)
  have hw := win_any (n : Int) 0 1000000 w
  rw [btw_mk ⟨by omega, by omega⟩] at hw
  have HW := Lib.hid hw
  clear hw
  go_enter Tryz.func53, Tryz.ntmps53
  go_wp2_with (go_at_call 69; refine HW.out.mono ?_; rintro e w' ⟨rfl, rfl⟩)
  go_loopw [0, 3] (fun nv sv wr => ∃ (y : Nat) (l : List Int), nv = .int .i64 y ∧ y ≤ n ∧ Hid (l ++ gr y = gr n) ∧ OwnL wr w.heap.size sv l ∧ Below w.heap.size w wr ∧ w.heap.size ≤ wr.heap.size) (fun nv _ _ => (intOf nv).toNat)
  case atStart => exact ⟨n, [], rfl, Nat.le_refl _, Lib.hid rfl, OwnL.nil _ _, Below.refl _ _, Nat.le_refl _⟩
  case round =>
    obtain ⟨y, l, rfl, hy, hle, hown, hb, hz⟩ := hrel
    have hll : l.length ≤ 3 := by have := congrArg List.length hle.out; rw [List.length_append] at this; omega
    obtain ⟨A, cp, rfl⟩ := hown.form
    have HO := Lib.hid hown
    have HB := Lib.hid hb
    clear hown hb
    by_cases hlt : y < 128
    · have hd : decide ((128 : Int) ≤ (y : Int)) = false := decide_eq_false (by omega)
      have HE : Hid (gr n = l ++ [(y : Int)]) := Lib.hid (by rw [← hle.out, gr_one hlt])
      clear hle
      go_wp2_with (at_builtin; refine append_oneI rfl (.tmp 17) (.tmp 19) rfl w.heap.size _ l (y : Int) rfl rfl HO.out (by omega) hz ?_; intro A9 c9 w9 hown9 hg9 hb9 hz9)
      go_ret
      exact rowPost_mk HE.out hown9 (HB.out.trans hb9)
    · have hd : decide ((128 : Int) ≤ (y : Int)) = true := decide_eq_true (by omega)
      have HE : Hid ((l ++ [128 + (y : Int) % 128]) ++ gr (y / 128) = gr n) := Lib.hid (by rw [← hle.out, gr_more hlt]; simp)
      have e2 : (y : Int) / 128 = ((y / 128 : Nat) : Int) := by omega
      have y0 : 0 ≤ (y : Int) % 128 := by omega
      have y1 : (y : Int) % 128 < 128 := by omega
      have hy2 : y / 128 < y := by omega
      clear hle
      generalize y / 128 = z at *
      go_wp2_with (at_builtin; refine append_oneI rfl (.tmp 11) (.tmp 15) rfl w.heap.size _ l (128 + (y : Int) % 128) rfl rfl HO.out (by omega) hz ?_; intro A9 c9 w9 hown9 hg9 hb9 hz9)
      go_roundw
      case rel => exact ⟨z, l ++ [128 + (y : Int) % 128], by go_num, by omega, HE, hown9, HB.out.trans hb9, by omega⟩
      case measure => simp [intOf]; omega

set_option maxHeartbeats 400000 in
theorem iGO_any (x : Int) (w : World) :
    Calls Tryz.prog 53 #[.int .i64 x] w (RowPost (goR x) w) := by
  cases hb : btw x 0 1000000
  · have e : goR x = [] := by unfold goR; rw [hb]; rfl
    have hw := win_any x 0 1000000 w
    rw [hb] at hw
    have HW := Lib.hid hw
    rw [e]
    clear hw hb e
    go_enter Tryz.func53, Tryz.ntmps53
    go_wp2_with (go_at_call 69; refine HW.out.mono ?_; rintro e w' ⟨rfl, rfl⟩)
    go_ret
    exact rowPost_nil rfl (Below.refl _ _)
  · obtain ⟨h0, h1⟩ := btw_yes hb
    have e : goR x = gr x.toNat := by unfold goR; rw [if_pos hb]
    rw [e]
    obtain ⟨n, rfl⟩ : ∃ n : Nat, x = n := ⟨x.toNat, by omega⟩
    exact igr_ok n w (by omega)

end Go.Proofs.YtndpbhmokobbpaaGreatDoor

namespace Go.Proofs.YtndpbhmokobbpaaGreatDoor
open Go.RowKit
set_option linter.unusedVariables false

theorem append_oneJ {w0 : World} {ops : Array Oper} {rest : List Oper} {o : Oper} {a : Act} {Q : Exit → Act → World → Prop} (hgd : o.guard = none) (s x : Operand)
    (ho : o.op = .call { callee := .builtin .append, args := #[s, x], argTypes := #[36, 36] })
    (B : Nat) (v : Value) (l : List Int) (y : Int) (hs : a.eval s = v) (hx : a.eval x = .slice (some ⟨w0.heap.size, 0, none⟩) 1 1) (hown : OwnL w0 B v l) (hl : l.length ≤ 10000000) (hB : B ≤ w0.heap.size)
    (h : ∀ A c w', OwnL w' B (.slice A (l.length + 1) c) (l ++ [y]) → (w0.alloc (.cells #[.int .i64 y] 3)).grownBy w' v.ownBlock → Below B w0 w' → w0.heap.size ≤ w'.heap.size →
      wpList Tryz.prog ops Q rest (a.put o.dst (.slice A (l.length + 1) c)) w') : wpList Tryz.prog ops Q (o :: rest) a (w0.alloc (.cells #[.int .i64 y] 3)) := by
  obtain ⟨i0, hi, hz0, hz1, hz2⟩ := info_parts info3
  refine wpList_append_own _ hgd s x 36 ho B 3 i0 (.int .i64 0) 1 8 Tryz.underlying36 hi hz0 hz1 hz2 rfl (by decide) v l.length (ints l) hs (hown.alloc _) ⟨w0.heap.size, 0, none⟩ 1 1 [.int .i64 y] hx rfl (cell_new1 _ _ _) (one_cell _ rfl) (by rw [mx]; omega) (by omega) (by simp; omega) ?_
  intro v' w' h1 h2 _
  have h3 := ownI_snoc h1
  obtain ⟨A, c, rfl⟩ := own_form h1
  refine h A c w' h3 h2 ?_ ?_
  · exact ((Below.refl B w0).alloc hB _).grown h2 (by simp; omega) (fun j hj => by have := (World.ownsRow.lt hown j hj).1; omega)
  · have := h2.size
    simp at this; omega
theorem pts_size (c : UInt8) : ∀ (l p : List UInt8), p ∈ pts c l → p.length ≤ l.length
  | [], p, h => by simp [pts] at h; simp [h]
  | x :: t, p, h => by
    rw [pts.eq_2] at h
    split at h
    · rcases List.mem_cons.1 h with rfl | h
      · simp
      · have := pts_size c t p h; simp; omega
    · cases hp : pts c t with
      | nil => rw [hp] at h; simp at h; subst h; simp
      | cons q r =>
        rw [hp] at h
        rcases List.mem_cons.1 h with rfl | h
        · have := pts_size c t q (by rw [hp]; exact List.mem_cons_self); simp; omega
        · have := pts_size c t p (by rw [hp]; exact List.mem_cons_of_mem _ h); simp; omega
/-- The numbers of a list in decimal, as the model reads them. -/
def rdL (s : ByteArray) : List Int := (ptT 44 s).map fun x => rdN x.data.toList
theorem ptT_size {c : UInt8} {s x : ByteArray} (h : x ∈ ptT c s) : x.size ≤ s.size := by
  unfold ptT at h
  obtain ⟨p, hp, rfl⟩ := List.mem_map.1 h
  have := pts_size c _ p hp
  have e : s.data.toList.length = s.size := Array.length_toList
  show p.length ≤ s.size
  omega
theorem ptT_len (c : UInt8) (s : ByteArray) : (ptT c s).length ≤ s.size + 1 := by
  unfold ptT
  rw [List.length_map]
  have := pts_len c s.data.toList
  have e : s.data.toList.length = s.size := Array.length_toList
  omega

theorem OwnT.base {w : World} {B B' : Nat} {v : Value} {xs : List ByteArray} (h : OwnT w B v xs) (hB : B' ≤ B) : OwnT w B' v xs :=
  ⟨h.1, h.2.elim .inl (fun ⟨g, cap, cur, a, b, c⟩ => .inr ⟨g, cap, cur, a, Nat.le_trans hB b, c⟩)⟩
/-- A row of numbers and a row of texts lie in two blocks. -/
theorem own_types {w : World} {B B' : Nat} {v u : Value} {xs : List Int} {ys : List ByteArray} (h : OwnL w B v xs) (h2 : OwnT w B' u ys) : u.ownBlock = none ∨ u.ownBlock ≠ v.ownBlock := by
  rcases h2.2 with ⟨rfl, _⟩ | ⟨g, cap, cur, rfl, _, hg, _⟩
  · exact .inl rfl
  · refine .inr (fun e => ?_)
    rcases h.2 with ⟨rfl, _⟩ | ⟨g', cap', cur', rfl, _, hg', _⟩
    · cases e
    · have e' : g = g' := by simpa [Value.ownBlock] using e
      subst e'
      have := hg.symm.trans hg'
      injection this with this
      injection this with _ h3 _
      exact absurd h3 (by decide)

set_option maxHeartbeats 1600000 in
theorem srl_any (s : ByteArray) (w : World) (hs : s.size ≤ 1048575) :
    Calls Tryz.prog 32 #[.string s] w (RowPost (rdL s) w) := by
  have HM := Lib.hid (OwnL.empty w w.heap.size (Nat.le_refl _))
  have HB0 := Lib.hid ((Below.refl w.heap.size w).alloc (Nat.le_refl _) (.cells #[] 3))
  have HS := Lib.hid (fun W => spa_any 44 s W (by omega))
  have hPl := ptT_len 44 s
  have HPS := Lib.hid (fun x (hx : x ∈ ptT 44 s) => ptT_size hx)
  have hz0 : w.heap.size ≤ (w.alloc (.cells #[] 3)).heap.size := by simp
  unfold rdL
  generalize ptT 44 s = P at *
  go_enter Tryz.func32, Tryz.ntmps32
  go_wp2_with fail
  refine (HS.out _).mono ?_
  rintro e w1 ⟨u, rfl, hu, hb1⟩
  have HU1 := Lib.hid (OwnT.base hu hz0)
  have HM1 := Lib.hid (OwnL.below HM.out hb1 (Nat.le_refl _))
  have HB1 := Lib.hid (HB0.out.trans (hb1.mono hz0))
  have hz1 := HB1.out.size
  obtain ⟨A, c, huf⟩ := hu.form
  subst huf
  clear hu hb1 HS HM HB0 hz0
  go_wp2
  go_loopw [3, 5] (fun ov iv wr => ∃ k : Nat, iv = .int .i64 k ∧ k ≤ P.length ∧ Hid (OwnL wr w.heap.size ov ((P.take k).map fun x => rdN x.data.toList)) ∧ Hid (Below w.heap.size w wr) ∧ Hid (OwnT wr w.heap.size (.slice A P.length c) P) ∧ w.heap.size ≤ wr.heap.size) (fun _ iv _ => P.length - (intOf iv).toNat)
  case atStart => exact ⟨0, rfl, Nat.zero_le _, Lib.hid HM1.out, Lib.hid HB1.out, Lib.hid HU1.out, hz1⟩
  case round =>
    obtain ⟨k, rfl, hk, HO, HB, HU, hz⟩ := hrel
    obtain ⟨Ao, co, hof⟩ := HO.out.form
    have hOl : ((P.take k).map fun x => rdN x.data.toList).length = k := by rw [List.length_map, List.length_take]; omega
    rw [hOl] at hof
    subst hof
    by_cases hlt : k < P.length
    · obtain ⟨A', c', e1, h1⟩ := OwnT.rss HU.out
      injection e1 with e2 e4 e5
      clear e4 e5
      obtain ⟨b, off, e3, hat⟩ := h1 (by omega)
      rw [e3] at e2
      subst e2
      have hc := hat.2 k hlt
      have hmem : P.getD k ByteArray.empty ∈ P := by
        rw [List.getD_eq_getElem?_getD, List.getElem?_eq_getElem hlt]; exact List.getElem_mem hlt
      have hsz := HPS.out _ hmem
      have HST : Hid ((P.take (k + 1)).map (fun x => rdN x.data.toList) = (P.take k).map (fun x => rdN x.data.toList) ++ [rdN (P.getD k ByteArray.empty).data.toList]) := Lib.hid (by
        have e : P.take (k + 1) = P.take k ++ [P.getD k ByteArray.empty] := by
          rw [List.take_add_one, List.getElem?_eq_getElem hlt]
          simp [List.getD_eq_getElem?_getD, List.getElem?_eq_getElem hlt]
        rw [e, List.map_append]; rfl)
      have HR := Lib.hid (fun W => srN_any (P.getD k ByteArray.empty) W (by omega))
      have HAT := Lib.hid hat
      generalize P.getD k ByteArray.empty = y at *
      generalize rdN y.data.toList = z at *
      generalize (P.take k).map (fun x => rdN x.data.toList) = O at *
      have HOL := Lib.hid hOl
      have hOk : O.length < 1048576 := by omega
      clear h1 e3 hat hmem hOl
      go_wp2_with (first | (go_at_call 35; refine (HR.out _).mono ?_; rintro e w2 ⟨rfl, rfl⟩) | (at_builtin; refine append_oneJ rfl (.tmp 15) (.tmp 21) rfl w.heap.size _ O z rfl rfl HO.out (by omega) hz ?_; intro A9 c9 w9 hown9 hg9 hb9 hz9))
      have HO9 := Lib.hid hown9
      have HB9 := Lib.hid (HB.out.trans hb9)
      have HU9 : Hid (OwnT w9 w.heap.size (.slice (some ⟨b, off, none⟩) P.length c) P) := Lib.hid (World.ownsRow.kept (World.ownsRow.alloc HU.out _) hg9 (own_types HO.out HU.out))
      go_wp2
      go_roundw
      case rel => exact ⟨k + 1, by go_num, by omega, Lib.hid (by rw [HST.out]; have := HO9.out; exact this), Lib.hid HB9.out, Lib.hid HU9.out, by omega⟩
      case measure => simp [intOf]; omega
    · have hke : k = P.length := by omega
      have HN : Hid (OwnL wr w.heap.size (.slice Ao k co) (P.map fun x => rdN x.data.toList)) := Lib.hid (by have := HO.out; rwa [hke, List.take_length, ← hke] at this)
      clear HO hke
      go_wp2
      go_ret
      exact ⟨_, rfl, HN.out, HB.out⟩
end Go.Proofs.YtndpbhmokobbpaaGreatDoor

namespace Go.Proofs.YtndpbhmokobbpaaGreatDoor
open Go.RowKit
set_option linter.unusedVariables false

theorem mk_size (l : List UInt8) : (ByteArray.mk l.toArray).size = l.length := by simp [ByteArray.size]
theorem extract_one (s : ByteArray) (k : Nat) (h : k < s.size) : s.extract k (k + 1) = ⟨[s[k]].toArray⟩ := by
  apply ByteArray.ext
  simp only [ByteArray.data_extract]
  apply Array.ext
  · simp; have : s.data.size = s.size := rfl; omega
  · intro i h1 h2
    have : i = 0 := by simp at h2; omega
    subst this
    simp; rfl
theorem app_one (o : List UInt8) (s : ByteArray) (k : Nat) (h : k < s.size) : ({ data := o.toArray } : ByteArray) ++ s.extract k (k + 1) = ⟨(o ++ [s[k]]).toArray⟩ := by
  rw [extract_one s k h, ByteArray.mk_append_mk]
theorem u8_eq {c d : UInt8} (h : c.toNat = d.toNat) : c = d := by rw [← UInt8.toNat_inj]; exact h
theorem u8_49 {c : UInt8} (h : ((c.toNat : Int) == 49) = true) : c = 49 := u8_eq (by show _ = 49; simp at h; omega)
theorem u8_not49 {c : UInt8} (h : ((c.toNat : Int) == 49) = false) : c ≠ 49 := by rintro rfl; simp at h
theorem ret_str {a b : ByteArray} (h : a = b) : Ending.returned (.string a) = .returned (.string b) := by rw [h]
theorem str_of {a b : List UInt8} (h : a = b) : Value.string ⟨a.toArray⟩ = .string ⟨b.toArray⟩ := by rw [h]
theorem info5 : (Tryz.prog.info? 5).map (fun i => (i.zero, i.size, i.bytes)) = some (some (.int .u8 0), 1, 1) := by kernel_rfl
theorem all_at {s : ByteArray} (k : Nat) (h : k < s.size) (ha : s.data.toList.all isBit = true) : isBit s[k] = true :=
  List.all_eq_true.1 ha _ (by rw [show s[k] = s.data.toList[k]'(by simpa using h) from rfl]; exact List.getElem_mem _)
end Go.Proofs.YtndpbhmokobbpaaGreatDoor

namespace Go.Proofs.YtndpbhmokobbpaaGreatDoor
open Go.RowKit
set_option linter.unusedVariables false

theorem cellsOf_get (l : List UInt8) (j : Nat) (h : j < l.length) : (cellsOf l)[j]? = some (.int .u8 ((l.getD j 0).toNat : Int)) := by
  simp [cellsOf, List.getD_eq_getElem?_getD, List.getElem?_eq_getElem h]

/-- Block g begins with the bytes l, which may be written; it is no iterator. -/
def OwnB (w : World) (g : Nat) (l : List UInt8) : Prop :=
  g < w.heap.size ∧ (∀ s p, w.heap[g]? ≠ some (.stringIter s p)) ∧ (∀ j, j < l.length → w.cell? ⟨g, j, none⟩ = some (.int .u8 ((l.getD j 0).toNat : Int))) ∧ (∀ j, j < l.length → w.frozen? ⟨g, j, none⟩ = false)
theorem OwnB.cellAt {w : World} {g : Nat} {l : List UInt8} (h : OwnB w g l) (j : Nat) (hj : j < l.length) : w.cell? ⟨g, j, none⟩ = some (.int .u8 ((l.getD j 0).toNat : Int)) := h.2.2.1 j hj
theorem OwnB.frozenAt {w : World} {g : Nat} {l : List UInt8} (h : OwnB w g l) (j : Nat) (hj : j < l.length) : w.frozen? ⟨g, j, none⟩ = false := h.2.2.2 j hj
theorem OwnB.keep {w w' : World} {g : Nat} {l : List UInt8} (h : OwnB w g l) (hs : w.heap.size ≤ w'.heap.size) (hb : w'.heap[g]? = w.heap[g]?) : OwnB w' g l := by
  refine ⟨Nat.lt_of_lt_of_le h.1 hs, fun s p => by rw [hb]; exact h.2.1 s p, fun j hj => ?_, fun j hj => ?_⟩
  · rw [World.cell?_of_block (w := w) (w' := w') (a := ⟨g, j, none⟩) hb]; exact h.2.2.1 j hj
  · rw [World.frozen?_of_block (w := w) (w' := w') (a := ⟨g, j, none⟩) hb]; exact h.2.2.2 j hj
theorem OwnB.alloc {w : World} {g : Nat} {l : List UInt8} (h : OwnB w g l) (o : Obj) : OwnB (w.alloc o) g l := h.keep (by simp) (Below.heap_alloc _ _ _ h.1)
theorem OwnB.drewN {w : World} {g : Nat} {l : List UInt8} (h : OwnB w g l) (n : Nat) : OwnB (w.drewN n) g l := h
theorem OwnB.ne_iter {w : World} {g k p : Nat} {s : ByteArray} {l : List UInt8} (h : OwnB w g l) (hk : w.heap[k]? = some (.stringIter s p)) : k ≠ g := by
  rintro rfl; exact h.2.1 s p hk
theorem OwnB.iterAt {w : World} {g k p : Nat} {s : ByteArray} {l : List UInt8} (h : OwnB w g l) (hk : w.heap[k]? = some (.stringIter s p)) (q : Nat) : OwnB (w.iterAt k s q) g l :=
  h.keep (by rw [Lib.iterAt_size]; exact Nat.le_refl _) (Lib.iterAt_other _ _ _ _ _ (fun e => h.ne_iter hk e.symm))
theorem OwnB.below {w w' : World} {B g : Nat} {l : List UInt8} (h : OwnB w g l) (hb : Below B w w') (hg : g < B) : OwnB w' g l := h.keep hb.size (hb.block g hg)
theorem OwnB.stored {w : World} {g : Nat} {l : List UInt8} (h : OwnB w g l) (k : Nat) (hk : k < l.length) (c : UInt8) :
    OwnB (w.setCell ⟨g, k, none⟩ (.int .u8 (c.toNat : Int))) g (l.set k c) ∧ w.grownBy (w.setCell ⟨g, k, none⟩ (.int .u8 (c.toNat : Int))) (some g) := by
  refine ⟨⟨by simp [World.setCell]; exact h.1, fun s p hsp => ?_, fun j hj => ?_, fun j hj => ?_⟩, ⟨rfl, rfl, rfl, by simp [World.setCell], fun i hi hn => Below.heap_setCell _ _ _ _ (fun e => hn (by rw [e]))⟩⟩
  · have hc := World.cell?_setCell_same w ⟨g, k, none⟩ (.int .u8 (c.toNat : Int)) (h.cellAt k hk)
    unfold World.cell? at hc
    rw [hsp] at hc
    simp at hc
  · have hj' : j < l.length := by simpa using hj
    by_cases e : k = j
    · subst e
      rw [World.cell?_setCell_same w _ _ (h.cellAt k hk)]
      simp [List.getD_eq_getElem?_getD, List.getElem?_set_self hk]
    · rw [World.cell?_setCell_other w _ _ _ (fun e' => e (by injection e')), h.cellAt j hj']
      simp [List.getD_eq_getElem?_getD, List.getElem?_set_ne e]
  · rw [World.frozen?_setCell]; exact h.frozenAt j (by simpa using hj)
theorem OwnB.of_own {w : World} {B e g n cap : Nat} {l : List UInt8} (hl : l.length = n) (h : w.ownsRow B e 1 (.slice (some ⟨g, 0, none⟩) n cap) n (cellsOf l)) : OwnB w g l := by
  subst hl
  refine ⟨(h.lt g rfl).2, fun s p hsp => ?_, fun j hj => ?_, fun j _ => h.frozenAt j⟩
  · rcases h.2 with ⟨h1, _⟩ | ⟨g', cap', cur, hv, _, hh, _⟩
    · cases h1
    · injection hv with h1
      injection h1 with h2
      injection h2 with h3
      subst h3
      rw [hh] at hsp; cases hsp
  · rw [h.cellAt j (by omega)]; exact cellsOf_get l j hj
end Go.Proofs.YtndpbhmokobbpaaGreatDoor
