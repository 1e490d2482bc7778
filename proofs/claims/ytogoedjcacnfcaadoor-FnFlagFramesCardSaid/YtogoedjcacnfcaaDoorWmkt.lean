/-
  The walks of the laws' functions that mark lists of texts and look over them. Conditions: where the lists lie, and the lengths that are typed.
-/
import Derived.Test.YtogoedjcacnfcaaDoorWff
import Derived.Test.YtogoedjcacnfcaaDoorWhq
import Derived.Test.YtogoedjcacnfcaaDoorWbk
import Derived.IntWalk
import Derived.BigQuiet
import Derived.Laws.BytesArg
namespace Go.Proofs.YtogoedjcacnfcaaDoor
open Go.RowKit
set_option linter.unusedVariables false

/-- A number's decimals ahead of a text. -/
def mtd : Nat → Nat → List UInt8 → List UInt8
  | 0, _, out => out
  | f + 1, k, out => if k = 0 then out else mtd f (k / 10) ((48 + UInt8.ofNat (k % 10)) :: out)
def mtx (k : Nat) : ByteArray := ⟨(109 :: mtd k k []).toArray⟩
theorem mtd_zero (f : Nat) (out : List UInt8) : mtd f 0 out = out := by
  cases f with
  | zero => rfl
  | succ f => unfold mtd; rw [if_pos rfl]
theorem mtd_len : ∀ (f k : Nat) (out : List UInt8), (mtd f k out).length ≤ f + out.length
  | 0, k, out => by simp [mtd]
  | f + 1, k, out => by
    unfold mtd
    split
    · omega
    · have := mtd_len f (k / 10) ((48 + UInt8.ofNat (k % 10)) :: out)
      simp only [List.length_cons] at this
      omega

theorem cvt_one (w : World) (x : Int) : (convert 27 9 (.slice (some ⟨w.heap.size, 0, none⟩) 1 1)).run Tryd.prog (w.alloc (.cells #[.int .u8 x] 5)) = .ok (.string ⟨#[UInt8.ofNat x.toNat]⟩) (w.alloc (.cells #[.int .u8 x] 5)) :=
  run_convert_bytes_arg _ 27 5 Tryd.underlying27 Tryd.underlying5 w.heap.size 0 1 1 [x] rfl (fun i hi => by
    obtain rfl : i = 0 := by omega
    have hB := Blk.new w 5 #[.int .u8 x]
    exact hB.cell 0) 9 Tryd.underlying9

set_option maxHeartbeats 1600000 in
theorem mkt_any (w : World) (k : Nat) (h1 : 1 ≤ k) (h2 : k ≤ 2000) :
    Calls Tryd.prog 22 #[.int .i64 k] w fun e w' => e = .returned (.string (mtx k)) ∧ Below w.heap.size w w' := by
  have hd : decide ((k : Int) ≤ 0) = false := by simp; omega
  go_enter Tryd.func22, Tryd.ntmps22
  go_wp2
  go_loopw [0, 3] (fun kv ov wr => ∃ (j f : Nat) (out : List UInt8), kv = .int .i64 j ∧ ov = .string ⟨out.toArray⟩ ∧ j ≤ f ∧ f ≤ k ∧ out.length + f ≤ k ∧ mtd f j out = mtd k k [] ∧ Below w.heap.size w wr) (fun kv _ _ => (intOf kv).toNat)
  case atStart => exact ⟨k, k, [], rfl, rfl, Nat.le_refl _, Nat.le_refl _, by simp, rfl, Below.refl _ _⟩
  case round =>
    obtain ⟨j, f, out, rfl, rfl, hjf, hfk, hol, hmt, hbel⟩ := hrel
    have HMT := Lib.hid hmt
    have HBEL := Lib.hid hbel
    clear hmt hbel hd
    by_cases h0 : 0 < j
    · have q0 : decide ((0 : Int) < (j : Int)) = true := by simp; omega
      obtain ⟨f, rfl⟩ : ∃ g, f = g + 1 := ⟨f - 1, by omega⟩
      have q1 : (0 : Int) ≤ (j : Int) := by omega
      have HCV := cvt_one wr (48 + (j : Int) % 10)
      have e1 : (48 + (j : Int) % 10).toNat = 48 + j % 10 := by omega
      rw [e1] at HCV
      have HN : Hid (mtd (f + 1) j out = mtd f (j / 10) ((48 + UInt8.ofNat (j % 10)) :: out)) := Lib.hid (by
        show (if j = 0 then out else mtd f (j / 10) ((48 + UInt8.ofNat (j % 10)) :: out)) = _
        rw [if_neg (by omega)])
      have ed : (j : Int) / 10 = ((j / 10 : Nat) : Int) := by omega
      have HED := Lib.hid ed
      clear ed
      go_wp2
      go_roundw
      case rel => exact ⟨j / 10, f, (48 + UInt8.ofNat (j % 10)) :: out, by rw [HED.out], by show Value.string (⟨[48 + UInt8.ofNat (j % 10)].toArray⟩ ++ ⟨out.toArray⟩) = _; rw [ByteArray.mk_append_mk]; rfl, by omega, by omega, by simp only [List.length_cons]; omega, by rw [← HMT.out, HN.out], HBEL.out.alloc HBEL.out.size _⟩
      case measure => simp [intOf]; omega
    · have q0 : decide ((0 : Int) < (j : Int)) = false := by simp; omega
      obtain rfl : j = 0 := by omega
      have HE : Hid (out = mtd k k []) := Lib.hid (by rw [← HMT.out, mtd_zero])
      go_wp2
      go_ret
      refine ⟨?_, HBEL.out⟩
      rw [HE.out]
      show Ending.returned (.string (⟨[109].toArray⟩ ++ ⟨(mtd k k []).toArray⟩)) = _
      rw [ByteArray.mk_append_mk]; rfl

/-- Marked texts: n of them. -/
def mkS (n : Nat) : List ByteArray := (List.range n).map fun j => mtx (1 + j)
theorem mkS_len (n : Nat) : (mkS n).length = n := by simp [mkS]
theorem mkS_get (n j : Nat) (h : j < n) : (mkS n).getD j ByteArray.empty = mtx (1 + j) := by
  simp [mkS, List.getD_eq_getElem?_getD, h]
theorem mkS_succ (n : Nat) : mkS (n + 1) = mkS n ++ [mtx (1 + n)] := by simp [mkS, List.range_succ]
theorem smark_step (xs : List ByteArray) (k : Nat) (h : k < xs.length) : (mkS k ++ xs.drop k).set k (mtx (1 + k)) = mkS (k + 1) ++ xs.drop (k + 1) := by
  rw [List.set_append, if_neg (by rw [mkS_len]; omega), mkS_len, Nat.sub_self, List.drop_eq_getElem_cons h, List.set_cons_zero, mkS_succ]
  simp
theorem smark_len (xs : List ByteArray) (k : Nat) (h : k ≤ xs.length) : (mkS k ++ xs.drop k).length = xs.length := by
  rw [List.length_append, mkS_len, List.length_drop]; omega

set_option maxHeartbeats 1600000 in
theorem markS_at (w : World) (B g cap n : Nat) (xs : List ByteArray) (hn : xs.length = n) (hn2 : n ≤ 1000) (hB : B ≤ w.heap.size) (h : OwnT w B (.slice (some ⟨g, 0, none⟩) n cap) xs) :
    Calls Tryd.prog 9 #[.slice (some ⟨g, 0, none⟩) n cap, .int .i64 1] w
      fun e w' => e = .returned (.int .i64 (1 + (n : Int))) ∧ OwnT w' B (.slice (some ⟨g, 0, none⟩) n cap) (mkS n) ∧ Below B w w' := by
  have HN := Lib.hid hn
  have H := Lib.hid h
  clear h hn
  go_enter Tryd.func9, Tryd.ntmps9
  go_wp2
  go_loopw [1, 5] (fun kv i wr => ∃ (k : Nat) (z : Int), k ≤ n ∧ i = .int .i64 k ∧ kv = .int .i64 z ∧ z = 1 + (k : Int) ∧ OwnT wr B (.slice (some ⟨g, 0, none⟩) n cap) (mkS k ++ xs.drop k) ∧ Below B w wr) (fun _ i _ => n - (intOf i).toNat)
  case atStart => exact ⟨0, 1, Nat.zero_le _, rfl, rfl, by simp, by simpa [mkS] using H.out, Below.refl _ _⟩
  case round =>
    obtain ⟨k, z, hk, rfl, rfl, hz, hown, hbel⟩ := hrel
    have HO := Lib.hid hown
    have HBEL := Lib.hid hbel
    have HZ := Lib.hid hz
    by_cases hlt : k < n
    · have hlen := smark_len xs k (by rw [HN.out]; omega)
      have HST := Lib.hid (smark_step xs k (by rw [HN.out]; exact hlt))
      have k0 : (0 : Int) ≤ (k : Int) := by omega
      have k1 : (k : Int) < (n : Int) := by omega
      obtain ⟨zn, rfl⟩ : ∃ zn : Nat, z = zn := ⟨z.toNat, by omega⟩
      have ez : zn = 1 + k := by omega
      have HMK := Lib.hid (fun W => mkt_any W zn (by omega) (by omega))
      have HZK := Lib.hid ez
      have z1 : (zn : Int) ≤ 2000 := by omega
      have z0 : (0 : Int) ≤ (zn : Int) := by omega
      have hlx : mkS k ++ xs.drop k ≠ [] ∨ True := .inr trivial
      have HLN := Lib.hid (hlen.trans HN.out)
      clear hown hbel hz hlen ez hlx
      generalize hL : mkS k ++ xs.drop k = L at *
      clear hL
      generalize hM : mkS (k + 1) ++ xs.drop (k + 1) = M at *
      have HMM := Lib.hid hM
      clear hM
      go_wp2_with (go_at_call 22; refine (HMK.out _).mono ?_; rintro e w5 ⟨rfl, hb5⟩; have HO5 : Hid (OwnT w5 B (.slice (some ⟨g, 0, none⟩) n cap) L) := Lib.hid (own_belowS HO.out hb5 (fun q hq => (World.ownsRow.lt HO.out q hq).2)); have HB5 := Lib.hid (HBEL.out.trans (hb5.mono (Nat.le_trans hB HBEL.out.size))); clear hb5; have HR5 : Hid (w5.ownsRow B 9 1 (.slice (some ⟨g, 0, none⟩) n cap) n (strv L)) := Lib.hid (by have h7 := HO5.out; unfold OwnT at h7; rwa [HLN.out] at h7); have hc5 : w5.cell? ⟨g, k, none⟩ = some (.string (L.getD k ByteArray.empty)) := (by rw [World.ownsRow.cellAt HR5.out k (by omega), strv_get L k (by have := HLN.out; omega)]); have hf5 := World.ownsRow.frozenAt HR5.out k; generalize L.getD k ByteArray.empty = lk at hc5)
      have hst := World.ownsRow.stored HR5.out k (.string (mtx zn))
      have hg1 := (World.ownsRow.lt HR5.out g rfl).1
      rw [strv_set, HZK.out, HST.out] at hst
      have HSTO : Hid (OwnT (w5.setCell ⟨g, k, none⟩ (.string (mtx zn))) B (.slice (some ⟨g, 0, none⟩) n cap) M) := Lib.hid (by
        have h1 := hst.1
        rw [← HZK.out] at h1
        have hM : M.length = n := by rw [← HST.out, List.length_set]; exact HLN.out
        unfold OwnT
        rw [hM]; exact h1)
      have HBS : Hid (Below B w (w5.setCell ⟨g, k, none⟩ (.string (mtx zn)))) := Lib.hid (HB5.out.setCell (p := ⟨g, k, none⟩) hg1 _)
      clear hst
      go_roundw
      case rel => exact ⟨k + 1, (zn : Int) + 1, by omega, by go_num, rfl, by have := HZ.out; omega, by rw [HMM.out]; exact HSTO.out, HBS.out⟩
      case measure => simp [intOf]; omega
    · obtain rfl : k = n := by omega
      have e : mkS k ++ xs.drop k = mkS k := by
        rw [List.drop_eq_nil_of_le (by rw [HN.out]; omega)]; simp
      rw [e] at HO
      clear e hown
      go_wp2
      go_ret
      exact ⟨by first | rfl | exact ret_int hz, HO.out, HBEL.out⟩
set_option maxHeartbeats 400000 in
theorem markS_nil (w : World) (A : Option Addr) (c : Nat) :
    Calls Tryd.prog 9 #[.slice A 0 c, .int .i64 1] w fun e w' => e = .returned (.int .i64 1) ∧ w' = w := by
  go_enter Tryd.func9, Tryd.ntmps9
  go_wp2
  refine wp_loop_rounds 1 ?_
  rw [rounds_succ]
  go_wp2
  go_ret
  exact ⟨rfl, rfl⟩
theorem markS_any (w : World) (B : Nat) (v : Value) (xs : List ByteArray) (hn2 : xs.length ≤ 1000) (hB : B ≤ w.heap.size) (h : OwnT w B v xs) :
    Calls Tryd.prog 9 #[v, .int .i64 1] w
      fun e w' => e = .returned (.int .i64 (1 + (xs.length : Int))) ∧ OwnT w' B v (mkS xs.length) ∧ Below B w w' := by
  rcases h.2 with ⟨rfl, h0⟩ | ⟨g, cap, cur, rfl, _⟩
  · refine (markS_nil w none 0).mono fun e w' ⟨h1, h2⟩ => ?_
    subst h2
    rw [h0]
    exact ⟨by rw [h1]; rfl, OwnT.nil _ _, Below.refl _ _⟩
  · exact markS_at w B g cap xs.length xs rfl hn2 hB h

set_option maxHeartbeats 1600000 in
theorem heldS_at (w : World) (b off c n : Nat) (hn2 : n ≤ 1000) (h : AtS w b off (mkS n)) :
    Calls Tryd.prog 10 #[.slice (some ⟨b, off, none⟩) n c, .int .i64 1] w
      fun e w' => e = .returned (.int .i64 (1 + (n : Int))) ∧ Below w.heap.size w w' := by
  have HC := Lib.hid h
  clear h
  go_enter Tryd.func10, Tryd.ntmps10
  go_wp2
  go_loopw [1, 5] (fun kv i wr => ∃ (k : Nat) (z : Int), k ≤ n ∧ i = .int .i64 k ∧ kv = .int .i64 z ∧ z = 1 + (k : Int) ∧ Below w.heap.size w wr) (fun _ i _ => n - (intOf i).toNat)
  case atStart => exact ⟨0, 1, Nat.zero_le _, rfl, rfl, by simp, Below.refl _ _⟩
  case round =>
    obtain ⟨k, z, hk, rfl, rfl, hz, hbel⟩ := hrel
    have HBEL := Lib.hid hbel
    have HZ := Lib.hid hz
    have k0 : (0 : Int) ≤ (k : Int) := by omega
    by_cases hlt : k < n
    · have k1 : (k : Int) < (n : Int) := by omega
      have ne := Wld.ne (S := fun w' => Below w.heap.size w w') hbel
      obtain ⟨zn, rfl⟩ : ∃ zn : Nat, z = zn := ⟨z.toNat, by omega⟩
      have ez : 1 + k = zn := by omega
      have hx : ∀ x : Wld (fun w' => Below w.heap.size w w'), x.v.cell? ⟨b, off + k, none⟩ = some (.string (mtx zn)) := fun x => by
        have := (HC.out.below x.h HC.out.1).2 k (by rw [mkS_len]; exact hlt)
        rw [mkS_get n k hlt, ez] at this
        exact this
      have HE := Lib.hid (fun W => mkt_any W zn (by omega) (by omega))
      have hq : ((mtx zn).toList == (mtx zn).toList) = true := by simp
      have z1 : (zn : Int) ≤ 2000 := by omega
      have z0 : (0 : Int) ≤ (zn : Int) := by omega
      clear hbel hz ez
      generalize mtx zn = mk at *
      go_wp2
      refine wp_region_heldq (fun w' => Below w.heap.size w w') (by kernel_rfl) (by kernel_rfl) (belowDr HBEL.out) ?_
      repeat (go_big_quiet_step (with_reducible exact held_below (fun _ _ h hb => h.trans (hb.mono h.size)) (HE.out _)))
      refine wpQuiet_nil ?_
      rintro _ ⟨xx, rfl⟩
      go_wp2
      go_roundw
      case rel => exact ⟨k + 1, (zn : Int) + 1, by omega, by go_num, rfl, by have := HZ.out; omega, xx.h⟩
      case measure => simp [intOf]; omega
    · obtain rfl : k = n := by omega
      go_wp2
      go_ret
      exact ⟨by first | rfl | exact ret_int hz, HBEL.out⟩
set_option maxHeartbeats 400000 in
theorem heldS_nil (w : World) (A : Option Addr) (c : Nat) :
    Calls Tryd.prog 10 #[.slice A 0 c, .int .i64 1] w fun e w' => e = .returned (.int .i64 1) ∧ w' = w := by
  go_enter Tryd.func10, Tryd.ntmps10
  go_wp2
  refine wp_loop_rounds 1 ?_
  rw [rounds_succ]
  go_wp2
  go_ret
  exact ⟨rfl, rfl⟩
theorem rss_own {w : World} {B : Nat} {v : Value} {xs : List ByteArray} (h : OwnT w B v xs) : Rss w v xs := by
  obtain ⟨A, c, rfl⟩ := own_form1 h
  refine ⟨A, c, rfl, fun h0 => ?_⟩
  rcases h.2 with ⟨_, h1⟩ | ⟨g, cap, cur, hv, _⟩
  · omega
  · have e : A = some ⟨g, 0, none⟩ := by injection hv
    subst e
    refine ⟨g, 0, rfl, (World.ownsRow.lt h g rfl).2, fun j hj => ?_⟩
    have h' : w.ownsRow B 9 1 (.slice (some ⟨g, 0, none⟩) xs.length c) xs.length (strv xs) := h
    rw [Nat.zero_add, World.ownsRow.cellAt h' j (by omega), strv_get xs j hj]
theorem lies_own {w : World} {B : Nat} {v : Value} {xs : List ByteArray} (h : OwnT w B v xs) : LiesS w.heap.size v xs := fun _ g hg => (World.ownsRow.lt h g hg).2
theorem heldS_any (w : World) (v : Value) (n : Nat) (hn2 : n ≤ 1000) (h : Rss w v (mkS n)) :
    Calls Tryd.prog 10 #[v, .int .i64 1] w fun e w' => e = .returned (.int .i64 (1 + (n : Int))) ∧ Below w.heap.size w w' := by
  obtain ⟨A, c, rfl, h1⟩ := h
  rw [mkS_len] at h1 ⊢
  rcases Nat.eq_zero_or_pos n with rfl | h0
  · exact (heldS_nil w A c).mono fun e w' ⟨h2, h3⟩ => ⟨by rw [h2]; rfl, by rw [h3]; exact Below.refl _ _⟩
  · obtain ⟨b, off, rfl, ha⟩ := h1 h0
    exact heldS_at w b off c n hn2 ha
end Go.Proofs.YtogoedjcacnfcaaDoor
