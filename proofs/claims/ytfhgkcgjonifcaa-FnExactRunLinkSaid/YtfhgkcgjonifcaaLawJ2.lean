/-
  The walk of the law FnExactActOn: it returns true at every plan, link and byte. No condition.
-/
import Derived.Test.YtfhgkcgjonifcaaWao
import Derived.Test.YtfhgkcgjonifcaaLawJ1
import Derived.Deep.DeepCutAuto
import Derived.Deep.RegionHeld3
import Derived.OpenShut
namespace Go.Proofs.Ytfhgkcgjonifcaa
open Go.RowKit
set_option linter.unusedVariables false

/-- A plan and a link of the laws' own types lie in the first two blocks behind w. -/
structure TwoL (w w' : World) (xs ys : Array Value) : Prop where
  p : Blk w' w.heap.size 23 xs
  l : Blk w' (w.heap.size + 1) 33 ys
  b : Below w.heap.size w w'
  z : w.heap.size + 2 ≤ w'.heap.size
theorem TwoL.new (w : World) (xs ys : Array Value) : TwoL w ((w.alloc (.cells xs 23)).alloc (.cells ys 33)) xs ys :=
  ⟨(Blk.new w _ xs).alloc _, by have := Blk.new (w.alloc (.cells xs 23)) 33 ys; simpa using this, ((Below.refl _ _).alloc (Nat.le_refl _) _).alloc (by simp) _, by simp⟩
theorem TwoL.more {w w1 w2 : World} {xs ys : Array Value} (h : TwoL w w1 xs ys) (hb : Below w1.heap.size w1 w2) : TwoL w w2 xs ys :=
  ⟨h.p.below hb (by have := h.z; omega), h.l.below hb (by have := h.z; omega), h.b.trans (hb.mono (by have := h.z; omega)), Nat.le_trans h.z hb.size⟩
theorem TwoL.drew {w w1 : World} {xs ys : Array Value} (h : TwoL w w1 xs ys) : TwoL w w1.drew xs ys := ⟨h.p, h.l, belowDr h.b, h.z⟩
theorem TwoL.alloc {w w1 : World} {xs ys : Array Value} (h : TwoL w w1 xs ys) (o : Obj) : TwoL w (w1.alloc o) xs ys := h.more ((Below.refl _ _).alloc (Nat.le_refl _) _)
theorem twoL_S {w w' : World} {n a k m kn s d h da wo : Int} (ht : TwoL w w' #[.int .i64 n, .int .i64 a, .int .i64 k, .int .i64 m] #[.int .i64 kn, .int .i64 s, .int .i64 d, .int .i64 h, .int .i64 da, .int .i64 wo]) : (fun w' => TwoL w w' #[.int .i64 n, .int .i64 a, .int .i64 k, .int .i64 m] #[.int .i64 kn, .int .i64 s, .int .i64 d, .int .i64 h, .int .i64 da, .int .i64 wo] ∧ w'.cell? ⟨w.heap.size, 0, none⟩ = some (.int .i64 n) ∧ w'.cell? ⟨w.heap.size, 1, none⟩ = some (.int .i64 a) ∧ w'.cell? ⟨w.heap.size, 2, none⟩ = some (.int .i64 k) ∧ w'.cell? ⟨w.heap.size, 3, none⟩ = some (.int .i64 m) ∧ w'.cell? ⟨w.heap.size + 1, 0, none⟩ = some (.int .i64 kn) ∧ w'.cell? ⟨w.heap.size + 1, 1, none⟩ = some (.int .i64 s) ∧ w'.cell? ⟨w.heap.size + 1, 2, none⟩ = some (.int .i64 d) ∧ w'.cell? ⟨w.heap.size + 1, 3, none⟩ = some (.int .i64 h) ∧ w'.cell? ⟨w.heap.size + 1, 4, none⟩ = some (.int .i64 da) ∧ w'.cell? ⟨w.heap.size + 1, 5, none⟩ = some (.int .i64 wo)) w' :=
  ⟨ht, ht.p.c4.1, ht.p.c4.2.1, ht.p.c4.2.2.1, ht.p.c4.2.2.2, ht.l.c6.1, ht.l.c6.2.1, ht.l.c6.2.2.1, ht.l.c6.2.2.2.1, ht.l.c6.2.2.2.2.1, ht.l.c6.2.2.2.2.2⟩
theorem TwoL.set6 {w w1 : World} {xs ys : Array Value} {g : Nat} (h : TwoL w w1 xs ys) (hg : w.heap.size + 2 ≤ g) (a b c d e f : Value) :
    TwoL w ((((((w1.setCell ⟨g, 0, none⟩ a).setCell ⟨g, 1, none⟩ b).setCell ⟨g, 2, none⟩ c).setCell ⟨g, 3, none⟩ d).setCell ⟨g, 4, none⟩ e).setCell ⟨g, 5, none⟩ f) xs ys :=
  ⟨h.p.far6 (by omega) _ _ _ _ _ _, h.l.far6 (by omega) _ _ _ _ _ _, (((((h.b.setCell (p := ⟨g, 0, none⟩) (by simp; omega) _).setCell (p := ⟨g, 1, none⟩) (by simp; omega) _).setCell (p := ⟨g, 2, none⟩) (by simp; omega) _).setCell (p := ⟨g, 3, none⟩) (by simp; omega) _).setCell (p := ⟨g, 4, none⟩) (by simp; omega) _).setCell (p := ⟨g, 5, none⟩) (by simp; omega) _, by simpa using h.z⟩
/-- A block of the walk's own that holds noughts. -/
structure Own6 (w w' : World) (g : Nat) : Prop where
  k : Blk w' g 29 #[.int .i64 0, .int .i64 0, .int .i64 0, .int .i64 0, .int .i64 0, .int .i64 0]
  z : w.heap.size + 2 ≤ g
theorem Own6.new {w w1 : World} {xs ys : Array Value} (h : TwoL w w1 xs ys) : Own6 w (w1.alloc (.cells #[.int .i64 0, .int .i64 0, .int .i64 0, .int .i64 0, .int .i64 0, .int .i64 0] 29)) w1.heap.size := ⟨Blk.new _ _ _, h.z⟩
theorem Own6.keep {w w1 w2 : World} {g : Nat} (h : Own6 w w1 g) (hb : Below w1.heap.size w1 w2) : Own6 w w2 g := ⟨h.k.below hb h.k.lt, h.z⟩
theorem Own6.keepNew {w w1 w2 : World} {xs ys : Array Value} (h : TwoL w w1 xs ys) (hb : Below (w1.alloc (.cells #[.int .i64 0, .int .i64 0, .int .i64 0, .int .i64 0, .int .i64 0, .int .i64 0] 29)).heap.size (w1.alloc (.cells #[.int .i64 0, .int .i64 0, .int .i64 0, .int .i64 0, .int .i64 0, .int .i64 0] 29)) w2) : Own6 w w2 w1.heap.size := (Own6.new h).keep hb
theorem TwoL.moreA {w w1 w2 : World} {xs ys : Array Value} {o : Obj} (h : TwoL w w1 xs ys) (hb : Below (w1.alloc o).heap.size (w1.alloc o) w2) : TwoL w w2 xs ys := (h.alloc o).more hb
theorem Own6.keepNewD {w w1 w2 : World} {xs ys : Array Value} (h : TwoL w w1 xs ys) (hb : Below (w1.alloc (.cells #[.int .i64 0, .int .i64 0, .int .i64 0, .int .i64 0, .int .i64 0, .int .i64 0] 29)).drew.heap.size (w1.alloc (.cells #[.int .i64 0, .int .i64 0, .int .i64 0, .int .i64 0, .int .i64 0, .int .i64 0] 29)).drew w2) : Own6 w w2 w1.heap.size :=
  (⟨(Blk.new _ _ _).drew, h.z⟩ : Own6 w (w1.alloc (.cells #[.int .i64 0, .int .i64 0, .int .i64 0, .int .i64 0, .int .i64 0, .int .i64 0] 29)).drew w1.heap.size).keep hb
theorem TwoL.moreAD {w w1 w2 : World} {xs ys : Array Value} {o : Obj} (h : TwoL w w1 xs ys) (hb : Below (w1.alloc o).drew.heap.size (w1.alloc o).drew w2) : TwoL w w2 xs ys := (h.alloc o).drew.more hb
theorem TwoL.moreD {w w1 w2 : World} {xs ys : Array Value} (h : TwoL w w1 xs ys) (hb : Below w1.drew.heap.size w1.drew w2) : TwoL w w2 xs ys := h.drew.more hb
/-- .. and a third block, of a link. -/
structure TwoG (w w' : World) (xs ys : Array Value) (g0 : Nat) (zs : Array Value) : Prop where
  t : TwoL w w' xs ys
  k : Blk w' g0 29 zs
theorem TwoG.more {w w1 w2 : World} {xs ys zs : Array Value} {g0 : Nat} (h : TwoG w w1 xs ys g0 zs) (hb : Below w1.heap.size w1 w2) : TwoG w w2 xs ys g0 zs := ⟨h.t.more hb, h.k.below hb h.k.lt⟩
theorem TwoG.drew {w w1 : World} {xs ys zs : Array Value} {g0 : Nat} (h : TwoG w w1 xs ys g0 zs) : TwoG w w1.drew xs ys g0 zs := ⟨h.t.drew, h.k.drew⟩
theorem TwoG.alloc {w w1 : World} {xs ys zs : Array Value} {g0 : Nat} (h : TwoG w w1 xs ys g0 zs) (o : Obj) : TwoG w (w1.alloc o) xs ys g0 zs := ⟨h.t.alloc o, h.k.alloc o⟩
theorem TwoG.moreA {w w1 w2 : World} {xs ys zs : Array Value} {g0 : Nat} {o : Obj} (h : TwoG w w1 xs ys g0 zs) (hb : Below (w1.alloc o).heap.size (w1.alloc o) w2) : TwoG w w2 xs ys g0 zs := (h.alloc o).more hb
theorem TwoG.moreAD {w w1 w2 : World} {xs ys zs : Array Value} {g0 : Nat} {o : Obj} (h : TwoG w w1 xs ys g0 zs) (hb : Below (w1.alloc o).drew.heap.size (w1.alloc o).drew w2) : TwoG w w2 xs ys g0 zs := (h.alloc o).drew.more hb
theorem TwoG.moreD {w w1 w2 : World} {xs ys zs : Array Value} {g0 : Nat} (h : TwoG w w1 xs ys g0 zs) (hb : Below w1.drew.heap.size w1.drew w2) : TwoG w w2 xs ys g0 zs := h.drew.more hb
/-- A block of the walk's own that holds noughts, behind the third block. -/
structure Own7 (w w' : World) (g0 g : Nat) : Prop where
  o : Own6 w w' g
  ne : g0 ≠ g
theorem Own7.keep {w w1 w2 : World} {g0 g : Nat} (h : Own7 w w1 g0 g) (hb : Below w1.heap.size w1 w2) : Own7 w w2 g0 g := ⟨h.o.keep hb, h.ne⟩
theorem Own7.keepNew {w w1 w2 : World} {xs ys zs : Array Value} {g0 : Nat} (h : TwoG w w1 xs ys g0 zs) (hb : Below (w1.alloc (.cells #[.int .i64 0, .int .i64 0, .int .i64 0, .int .i64 0, .int .i64 0, .int .i64 0] 29)).heap.size (w1.alloc (.cells #[.int .i64 0, .int .i64 0, .int .i64 0, .int .i64 0, .int .i64 0, .int .i64 0] 29)) w2) : Own7 w w2 g0 w1.heap.size := ⟨Own6.keepNew h.t hb, by have := h.k.lt; omega⟩
theorem Own7.keepNewD {w w1 w2 : World} {xs ys zs : Array Value} {g0 : Nat} (h : TwoG w w1 xs ys g0 zs) (hb : Below (w1.alloc (.cells #[.int .i64 0, .int .i64 0, .int .i64 0, .int .i64 0, .int .i64 0, .int .i64 0] 29)).drew.heap.size (w1.alloc (.cells #[.int .i64 0, .int .i64 0, .int .i64 0, .int .i64 0, .int .i64 0, .int .i64 0] 29)).drew w2) : Own7 w w2 g0 w1.heap.size := ⟨Own6.keepNewD h.t hb, by have := h.k.lt; omega⟩
theorem TwoG.set6 {w w1 : World} {xs ys zs : Array Value} {g0 g : Nat} (h : TwoG w w1 xs ys g0 zs) (hg : Own7 w w1 g0 g) (a b c d e f : Value) :
    TwoG w ((((((w1.setCell ⟨g, 0, none⟩ a).setCell ⟨g, 1, none⟩ b).setCell ⟨g, 2, none⟩ c).setCell ⟨g, 3, none⟩ d).setCell ⟨g, 4, none⟩ e).setCell ⟨g, 5, none⟩ f) xs ys g0 zs :=
  ⟨h.t.set6 hg.o.z _ _ _ _ _ _, h.k.far6 hg.ne _ _ _ _ _ _⟩
theorem twoG_S {w w' : World} {n a k m kn s d h da wo : Int} {g0 : Nat} {zs : Array Value} (ht : TwoG w w' #[.int .i64 n, .int .i64 a, .int .i64 k, .int .i64 m] #[.int .i64 kn, .int .i64 s, .int .i64 d, .int .i64 h, .int .i64 da, .int .i64 wo] g0 zs) : (fun w' => TwoG w w' #[.int .i64 n, .int .i64 a, .int .i64 k, .int .i64 m] #[.int .i64 kn, .int .i64 s, .int .i64 d, .int .i64 h, .int .i64 da, .int .i64 wo] g0 zs ∧ w'.cell? ⟨w.heap.size, 0, none⟩ = some (.int .i64 n) ∧ w'.cell? ⟨w.heap.size, 1, none⟩ = some (.int .i64 a) ∧ w'.cell? ⟨w.heap.size, 2, none⟩ = some (.int .i64 k) ∧ w'.cell? ⟨w.heap.size, 3, none⟩ = some (.int .i64 m) ∧ w'.cell? ⟨w.heap.size + 1, 0, none⟩ = some (.int .i64 kn) ∧ w'.cell? ⟨w.heap.size + 1, 1, none⟩ = some (.int .i64 s) ∧ w'.cell? ⟨w.heap.size + 1, 2, none⟩ = some (.int .i64 d) ∧ w'.cell? ⟨w.heap.size + 1, 3, none⟩ = some (.int .i64 h) ∧ w'.cell? ⟨w.heap.size + 1, 4, none⟩ = some (.int .i64 da) ∧ w'.cell? ⟨w.heap.size + 1, 5, none⟩ = some (.int .i64 wo)) w' :=
  ⟨ht, ht.t.p.c4.1, ht.t.p.c4.2.1, ht.t.p.c4.2.2.1, ht.t.p.c4.2.2.2, ht.t.l.c6.1, ht.t.l.c6.2.1, ht.t.l.c6.2.2.1, ht.t.l.c6.2.2.2.1, ht.t.l.c6.2.2.2.2.1, ht.t.l.c6.2.2.2.2.2⟩
set_option maxHeartbeats 800000 in
theorem toL_any (kn s d h da wo : Int) (w : World) : Calls Try.prog 17 #[(.agg #[.int .i64 kn, .int .i64 s, .int .i64 d, .int .i64 h, .int .i64 da, .int .i64 wo])] w fun e w' => e = .returned (.agg #[.int .i64 kn, .int .i64 s, .int .i64 d, .int .i64 h, .int .i64 da, .int .i64 wo]) ∧ Below w.heap.size w w' := by
  go_enter Try.func17, Try.ntmps17
  go_wp2
  exact bodyPost_ret (v := (.agg #[.int .i64 kn, .int .i64 s, .int .i64 d, .int .i64 h, .int .i64 da, .int .i64 wo])) (by simp [results, Try.results17, go_sem]) rfl ⟨rfl, (by repeat (first | (with_reducible exact Below.refl _ _) | (with_reducible assumption) | ((with_reducible refine Below.setCell ?_ ?_ _); rotate_left; focus (first | (simp; done) | (simp; omega))) | ((with_reducible refine Below.alloc ?_ ?_ _); rotate_left; focus (first | (with_reducible exact Nat.le_refl _) | (simp; done) | (simp; omega))) | (with_reducible refine belowD ?_ _) | (with_reducible refine belowDr ?_)))⟩
set_option maxHeartbeats 800000 in
theorem eqL_same (kn s d h da wo : Int) (w : World) : Calls Try.prog 15 #[(.agg #[.int .i64 kn, .int .i64 s, .int .i64 d, .int .i64 h, .int .i64 da, .int .i64 wo]), (.agg #[.int .i64 kn, .int .i64 s, .int .i64 d, .int .i64 h, .int .i64 da, .int .i64 wo])] w fun e w' => e = .returned (.bool true) ∧ Below w.heap.size w w' := by
  go_enter Try.func15, Try.ntmps15
  go_wp2
  go_ret
  exact ⟨rfl, (by repeat (first | (with_reducible exact Below.refl _ _) | (with_reducible assumption) | ((with_reducible refine Below.setCell ?_ ?_ _); rotate_left; focus (first | (simp; done) | (simp; omega))) | ((with_reducible refine Below.alloc ?_ ?_ _); rotate_left; focus (first | (with_reducible exact Nat.le_refl _) | (simp; done) | (simp; omega))) | (with_reducible refine belowD ?_ _) | (with_reducible refine belowDr ?_)))⟩

set_option maxHeartbeats 3200000 in
theorem fnExactActOn_walk0 (n a k m kn s d h da wo act : Int) (r : Lk) (b1 b2 : Bool) (w : World)
    (hs : ∀ W, Calls Try.prog 16 #[(.agg #[.int .i64 n, .int .i64 a, .int .i64 k, .int .i64 m]), (.agg #[.int .i64 kn, .int .i64 s, .int .i64 d, .int .i64 h, .int .i64 da, .int .i64 wo]), .int .u8 act] W fun e w' => e = .returned (.tuple #[.agg #[.int .i64 r.kn, .int .i64 r.s, .int .i64 r.d, .int .i64 r.h, .int .i64 r.da, .int .i64 r.wo], .bool b1, .bool b2]) ∧ Below W.heap.size W w')
    (hi : ∀ W, Calls Try.prog 18 #[(.agg #[.int .i64 n, .int .i64 a, .int .i64 k, .int .i64 m]), (.agg #[.int .i64 kn, .int .i64 s, .int .i64 d, .int .i64 h, .int .i64 da, .int .i64 wo]), .int .u8 act] W fun e w' => e = .returned (.tuple #[.agg #[.int .i64 r.kn, .int .i64 r.s, .int .i64 r.d, .int .i64 r.h, .int .i64 r.da, .int .i64 r.wo], .bool b1, .bool b2]) ∧ Below W.heap.size W w') :
    Calls Try.prog 5 #[(.agg #[.int .i64 n, .int .i64 a, .int .i64 k, .int .i64 m]), (.agg #[.int .i64 kn, .int .i64 s, .int .i64 d, .int .i64 h, .int .i64 da, .int .i64 wo]), .int .u8 act] w fun e w' => e = .returned (.bool true) ∧ Below w.heap.size w w' := by
  have HP := Lib.hid (fun W => toP_any n a k m W)
  have HL := Lib.hid (fun W => toL_any kn s d h da wo W)
  have HE := Lib.hid (fun W => eqL_same r.kn r.s r.d r.h r.da r.wo W)
  have HS := Lib.hid hs
  have HI := Lib.hid hi
  have HT := Lib.hid (TwoL.new w #[.int .i64 n, .int .i64 a, .int .i64 k, .int .i64 m] #[.int .i64 kn, .int .i64 s, .int .i64 d, .int .i64 h, .int .i64 da, .int .i64 wo])
  clear hs hi
  go_enter Try.func5, Try.ntmps5
  go_upto_region 1 with fail
  go_cut [7, 8, 9] (fun s7 s8 s9 wx => ∃ g : Nat, s7 = .pointer (some ⟨g, 0, none⟩) ∧ s8 = .bool b1 ∧ s9 = .bool b2 ∧ w.heap.size + 2 ≤ g ∧ Blk wx g 29 #[.int .i64 r.kn, .int .i64 r.s, .int .i64 r.d, .int .i64 r.h, .int .i64 r.da, .int .i64 r.wo] ∧ TwoL w wx #[.int .i64 n, .int .i64 a, .int .i64 k, .int .i64 m] #[.int .i64 kn, .int .i64 s, .int .i64 d, .int .i64 h, .int .i64 da, .int .i64 wo])
  case first =>
    generalize ((w.alloc (.cells #[.int .i64 n, .int .i64 a, .int .i64 k, .int .i64 m] 23)).alloc (.cells #[.int .i64 kn, .int .i64 s, .int .i64 d, .int .i64 h, .int .i64 da, .int .i64 wo] 33)) = W2 at *
    have hT' := HT.out
    go_region_held3 (fun w' => TwoL w w' #[.int .i64 n, .int .i64 a, .int .i64 k, .int .i64 m] #[.int .i64 kn, .int .i64 s, .int .i64 d, .int .i64 h, .int .i64 da, .int .i64 wo] ∧ w'.cell? ⟨w.heap.size, 0, none⟩ = some (.int .i64 n) ∧ w'.cell? ⟨w.heap.size, 1, none⟩ = some (.int .i64 a) ∧ w'.cell? ⟨w.heap.size, 2, none⟩ = some (.int .i64 k) ∧ w'.cell? ⟨w.heap.size, 3, none⟩ = some (.int .i64 m) ∧ w'.cell? ⟨w.heap.size + 1, 0, none⟩ = some (.int .i64 kn) ∧ w'.cell? ⟨w.heap.size + 1, 1, none⟩ = some (.int .i64 s) ∧ w'.cell? ⟨w.heap.size + 1, 2, none⟩ = some (.int .i64 d) ∧ w'.cell? ⟨w.heap.size + 1, 3, none⟩ = some (.int .i64 h) ∧ w'.cell? ⟨w.heap.size + 1, 4, none⟩ = some (.int .i64 da) ∧ w'.cell? ⟨w.heap.size + 1, 5, none⟩ = some (.int .i64 wo))
      (first
        | (with_reducible exact twoL_S hT')
        | (with_reducible exact twoL_S (TwoL.drew hT'))
        | (with_reducible exact twoL_S (TwoL.drew (TwoL.alloc hT' _)))
        | (with_reducible exact twoL_S (TwoL.alloc hT' _))
        | (with_reducible exact twoL_S (TwoL.set6 hT' hO.z _ _ _ _ _ _))
        | fail)
      (first
        | (go_at_call 11; ((with_reducible refine (HP.out _).mono ?_); rintro e w' ⟨rfl, hbb⟩); (first | (with_reducible have hO := Own6.keepNew hT' hbb) | (with_reducible have hO := Own6.keepNewD hT' hbb) | (with_reducible have hO := Own6.keep hO hbb) | skip); (first | (with_reducible have hT' := TwoL.more hT' hbb) | (with_reducible have hT' := TwoL.moreA hT' hbb) | (with_reducible have hT' := TwoL.moreD hT' hbb) | (with_reducible have hT' := TwoL.moreAD hT' hbb)))
        | (go_at_call 17; ((with_reducible refine (HL.out _).mono ?_); rintro e w' ⟨rfl, hbb⟩); (first | (with_reducible have hO := Own6.keepNew hT' hbb) | (with_reducible have hO := Own6.keepNewD hT' hbb) | (with_reducible have hO := Own6.keep hO hbb) | skip); (first | (with_reducible have hT' := TwoL.more hT' hbb) | (with_reducible have hT' := TwoL.moreA hT' hbb) | (with_reducible have hT' := TwoL.moreD hT' hbb) | (with_reducible have hT' := TwoL.moreAD hT' hbb)))
        | (go_at_call 16; ((with_reducible refine (HS.out _).mono ?_); rintro e w' ⟨rfl, hbb⟩); (first | (with_reducible have hO := Own6.keepNew hT' hbb) | (with_reducible have hO := Own6.keepNewD hT' hbb) | (with_reducible have hO := Own6.keep hO hbb) | skip); (first | (with_reducible have hT' := TwoL.more hT' hbb) | (with_reducible have hT' := TwoL.moreA hT' hbb) | (with_reducible have hT' := TwoL.moreD hT' hbb) | (with_reducible have hT' := TwoL.moreAD hT' hbb)); try (obtain ⟨o0, o1, o2, o3, o4, o5⟩ := hO.k.c6; obtain ⟨z0, z1, z2, z3, z4, z5⟩ := hO.k.f6)))
    all_goals
      go_wp2_with fail
      go_meet
      refine ⟨_, rfl, rfl, rfl, ?_, ?_, ?_⟩
      · first | (with_reducible exact hO.z) | (with_reducible exact hT'.z) | fail
      · first | (with_reducible exact Blk.set6 hO.k _ _ _ _ _ _) | (with_reducible exact Blk.drew (Blk.set6 hO.k _ _ _ _ _ _)) | (with_reducible exact Blk.new _ _ _) | (with_reducible exact Blk.drew (Blk.new _ _ _)) | fail
      · first | (with_reducible exact TwoL.set6 hT' hO.z _ _ _ _ _ _) | (with_reducible exact TwoL.drew (TwoL.set6 hT' hO.z _ _ _ _ _ _)) | (with_reducible exact TwoL.alloc hT' _) | (with_reducible exact TwoL.drew (TwoL.alloc hT' _)) | fail
  case rest =>
    obtain ⟨g0, rfl, rfl, rfl, hg0, hB0, hT0⟩ := hcut
    have hT' : TwoG w wc #[.int .i64 n, .int .i64 a, .int .i64 k, .int .i64 m] #[.int .i64 kn, .int .i64 s, .int .i64 d, .int .i64 h, .int .i64 da, .int .i64 wo] g0 #[.int .i64 r.kn, .int .i64 r.s, .int .i64 r.d, .int .i64 r.h, .int .i64 r.da, .int .i64 r.wo] := ⟨hT0, hB0⟩
    clear hB0 hT0
    go_upto_region 2 with fail
    go_cut [10, 11, 12] (fun s7 s8 s9 wx => ∃ g : Nat, s7 = .pointer (some ⟨g, 0, none⟩) ∧ s8 = .bool b1 ∧ s9 = .bool b2 ∧ Blk wx g 29 #[.int .i64 r.kn, .int .i64 r.s, .int .i64 r.d, .int .i64 r.h, .int .i64 r.da, .int .i64 r.wo] ∧ TwoG w wx #[.int .i64 n, .int .i64 a, .int .i64 k, .int .i64 m] #[.int .i64 kn, .int .i64 s, .int .i64 d, .int .i64 h, .int .i64 da, .int .i64 wo] g0 #[.int .i64 r.kn, .int .i64 r.s, .int .i64 r.d, .int .i64 r.h, .int .i64 r.da, .int .i64 r.wo])
    case first =>
      go_region_held3 (fun w' => TwoG w w' #[.int .i64 n, .int .i64 a, .int .i64 k, .int .i64 m] #[.int .i64 kn, .int .i64 s, .int .i64 d, .int .i64 h, .int .i64 da, .int .i64 wo] g0 #[.int .i64 r.kn, .int .i64 r.s, .int .i64 r.d, .int .i64 r.h, .int .i64 r.da, .int .i64 r.wo] ∧ w'.cell? ⟨w.heap.size, 0, none⟩ = some (.int .i64 n) ∧ w'.cell? ⟨w.heap.size, 1, none⟩ = some (.int .i64 a) ∧ w'.cell? ⟨w.heap.size, 2, none⟩ = some (.int .i64 k) ∧ w'.cell? ⟨w.heap.size, 3, none⟩ = some (.int .i64 m) ∧ w'.cell? ⟨w.heap.size + 1, 0, none⟩ = some (.int .i64 kn) ∧ w'.cell? ⟨w.heap.size + 1, 1, none⟩ = some (.int .i64 s) ∧ w'.cell? ⟨w.heap.size + 1, 2, none⟩ = some (.int .i64 d) ∧ w'.cell? ⟨w.heap.size + 1, 3, none⟩ = some (.int .i64 h) ∧ w'.cell? ⟨w.heap.size + 1, 4, none⟩ = some (.int .i64 da) ∧ w'.cell? ⟨w.heap.size + 1, 5, none⟩ = some (.int .i64 wo))
        (first
          | (with_reducible exact twoG_S hT')
          | (with_reducible exact twoG_S (TwoG.drew hT'))
          | (with_reducible exact twoG_S (TwoG.drew (TwoG.alloc hT' _)))
          | (with_reducible exact twoG_S (TwoG.alloc hT' _))
          | (with_reducible exact twoG_S (TwoG.set6 hT' hO _ _ _ _ _ _))
          | fail)
        (first
          | (go_at_call 11; ((with_reducible refine (HP.out _).mono ?_); rintro e w' ⟨rfl, hbb⟩); (first | (with_reducible have hO := Own7.keepNew hT' hbb) | (with_reducible have hO := Own7.keepNewD hT' hbb) | (with_reducible have hO := Own7.keep hO hbb) | skip); (first | (with_reducible have hT' := TwoG.more hT' hbb) | (with_reducible have hT' := TwoG.moreA hT' hbb) | (with_reducible have hT' := TwoG.moreD hT' hbb) | (with_reducible have hT' := TwoG.moreAD hT' hbb)))
          | (go_at_call 17; ((with_reducible refine (HL.out _).mono ?_); rintro e w' ⟨rfl, hbb⟩); (first | (with_reducible have hO := Own7.keepNew hT' hbb) | (with_reducible have hO := Own7.keepNewD hT' hbb) | (with_reducible have hO := Own7.keep hO hbb) | skip); (first | (with_reducible have hT' := TwoG.more hT' hbb) | (with_reducible have hT' := TwoG.moreA hT' hbb) | (with_reducible have hT' := TwoG.moreD hT' hbb) | (with_reducible have hT' := TwoG.moreAD hT' hbb)))
          | (go_at_call 18; ((with_reducible refine (HI.out _).mono ?_); rintro e w' ⟨rfl, hbb⟩); (first | (with_reducible have hO := Own7.keepNew hT' hbb) | (with_reducible have hO := Own7.keepNewD hT' hbb) | (with_reducible have hO := Own7.keep hO hbb) | skip); (first | (with_reducible have hT' := TwoG.more hT' hbb) | (with_reducible have hT' := TwoG.moreA hT' hbb) | (with_reducible have hT' := TwoG.moreD hT' hbb) | (with_reducible have hT' := TwoG.moreAD hT' hbb)); try (obtain ⟨o0, o1, o2, o3, o4, o5⟩ := hO.o.k.c6; obtain ⟨z0, z1, z2, z3, z4, z5⟩ := hO.o.k.f6)))
      all_goals
        go_wp2_with fail
        go_meet
        refine ⟨_, rfl, rfl, rfl, ?_, ?_⟩
        · first | (with_reducible exact Blk.set6 hO.o.k _ _ _ _ _ _) | (with_reducible exact Blk.drew (Blk.set6 hO.o.k _ _ _ _ _ _)) | (with_reducible exact Blk.new _ _ _) | (with_reducible exact Blk.drew (Blk.new _ _ _)) | fail
        · first | (with_reducible exact TwoG.set6 hT' hO _ _ _ _ _ _) | (with_reducible exact TwoG.drew (TwoG.set6 hT' hO _ _ _ _ _ _)) | (with_reducible exact TwoG.alloc hT' _) | (with_reducible exact TwoG.drew (TwoG.alloc hT' _)) | fail
    case rest =>
      obtain ⟨g1, rfl, rfl, rfl, hB1, hT1⟩ := hcut
      obtain ⟨x0, x1, x2, x3, x4, x5⟩ := hB1.c6
      obtain ⟨y0, y1, y2, y3, y4, y5⟩ := hT1.k.c6
      have HB := Lib.hid hT1.t.b
      have hz := hT1.t.z
      clear hB1 hT1 hT'
      go_wp2_with fail
      refine (HE.out _).mono ?_
      rintro e w9 ⟨rfl, hb9⟩
      go_wp2
      go_ret
      exact ⟨rfl, HB.out.trans (hb9.mono (by omega))⟩
/-- The law at each byte. -/
theorem fnExactActOn_walk (n a k m kn s d h da wo act : Int) (w : World) (hw : (Lit.int .u8 act).wf = true) :
    Calls Try.prog 5 #[(.agg #[.int .i64 n, .int .i64 a, .int .i64 k, .int .i64 m]), (.agg #[.int .i64 kn, .int .i64 s, .int .i64 d, .int .i64 h, .int .i64 da, .int .i64 wo]), .int .u8 act] w fun e w' => e = .returned (.bool true) ∧ Below w.heap.size w w' := by
  have hr : 0 ≤ act ∧ act ≤ 255 := by
    have := range_u8 (zs := [act]) (by intro n hn; simp at hn; rw [hn]; exact hw) 0
    simpa using this
  obtain ⟨c, rfl⟩ : ∃ c : Nat, act = c := ⟨act.toNat, by omega⟩
  exact fnExactActOn_walk0 n a k m kn s d h da wo c _ _ _ w (fun W => sAO_any n a k m kn s d h da wo W c (by omega)) (fun W => iAO_any n a k m kn s d h da wo W c (by omega))
end Go.Proofs.Ytfhgkcgjonifcaa
