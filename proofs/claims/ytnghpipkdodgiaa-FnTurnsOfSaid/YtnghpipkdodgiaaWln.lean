/-
  Facts on the lines that turns are given to. Conditions: where the lists lie, and the bounds that are typed.
-/
import Derived.Test.YtnghpipkdodgiaaWtkt
import Derived.Test.YtnghpipkdodgiaaWrp
import Derived.Test.YtnghpipkdodgiaaWse
namespace Go.Proofs.Ytnghpipkdodgiaa
open Go.RowKit
set_option linter.unusedVariables false

theorem infoLn : (Try.prog.info? 40).map (fun i => (i.zero, i.size, i.bytes)) = some (some (.agg #[.slice none 0 0, .int .i64 0]), 2, 32) := by kernel_rfl

theorem own_base7 {w : World} {B B' : Nat} {v : Value} {l : List Int} (h : OwnL w B v l) (hB : B' ≤ B) : OwnL w B' v l := by
  obtain ⟨h1, h2⟩ := h
  refine ⟨h1, ?_⟩
  rcases h2 with h2 | ⟨g, cap, cur, e1, e2, e3⟩
  · exact .inl h2
  · exact .inr ⟨g, cap, cur, e1, Nat.le_trans hB e2, e3⟩
/-- Each list has room for its numbers. -/
def CapL (w : World) (v : Value) (L : List (List Int)) : Prop := ∀ b off c, v = .slice (some ⟨b, off, none⟩) L.length c → ∀ j, j < L.length → ∀ A m c', w.cell? ⟨b, off + j, none⟩ = some (.slice A m c') → m ≤ c'
theorem lin_start {w : World} {A : Option Addr} {c : Nat} {L : List (List Int)} (h : RdsL w (.slice A L.length c) L) (hc : CapL w (.slice A L.length c) L) (f : Nat) (hf : f < L.length) :
    ∃ b off u, A = some ⟨b, off, none⟩ ∧ b < w.heap.size ∧ w.cell? ⟨b, off + f, none⟩ = some u ∧ Lin w (L.getD f []) 0 u ∧ u.oneCell' = true := by
  obtain ⟨b, off, Au, cu, hb, hbl, h1, h2⟩ := h.flow f hf
  subst hb
  refine ⟨b, off, _, rfl, hbl, h1, ⟨Au, cu, rfl, ?_, fun h0 => ?_⟩, rfl⟩
  · have := hc b off c rfl f hf Au _ cu h1
    omega
  · obtain ⟨bb, oo, e1, e2, e3⟩ := h2 h0
    exact ⟨bb, oo, e1, e2, fun k hk => by rw [Nat.zero_add]; exact e3 k (by omega)⟩

/-- The cells of the lines before their lists are laid into them, from line k on. -/
def LinI (L : List (List Int)) (w0 : World) (k : Nat) (cs : Array Value) : Prop :=
  cs.size = L.length * 2 ∧ ∀ j, j < L.length → (j < k → ∃ u, cs[j * 2]? = some u ∧ Lin w0 (L.getD j []) 0 u) ∧ cs[j * 2 + 1]? = some (.int .i64 0)
theorem linI_start (L : List (List Int)) (w0 : World) : LinI L w0 0 (madeCells (Value.agg #[.slice none 0 0, .int .i64 0]).cells (L.length * 2)) := by
  refine ⟨size_madeCells _ _, fun j hj => ⟨fun h => absurd h (by omega), ?_⟩⟩
  have hs : (Value.agg #[Value.slice none 0 0, Value.int .i64 0]).cells = #[.slice none 0 0, .int .i64 0] := rfl
  rw [hs]
  unfold madeCells
  rw [Array.getElem?_map, Array.getElem?_range, if_pos (by omega)]
  have e : (j * 2 + 1) % 2 = 1 := by omega
  show some ((#[Value.slice none 0 0, Value.int .i64 0])[(j * 2 + 1) % 2]!) = _
  rw [e]; rfl
theorem LinI.step {L : List (List Int)} {w0 : World} {k : Nat} {cs : Array Value} {u : Value} (h : LinI L w0 k cs) (hk : k < L.length) (hu : Lin w0 (L.getD k []) 0 u) : LinI L w0 (k + 1) (cs.setIfInBounds (k * 2) u) := by
  refine ⟨by rw [Array.size_setIfInBounds]; exact h.1, fun j hj => ⟨fun hjk => ?_, ?_⟩⟩
  · by_cases e : j = k
    · subst e
      exact ⟨u, Array.getElem?_setIfInBounds_self_of_lt (by rw [h.1]; omega), hu⟩
    · rw [Array.getElem?_setIfInBounds_ne (by omega)]
      exact (h.2 j hj).1 (by omega)
  · rw [Array.getElem?_setIfInBounds_ne (by omega)]
    exact (h.2 j hj).2
theorem LinI.some_ {L : List (List Int)} {w0 : World} {k : Nat} {cs : Array Value} (h : LinI L w0 k cs) (hk : k < L.length) : ∃ u, cs[k * 2]? = some u :=
  ⟨cs[k * 2]'(by rw [h.1]; omega), Array.getElem?_eq_getElem (by rw [h.1]; omega)⟩
/-- The cells of the lines, each with what is left of its list and with its credit. -/
def LinA (L : List (List Int)) (w0 : World) (st : Nat → Nat × Int) (cs : Array Value) : Prop :=
  cs.size = L.length * 2 ∧ ∀ j, j < L.length → (∃ u, cs[j * 2]? = some u ∧ Lin w0 (L.getD j []) (st j).1 u) ∧ cs[j * 2 + 1]? = some (.int .i64 (st j).2)
theorem LinI.all {L : List (List Int)} {w0 : World} {cs : Array Value} (h : LinI L w0 L.length cs) {st : Nat → Nat × Int} (hst : ∀ j, j < L.length → st j = (0, 0)) : LinA L w0 st cs :=
  ⟨h.1, fun j hj => by rw [hst j hj]; exact ⟨(h.2 j hj).1 hj, (h.2 j hj).2⟩⟩
theorem LinA.put {L : List (List Int)} {w0 : World} {st st' : Nat → Nat × Int} {cs : Array Value} {f : Nat} {u : Value} {c : Int} (h : LinA L w0 st cs) (hf : f < L.length) (hu : Lin w0 (L.getD f []) (st' f).1 u) (hc : c = (st' f).2) (hst : ∀ j, j < L.length → j ≠ f → st' j = st j) :
    LinA L w0 st' ((cs.setIfInBounds (f * 2 + 1) (.int .i64 c)).setIfInBounds (f * 2) u) := by
  refine ⟨by rw [Array.size_setIfInBounds, Array.size_setIfInBounds]; exact h.1, fun j hj => ?_⟩
  by_cases e : j = f
  · subst e
    refine ⟨⟨u, Array.getElem?_setIfInBounds_self_of_lt (by rw [Array.size_setIfInBounds, h.1]; omega), hu⟩, ?_⟩
    rw [Array.getElem?_setIfInBounds_ne (by omega), Array.getElem?_setIfInBounds_self_of_lt (by rw [h.1]; omega), hc]
  · rw [hst j hj e, Array.getElem?_setIfInBounds_ne (by omega), Array.getElem?_setIfInBounds_ne (by omega), Array.getElem?_setIfInBounds_ne (by omega), Array.getElem?_setIfInBounds_ne (by omega)]
    exact h.2 j hj
/-- How the flows stand where f of them are a turn further. -/
def stR (q : Int) (L : List (List Int)) (r f : Nat) (j : Nat) : Nat × Int := stt q (L.getD j []) (if j < f then r + 1 else r)
theorem LinA.congr {L : List (List Int)} {w0 : World} {st st' : Nat → Nat × Int} {cs : Array Value} (h : LinA L w0 st cs) (hst : ∀ j, j < L.length → st' j = st j) : LinA L w0 st' cs :=
  ⟨h.1, fun j hj => by rw [hst j hj]; exact h.2 j hj⟩
theorem stR_here (q : Int) (L : List (List Int)) (r f : Nat) : stR q L r f f = stt q (L.getD f []) r := by unfold stR; rw [if_neg (by omega)]
theorem stR_next (q : Int) (L : List (List Int)) (r f : Nat) : stR q L r (f + 1) f = stt q (L.getD f []) (r + 1) := by unfold stR; rw [if_pos (by omega)]
theorem stR_else (q : Int) (L : List (List Int)) (r f j : Nat) (h : j ≠ f) : stR q L r (f + 1) j = stR q L r f j := by
  unfold stR
  by_cases hj : j < f
  · rw [if_pos hj, if_pos (by omega)]
  · rw [if_neg hj, if_neg (by omega)]
theorem stR_wrap (q : Int) (L : List (List Int)) (r j : Nat) (h : j < L.length) : stR q L (r + 1) 0 j = stR q L r L.length j := by
  unfold stR
  rw [if_neg (by omega), if_pos h]
/-- How much is to come, told by the lines in memory. -/
def mesN (k : Nat) (c : Int) : Nat := if 0 < k then (31 * (k : Int) - c).toNat else 0
def lenV7 (v : Option Value) : Nat := match v with | some (.slice _ n _) => n | _ => 0
def intV7 (v : Option Value) : Int := match v with | some v => intOf v | none => 0
def mesX (wr : World) (g : Nat) : Nat → Nat
  | 0 => 0
  | n + 1 => mesX wr g n + mesN (lenV7 (wr.cell? ⟨g, n * 2, none⟩)) (intV7 (wr.cell? ⟨g, n * 2 + 1, none⟩))
theorem mesN_is (q : Int) (l : List Int) (r : Nat) : mesN (l.length - (stt q l r).1) (stt q l r).2 = mes q l r := by
  unfold mesN mes
  by_cases h : (stt q l r).1 < l.length
  · rw [if_pos (by omega), if_pos h]
  · rw [if_neg (by omega), if_neg h]
theorem mesX_is {q : Int} {L : List (List Int)} {w0 wr : World} {r g : Nat} {T : TypeId} {cs : Array Value} (hk : Blk wr g T cs) (h : LinA L w0 (stR q L r 0) cs) : ∀ n, n ≤ L.length → mesX wr g n = sumF (fun l => mes q l r) (L.take n)
  | 0, _ => rfl
  | n + 1, hn => by
    rw [sumF_take _ L n (by omega), ← mesX_is hk h n (by omega)]
    obtain ⟨⟨u, h1, A, c, rfl, _⟩, h2⟩ := h.2 n (by omega)
    show mesX wr g n + mesN (lenV7 (wr.cell? ⟨g, n * 2, none⟩)) (intV7 (wr.cell? ⟨g, n * 2 + 1, none⟩)) = _
    rw [hk.cell, hk.cell, h1, h2]
    have e : stR q L r 0 n = stt q (L.getD n []) r := by unfold stR; rw [if_neg (by omega)]
    rw [e]
    show mesX wr g n + mesN ((L.getD n []).length - (stt q (L.getD n []) r).1) (stt q (L.getD n []) r).2 = _
    rw [mesN_is]
end Go.Proofs.Ytnghpipkdodgiaa
