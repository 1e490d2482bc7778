/-
  The plain mathematics of bits of which some are turned: no program is named here. No condition.
-/
import Derived.Test.YthmhjkflgokmgaaPolyb
namespace Go.Proofs.Ythmhjkflgokmgaa

/-- One bit of n, at place i. -/
def one (i n : Nat) : List Bool := zs i ++ [true] ++ zs (n - i - 1)
theorem one_len {i n : Nat} (h : i < n) : (one i n).length = n := by simp [one, zs]; omega
/-- The other byte of a bit. -/
def flipU (c : UInt8) : UInt8 := if c = 49 then 48 else 49
/-- A text with one bit turned. -/
def turnU (l : List UInt8) (i : Nat) : List UInt8 := l.take i ++ [flipU (l.getD i 0)] ++ l.drop (i + 1)
theorem turnU_len (l : List UInt8) (i : Nat) (h : i < l.length) : (turnU l i).length = l.length := by simp [turnU]; omega
theorem xorl_nil (a : List Bool) : xorl a [] = [] := by simp [xorl]
theorem turnU_txt (S : List Bool) (i : Nat) (h : i < S.length) : turnU (txt S) i = txt (xorl S (one i S.length)) := by
  have e : S = S.take i ++ [S.getD i false] ++ S.drop (i + 1) := by
    have h1 : S.drop i = S.getD i false :: S.drop (i + 1) := by
      rw [List.drop_eq_getElem_cons h]; simp [List.getD_eq_getElem?_getD, h]
    rw [List.append_assoc, List.singleton_append, ← h1, List.take_append_drop]
  have e2 : xorl S (one i S.length) = S.take i ++ [!(S.getD i false)] ++ S.drop (i + 1) := by
    conv => lhs; arg 1; rw [e]
    unfold one
    rw [xorl_app (by simp [zs]; omega), xorl_app (by simp [zs]; omega), xorl_zs _ i (by simp; omega), xorl_zs _ _ (by simp; omega)]
    congr 2
    cases S.getD i false <;> rfl
  rw [e2, txt_app, txt_app, txt_take, txt_drop]
  unfold turnU
  congr 2
  rw [txt_get S i h]
  cases S.getD i false <;> rfl
/-- Sealed bits with one bit turned are not sealed. -/
theorem turned_one {Q S : List Bool} (h1 : 1 ≤ Q.length) (hl : Q.getLast? = some true) (hs : remF Q S = zs Q.length) (i : Nat) (h : i < S.length) : remF Q (xorl S (one i S.length)) ≠ zs Q.length := by
  rw [remF_xor Q S _ h1 (by rw [one_len h]), hs, zs_xorl _ _ (remF_len Q _ h1)]
  exact remF_one Q h1 hl _ _
theorem xorl_assoc : ∀ (a b c : List Bool), xorl (xorl a b) c = xorl a (xorl b c)
  | [], b, c => by simp [xorl]
  | a :: l, [], c => by simp [xorl]
  | a :: l, b :: m, [] => by simp [xorl]
  | a :: l, b :: m, c :: n => by
    have := xorl_assoc l m n
    unfold xorl at this ⊢
    simp only [List.zipWith_cons_cons, this]
    cases a <;> cases b <;> cases c <;> rfl
theorem one_two {i n : Nat} (h : i + 1 < n) : xorl (one i n) (one (i + 1) n) = zs i ++ [true, true] ++ zs (n - i - 2) := by
  have e1 : one i n = zs i ++ ([true] ++ ([false] ++ zs (n - i - 2))) := by
    have : zs (n - i - 1) = [false] ++ zs (n - i - 2) := by
      rw [show n - i - 1 = (n - i - 2) + 1 from by omega, zs_succ]; rfl
    unfold one; rw [this]; simp
  have e2 : one (i + 1) n = zs i ++ ([false] ++ ([true] ++ zs (n - i - 2))) := by
    unfold one; rw [← zs_snoc, show n - (i + 1) - 1 = n - i - 2 from by omega]; simp
  rw [e1, e2, xorl_app (a := zs i) (b := zs i) rfl, xorl_app (a := [true]) (b := [false]) rfl, xorl_app (a := [false]) (b := [true]) rfl, xorl_self, xorl_self, zs_len, zs_len]
  have e3 : xorl [true] [false] = [true] := rfl
  have e4 : xorl [false] [true] = [true] := rfl
  rw [e3, e4]; simp
/-- Sealed bits with two bits side by side turned are not sealed. -/
theorem turned_two {Q S : List Bool} (h1 : 2 ≤ Q.length) (hl : Q.getLast? = some true) (hs : remF Q S = zs Q.length) (i : Nat) (h : i + 1 < S.length) : remF Q (xorl (xorl S (one i S.length)) (one (i + 1) S.length)) ≠ zs Q.length := by
  rw [xorl_assoc, one_two h, remF_xor Q S _ (by omega) (by simp [zs]; omega), hs, zs_xorl _ _ (remF_len Q _ (by omega))]
  exact remF_two Q h1 hl _ _

/-- Bits with their check are sealed. -/
theorem sealed_ok {Q S : List Bool} (h1 : 1 ≤ Q.length) : remF Q (S ++ remF Q (S ++ zs Q.length)) = zs Q.length := by
  have hr := remF_len Q (S ++ zs Q.length) h1
  generalize hR : remF Q (S ++ zs Q.length) = R at *
  have e : S ++ R = xorl (S ++ zs Q.length) (zs S.length ++ R) := by
    rw [xorl_app (by simp [zs]), xorl_zs _ _ rfl, zs_xorl _ _ hr]
  rw [e, remF_xor Q _ _ h1 (by simp [zs, hr]), hR, remF_behind Q R h1 (by omega), hr, Nat.sub_self]
  have : xorl R (zs 0 ++ R) = zs R.length := by
    rw [show zs 0 ++ R = R from rfl, xorl_self]
  rw [this, hr]
/-- Bits with their rest in place of their last ones turned leave nothing. -/
theorem rest_sum {Q S : List Bool} (h1 : 1 ≤ Q.length) (h : Q.length ≤ S.length) : remF Q (S.take (S.length - Q.length) ++ xorl (S.drop (S.length - Q.length)) (remF Q S)) = zs Q.length := by
  have hr := remF_len Q S h1
  generalize hR : remF Q S = R at *
  have e : S.take (S.length - Q.length) ++ xorl (S.drop (S.length - Q.length)) R = xorl S (zs (S.length - Q.length) ++ R) := by
    conv => rhs; arg 1; rw [← List.take_append_drop (S.length - Q.length) S]
    rw [xorl_app (by simp [zs]), xorl_zs _ _ (by simp)]
  rw [e, remF_xor Q _ _ h1 (by simp [zs, hr]; omega), hR, remF_behind Q R h1 (by omega), hr, Nat.sub_self]
  rw [show zs 0 ++ R = R from rfl, xorl_self, hr]
/-- A rest is its own rest. -/
theorem rest_rest {Q S : List Bool} (h1 : 1 ≤ Q.length) : remF Q (remF Q S) = remF Q S := by
  have hr := remF_len Q S h1
  rw [remF_short Q _ h1 (by omega), hr, Nat.sub_self]; rfl
end Go.Proofs.Ythmhjkflgokmgaa
