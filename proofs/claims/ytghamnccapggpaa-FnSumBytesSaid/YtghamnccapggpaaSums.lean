/-
  The plain mathematics of sums of bytes: no program is named here. No condition.
-/
import Derived.Test.YtghamnccapggpaaRowm
namespace Go.Proofs.Ytghamnccapggpaa

/-- The sum of the first numbers, each as many times as its weight says. -/
def wsum (f : Nat → Int) (xs : List Int) : Nat → Int
  | 0 => 0
  | k + 1 => wsum f xs k + f k * xs.getD k 0
theorem wsum_succ (f : Nat → Int) (xs : List Int) (k : Nat) : wsum f xs (k + 1) = wsum f xs k + f k * xs.getD k 0 := rfl
theorem byte_get {xs : List Int} (h : xs.all isByte = true) (k : Nat) : 0 ≤ xs.getD k 0 ∧ xs.getD k 0 ≤ 255 := by
  rw [List.getD_eq_getElem?_getD]
  rcases Nat.lt_or_ge k xs.length with hk | hk
  · rw [List.getElem?_eq_getElem hk]
    have := List.all_eq_true.1 h _ (List.getElem_mem hk)
    simpa [isByte] using this
  · rw [List.getElem?_eq_none hk]; simp
theorem wsum_bd {xs : List Int} (h : xs.all isByte = true) (f : Nat → Int) (m : Int) (hm : 0 ≤ m) (hf : ∀ k, k < xs.length → 0 ≤ f k ∧ f k ≤ m) : ∀ k, k ≤ xs.length → 0 ≤ wsum f xs k ∧ wsum f xs k ≤ m * 255 * k
  | 0, _ => by simp [wsum]
  | k + 1, hk => by
    have ih := wsum_bd h f m hm hf k (by omega)
    have hb := byte_get h k
    have hf' := hf k (by omega)
    unfold wsum
    have h1 : 0 ≤ f k * xs.getD k 0 := Int.mul_nonneg hf'.1 hb.1
    have h2 : f k * xs.getD k 0 ≤ m * 255 := Int.mul_le_mul hf'.2 hb.2 hb.1 hm
    have e : m * 255 * ((k + 1 : Nat) : Int) = m * 255 * (k : Int) + m * 255 := by
      rw [Int.natCast_add, Int.mul_add]; simp
    rw [e]; omega

/-- The weight of a byte that is the first or the second one of two. -/
def pairW (k : Nat) : Int := if k % 2 = 0 then 256 else 1
theorem pairW_bd (k : Nat) : 0 ≤ pairW k ∧ pairW k ≤ 256 := by unfold pairW; split <;> omega
/-- A number with each carry added again. -/
def norm (t : Int) : Int := if t ≤ 0 then 0 else (t - 1) % 65535 + 1
theorem norm_bd (t : Int) : 0 ≤ norm t ∧ norm t ≤ 65535 := by unfold norm; split <;> omega
theorem norm_small {t : Int} (h0 : 0 ≤ t) (h : t ≤ 65535) : norm t = t := by unfold norm; split <;> omega
theorem norm_fold {t : Int} (h : 65535 < t) : norm (t % 65536 + t / 65536) = norm t := by unfold norm; split <;> split <;> omega
theorem norm_less {t : Int} (h : 65535 < t) : 0 ≤ t % 65536 + t / 65536 ∧ t % 65536 + t / 65536 < t := by omega
theorem norm_step {t d : Int} (h0 : 0 ≤ t) (hd : 0 ≤ d) (hd2 : d ≤ 65280) : (if 65535 < norm t + d then norm t + d - 65535 else norm t + d) = norm (t + d) := by
  unfold norm; split <;> split <;> split <;> omega

/-- What SumBytes gives. -/
def sumR (xs : List Int) : Int := if bytesB 16 xs = true then 65535 - norm (wsum pairW xs xs.length) else -1

/-- The sum of the first ones, the first two, and so on. -/
def ssum (xs : List Int) : Nat → Int
  | 0 => 0
  | k + 1 => ssum xs k + wsum (fun _ => 1) xs (k + 1)
theorem wsum_more (xs : List Int) (n : Nat) : ∀ k, wsum (fun j => ((n + 1 : Nat) : Int) - j) xs k = wsum (fun j => (n : Int) - j) xs k + wsum (fun _ => 1) xs k
  | 0 => by simp [wsum]
  | k + 1 => by
    have ih := wsum_more xs n k
    unfold wsum
    rw [ih]
    have e : (((n + 1 : Nat) : Int) - (k : Int)) * xs.getD k 0 = ((n : Int) - (k : Int)) * xs.getD k 0 + 1 * xs.getD k 0 := by
      rw [← Int.add_mul]; congr 1; omega
    rw [e]; omega
theorem wsum_ssum (xs : List Int) : ∀ k : Nat, wsum (fun j => (k : Int) - j) xs k = ssum xs k
  | 0 => rfl
  | k + 1 => by
    rw [wsum_more xs k (k + 1)]
    unfold ssum
    rw [← wsum_ssum xs k]
    have e : wsum (fun j => (k : Int) - j) xs (k + 1) = wsum (fun j => (k : Int) - j) xs k + ((k : Int) - k) * xs.getD k 0 := rfl
    rw [e]; simp
/-- What TwoSums gives. -/
def onceR (xs : List Int) : Int := if bytesB 16 xs = true then wsum (fun _ => 1) xs xs.length % 255 else -1
def sumsR (xs : List Int) : Int := if bytesB 16 xs = true then ssum xs xs.length % 255 else -1

/-! ### the promises -/
theorem wsum_ext (f : Nat → Int) (xs ys : List Int) : ∀ k, (∀ j, j < k → xs.getD j 0 = ys.getD j 0) → wsum f xs k = wsum f ys k
  | 0, _ => rfl
  | k + 1, h => by
    unfold wsum
    rw [wsum_ext f xs ys k (fun j hj => h j (by omega)), h k (by omega)]
theorem norm_close {t : Int} (h : 0 ≤ t) : norm (t + (65535 - norm t)) = 65535 ∨ (t + (65535 - norm t) = 65535 ∧ norm (t + (65535 - norm t)) = 65535) := by
  left; unfold norm; split <;> split <;> omega
theorem wsum_app (f : Nat → Int) (xs ys : List Int) : wsum f (xs ++ ys) xs.length = wsum f xs xs.length := by
  apply wsum_ext
  intro j hj
  simp [List.getD_eq_getElem?_getD, List.getElem?_append_left hj]
theorem get_app (xs ys : List Int) (j : Nat) : (xs ++ ys).getD (xs.length + j) 0 = ys.getD j 0 := by
  simp [List.getD_eq_getElem?_getD, List.getElem?_append_right]
/-- Bytes with their check behind them. -/
theorem sum_close {xs : List Int} (h : bytesB 16 xs = true) (he : xs.length % 2 = 0) (h14 : xs.length ≤ 14) : sumR (xs ++ [sumR xs / 256, sumR xs % 256]) = 0 := by
  have hb : xs.length ≤ 16 ∧ xs.all isByte = true := by simpa [bytesB] using h
  have hw := (wsum_bd hb.2 pairW 256 (by omega) (fun k _ => pairW_bd k) xs.length (Nat.le_refl _)).1
  have hs : sumR xs = 65535 - norm (wsum pairW xs xs.length) := by unfold sumR; rw [if_pos h]
  have hn := norm_bd (wsum pairW xs xs.length)
  have hc := norm_close hw
  generalize hS : sumR xs = S at *
  have hB : bytesB 16 (xs ++ [S / 256, S % 256]) = true := by
    simp only [bytesB, List.all_append, hb.2, List.length_append, List.length_cons, List.length_nil, Bool.and_eq_true, decide_eq_true_eq, List.all_cons, List.all_nil, isByte, true_and, and_true]
    omega
  unfold sumR
  rw [if_pos hB]
  have e : wsum pairW (xs ++ [S / 256, S % 256]) (xs ++ [S / 256, S % 256]).length = wsum pairW xs xs.length + S := by
    rw [List.length_append, show [S / 256, S % 256].length = 1 + 1 from rfl, ← Nat.add_assoc]
    rw [wsum_succ, wsum_succ, wsum_app]
    have g0 := get_app xs [S / 256, S % 256] 0
    have g1 := get_app xs [S / 256, S % 256] 1
    rw [Nat.add_zero] at g0
    rw [g0, g1]
    have p0 : pairW xs.length = 256 := by simp [pairW, he]
    have p1 : pairW (xs.length + 1) = 1 := by unfold pairW; rw [if_neg (by omega)]
    rw [p0, p1]
    simp
    omega
  rw [e, hs]
  rcases hc with hc | ⟨_, hc⟩ <;> rw [hc] <;> rfl
theorem wsum_tail (f : Nat → Int) (xs ys : List Int) (n : Nat) (h0 : wsum f xs n = wsum f ys n) (h : ∀ j, n ≤ j → xs.getD j 0 = ys.getD j 0) : ∀ k, wsum f xs (n + k) = wsum f ys (n + k)
  | 0 => h0
  | k + 1 => by
    rw [← Nat.add_assoc]
    unfold wsum
    rw [wsum_tail f xs ys n h0 h k, h _ (by omega)]
/-- Two bytes may be exchanged with two others. -/
theorem sum_turned {a b c d : Int} {l : List Int} (h : bytesB 16 (a :: b :: c :: d :: l) = true) : sumR (c :: d :: a :: b :: l) = sumR (a :: b :: c :: d :: l) := by
  have h2 : bytesB 16 (c :: d :: a :: b :: l) = true := by
    simp only [bytesB, List.length_cons, List.all_cons, Bool.and_eq_true, decide_eq_true_eq] at h ⊢
    exact ⟨h.1, h.2.2.2.1, h.2.2.2.2.1, h.2.1, h.2.2.1, h.2.2.2.2.2⟩
  unfold sumR
  rw [if_pos h, if_pos h2]
  congr 2
  have e : ∀ x y z w : Int, (x :: y :: z :: w :: l).length = 4 + l.length := by intro x y z w; simp; omega
  rw [e, e]
  refine wsum_tail _ _ _ 4 ?_ ?_ _
  · have p0 : pairW 0 = 256 := rfl
    have p1 : pairW 1 = 1 := rfl
    have p2 : pairW 2 = 256 := rfl
    have p3 : pairW 3 = 1 := rfl
    simp only [wsum, p0, p1, p2, p3, List.getD_cons_zero, List.getD_cons_succ]
    omega
  · intro j hj
    obtain ⟨m, rfl⟩ : ∃ m, j = m + 4 := ⟨j - 4, by omega⟩
    simp
theorem sumR_le (xs : List Int) : sumR xs ≤ 65535 := by
  unfold sumR; have := norm_bd (wsum pairW xs xs.length); split <;> omega
/-- Two numbers side by side exchanged. -/
def swp (xs : List Int) (i : Nat) : List Int := (xs.set i (xs.getD (i + 1) 0)).set (i + 1) (xs.getD i 0)
theorem swp_len (xs : List Int) (i : Nat) : (swp xs i).length = xs.length := by simp [swp]
theorem swp_get (xs : List Int) (i j : Nat) (hi : i + 1 < xs.length) : (swp xs i).getD j 0 = if j = i then xs.getD (i + 1) 0 else if j = i + 1 then xs.getD i 0 else xs.getD j 0 := by
  unfold swp
  simp only [List.getD_eq_getElem?_getD, List.getElem?_set, List.length_set]
  by_cases h1 : i + 1 = j
  · subst h1; simp [hi]
  · by_cases h2 : i = j
    · subst h2
      have h3 : i < xs.length := by omega
      simp [h3]
    · simp [h1, h2, Ne.symm h1, Ne.symm h2]
theorem swp_bytes {xs : List Int} {i : Nat} (h : bytesB 16 xs = true) (hi : i + 1 < xs.length) : bytesB 16 (swp xs i) = true := by
  have hb : xs.length ≤ 16 ∧ xs.all isByte = true := by simpa [bytesB] using h
  simp only [bytesB, swp_len, Bool.and_eq_true, decide_eq_true_eq]
  refine ⟨hb.1, ?_⟩
  rw [List.all_eq_true]
  intro x hx
  obtain ⟨j, hj, rfl⟩ := List.mem_iff_getElem.1 hx
  have e : (swp xs i)[j] = (swp xs i).getD j 0 := by simp [List.getD_eq_getElem?_getD, List.getElem?_eq_getElem hj]
  rw [e, swp_get xs i j hi]
  have b1 := byte_get hb.2 i
  have b2 := byte_get hb.2 (i + 1)
  have b3 := byte_get hb.2 j
  unfold isByte
  split
  · simpa using b2
  · split
    · simpa using b1
    · simpa using b3
theorem once_lo (xs : List Int) (i : Nat) (hi : i + 1 < xs.length) : ∀ k, k ≤ i → wsum (fun _ => 1) (swp xs i) k = wsum (fun _ => 1) xs k := fun k hk =>
  wsum_ext _ _ _ k (fun j hj => by rw [swp_get xs i j hi, if_neg (by omega), if_neg (by omega)])
theorem once_mid (xs : List Int) (i : Nat) (hi : i + 1 < xs.length) : wsum (fun _ => 1) (swp xs i) (i + 1) = wsum (fun _ => 1) xs (i + 1) + (xs.getD (i + 1) 0 - xs.getD i 0) := by
  unfold wsum
  rw [once_lo xs i hi i (Nat.le_refl _), swp_get xs i i hi, if_pos rfl]; omega
theorem once_hi (xs : List Int) (i : Nat) (hi : i + 1 < xs.length) (k : Nat) : wsum (fun _ => 1) (swp xs i) (i + 2 + k) = wsum (fun _ => 1) xs (i + 2 + k) := by
  refine wsum_tail _ _ _ (i + 2) ?_ ?_ k
  · have e1 : wsum (fun _ => 1) (swp xs i) (i + 2) = wsum (fun _ => 1) (swp xs i) (i + 1) + 1 * (swp xs i).getD (i + 1) 0 := rfl
    have e2 : wsum (fun _ => 1) xs (i + 2) = wsum (fun _ => 1) xs (i + 1) + 1 * xs.getD (i + 1) 0 := rfl
    have e3 : wsum (fun _ => 1) xs (i + 1) = wsum (fun _ => 1) xs i + 1 * xs.getD i 0 := rfl
    rw [e1, e2, once_mid xs i hi, swp_get xs i (i + 1) hi, if_neg (by omega), if_pos rfl]; omega
  · intro j hj
    rw [swp_get xs i j hi, if_neg (by omega), if_neg (by omega)]
theorem ssum_lo (xs : List Int) (i : Nat) (hi : i + 1 < xs.length) : ∀ k, k ≤ i → ssum (swp xs i) k = ssum xs k
  | 0, _ => rfl
  | k + 1, hk => by unfold ssum; rw [ssum_lo xs i hi k (by omega), once_lo xs i hi (k + 1) hk]
theorem ssum_hi (xs : List Int) (i : Nat) (hi : i + 1 < xs.length) : ∀ k, ssum (swp xs i) (i + 1 + k) = ssum xs (i + 1 + k) + (xs.getD (i + 1) 0 - xs.getD i 0)
  | 0 => by
    rw [Nat.add_zero]
    unfold ssum
    rw [ssum_lo xs i hi i (Nat.le_refl _), once_mid xs i hi]; omega
  | k + 1 => by
    have ih := ssum_hi xs i hi k
    rw [← Nat.add_assoc]
    unfold ssum
    rw [ih, show i + 1 + k + 1 = i + 2 + k from by omega, once_hi xs i hi k]; omega
/-- What is exchanged is seen by the second sum alone. -/
theorem once_swp {xs : List Int} {i : Nat} (h : bytesB 16 xs = true) (hi : i + 1 < xs.length) : onceR (swp xs i) = onceR xs := by
  unfold onceR
  rw [if_pos h, if_pos (swp_bytes h hi), swp_len]
  have := once_hi xs i hi (xs.length - (i + 2))
  rw [show i + 2 + (xs.length - (i + 2)) = xs.length from by omega] at this
  rw [this]
theorem sums_swp {xs : List Int} {i : Nat} (h : bytesB 16 xs = true) (hi : i + 1 < xs.length) : (sumsR (swp xs i) = sumsR xs) ↔ (xs.getD i 0 % 255 = xs.getD (i + 1) 0 % 255) := by
  unfold sumsR
  rw [if_pos h, if_pos (swp_bytes h hi), swp_len]
  have := ssum_hi xs i hi (xs.length - (i + 1))
  rw [show i + 1 + (xs.length - (i + 1)) = xs.length from by omega] at this
  rw [this]
  omega
end Go.Proofs.Ytghamnccapggpaa
