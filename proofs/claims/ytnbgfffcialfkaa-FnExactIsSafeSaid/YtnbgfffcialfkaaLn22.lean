/-
  The walk of what an act does on a link, in the model. Conditions: the bounds that are typed.
-/
import Derived.Test.YtnbgfffcialfkaaLn10
set_option linter.unusedSimpArgs false
set_option linter.unusedVariables false
namespace Go.Proofs.Ytnbgfffcialfkaa
open Go.RowKit
set_option linter.unusedVariables false

set_option maxRecDepth 100000 in
set_option maxHeartbeats 1600000 in
theorem sst_s_yes (n a k m kn s d h wo : Int) (w : World) (h1 : s < m) (h2 : s < kn + a) (h3 : 0 ≤ s ∧ 0 ≤ kn ∧ kn ≤ 5 ∧ 1 ≤ a ∧ a ≤ 4 ∧ m ≤ 5) :
    Calls Try.prog 30 #[(.agg #[.int .i64 n, .int .i64 a, .int .i64 k, .int .i64 m]), .agg #[.int .i64 kn, .int .i64 s, .int .i64 d, .int .i64 h, .int .i64 (-1), .int .i64 wo], .int .u8 115] w fun e w' => e = .returned (.tuple #[.agg #[.int .i64 kn, .int .i64 (s + 1), .int .i64 d, .int .i64 h, .int .i64 s, .int .i64 wo], .bool true, .bool true]) ∧ Below w.heap.size w w' := by
  have d1 : decide (m ≤ s) = false := by simp; omega
  have d2 : decide (kn + a ≤ s) = false := by simp; omega
  go_enter Try.func30, Try.ntmps30
  go_wp2
  exact bodyPost_ret (v := .tuple #[.agg #[.int .i64 kn, .int .i64 (s + 1), .int .i64 d, .int .i64 h, .int .i64 s, .int .i64 wo], .bool true, .bool true]) (by simp [results, Try.results30, go_sem]) rfl ⟨rfl, (by repeat (first | (with_reducible exact Below.refl _ _) | (with_reducible assumption) | ((with_reducible refine Below.setCell ?_ ?_ _); rotate_left; focus (first | (simp; done) | (simp; omega))) | ((with_reducible refine Below.alloc ?_ ?_ _); rotate_left; focus (first | (with_reducible exact Nat.le_refl _) | (simp; done) | (simp; omega))) | (with_reducible refine belowD ?_ _) | (with_reducible refine belowDr ?_)))⟩

set_option maxRecDepth 100000 in
set_option maxHeartbeats 1600000 in
theorem sst_s_busy (n a k m kn s d h da wo : Int) (w : World) (h1 : 0 ≤ da) :
    Calls Try.prog 30 #[(.agg #[.int .i64 n, .int .i64 a, .int .i64 k, .int .i64 m]), .agg #[.int .i64 kn, .int .i64 s, .int .i64 d, .int .i64 h, .int .i64 da, .int .i64 wo], .int .u8 115] w fun e w' => e = .returned (.tuple #[.agg #[.int .i64 kn, .int .i64 s, .int .i64 d, .int .i64 h, .int .i64 da, .int .i64 wo], .bool false, .bool true]) ∧ Below w.heap.size w w' := by
  go_enter Try.func30, Try.ntmps30
  go_wp2
  exact bodyPost_ret (v := .tuple #[.agg #[.int .i64 kn, .int .i64 s, .int .i64 d, .int .i64 h, .int .i64 da, .int .i64 wo], .bool false, .bool true]) (by simp [results, Try.results30, go_sem]) rfl ⟨rfl, (by repeat (first | (with_reducible exact Below.refl _ _) | (with_reducible assumption) | ((with_reducible refine Below.setCell ?_ ?_ _); rotate_left; focus (first | (simp; done) | (simp; omega))) | ((with_reducible refine Below.alloc ?_ ?_ _); rotate_left; focus (first | (with_reducible exact Nat.le_refl _) | (simp; done) | (simp; omega))) | (with_reducible refine belowD ?_ _) | (with_reducible refine belowDr ?_)))⟩

set_option maxRecDepth 100000 in
set_option maxHeartbeats 1600000 in
theorem sst_s_all (n a k m kn s d h wo : Int) (w : World) (h1 : m ≤ s) :
    Calls Try.prog 30 #[(.agg #[.int .i64 n, .int .i64 a, .int .i64 k, .int .i64 m]), .agg #[.int .i64 kn, .int .i64 s, .int .i64 d, .int .i64 h, .int .i64 (-1), .int .i64 wo], .int .u8 115] w fun e w' => e = .returned (.tuple #[.agg #[.int .i64 kn, .int .i64 s, .int .i64 d, .int .i64 h, .int .i64 (-1), .int .i64 wo], .bool false, .bool true]) ∧ Below w.heap.size w w' := by
  go_enter Try.func30, Try.ntmps30
  go_wp2
  exact bodyPost_ret (v := .tuple #[.agg #[.int .i64 kn, .int .i64 s, .int .i64 d, .int .i64 h, .int .i64 (-1), .int .i64 wo], .bool false, .bool true]) (by simp [results, Try.results30, go_sem]) rfl ⟨rfl, (by repeat (first | (with_reducible exact Below.refl _ _) | (with_reducible assumption) | ((with_reducible refine Below.setCell ?_ ?_ _); rotate_left; focus (first | (simp; done) | (simp; omega))) | ((with_reducible refine Below.alloc ?_ ?_ _); rotate_left; focus (first | (with_reducible exact Nat.le_refl _) | (simp; done) | (simp; omega))) | (with_reducible refine belowD ?_ _) | (with_reducible refine belowDr ?_)))⟩

set_option maxRecDepth 100000 in
set_option maxHeartbeats 1600000 in
theorem sst_s_full (n a k m kn s d h wo : Int) (w : World) (h1 : ¬ m ≤ s) (h2 : kn + a ≤ s) (h3 : 0 ≤ kn ∧ kn ≤ 5 ∧ 1 ≤ a ∧ a ≤ 4) :
    Calls Try.prog 30 #[(.agg #[.int .i64 n, .int .i64 a, .int .i64 k, .int .i64 m]), .agg #[.int .i64 kn, .int .i64 s, .int .i64 d, .int .i64 h, .int .i64 (-1), .int .i64 wo], .int .u8 115] w fun e w' => e = .returned (.tuple #[.agg #[.int .i64 kn, .int .i64 s, .int .i64 d, .int .i64 h, .int .i64 (-1), .int .i64 wo], .bool false, .bool true]) ∧ Below w.heap.size w w' := by
  have d1 : decide (m ≤ s) = false := by simpa using h1
  go_enter Try.func30, Try.ntmps30
  go_wp2
  exact bodyPost_ret (v := .tuple #[.agg #[.int .i64 kn, .int .i64 s, .int .i64 d, .int .i64 h, .int .i64 (-1), .int .i64 wo], .bool false, .bool true]) (by simp [results, Try.results30, go_sem]) rfl ⟨rfl, (by repeat (first | (with_reducible exact Below.refl _ _) | (with_reducible assumption) | ((with_reducible refine Below.setCell ?_ ?_ _); rotate_left; focus (first | (simp; done) | (simp; omega))) | ((with_reducible refine Below.alloc ?_ ?_ _); rotate_left; focus (first | (with_reducible exact Nat.le_refl _) | (simp; done) | (simp; omega))) | (with_reducible refine belowD ?_ _) | (with_reducible refine belowDr ?_)))⟩

set_option maxRecDepth 100000 in
set_option maxHeartbeats 1600000 in
theorem sst_x_yes (n a k m kn s d h da wo : Int) (w : World) (h1 : 0 ≤ da) :
    Calls Try.prog 30 #[(.agg #[.int .i64 n, .int .i64 a, .int .i64 k, .int .i64 m]), .agg #[.int .i64 kn, .int .i64 s, .int .i64 d, .int .i64 h, .int .i64 da, .int .i64 wo], .int .u8 120] w fun e w' => e = .returned (.tuple #[.agg #[.int .i64 kn, .int .i64 s, .int .i64 d, .int .i64 h, .int .i64 (-1), .int .i64 wo], .bool true, .bool true]) ∧ Below w.heap.size w w' := by
  have d1 : decide (da < 0) = false := by simp; omega
  go_enter Try.func30, Try.ntmps30
  go_wp2
  exact bodyPost_ret (v := .tuple #[.agg #[.int .i64 kn, .int .i64 s, .int .i64 d, .int .i64 h, .int .i64 (-1), .int .i64 wo], .bool true, .bool true]) (by simp [results, Try.results30, go_sem]) rfl ⟨rfl, (by repeat (first | (with_reducible exact Below.refl _ _) | (with_reducible assumption) | ((with_reducible refine Below.setCell ?_ ?_ _); rotate_left; focus (first | (simp; done) | (simp; omega))) | ((with_reducible refine Below.alloc ?_ ?_ _); rotate_left; focus (first | (with_reducible exact Nat.le_refl _) | (simp; done) | (simp; omega))) | (with_reducible refine belowD ?_ _) | (with_reducible refine belowDr ?_)))⟩

set_option maxRecDepth 100000 in
set_option maxHeartbeats 1600000 in
theorem sst_x_no (n a k m kn s d h da wo : Int) (w : World) (h1 : da < 0) :
    Calls Try.prog 30 #[(.agg #[.int .i64 n, .int .i64 a, .int .i64 k, .int .i64 m]), .agg #[.int .i64 kn, .int .i64 s, .int .i64 d, .int .i64 h, .int .i64 da, .int .i64 wo], .int .u8 120] w fun e w' => e = .returned (.tuple #[.agg #[.int .i64 kn, .int .i64 s, .int .i64 d, .int .i64 h, .int .i64 da, .int .i64 wo], .bool false, .bool true]) ∧ Below w.heap.size w w' := by
  go_enter Try.func30, Try.ntmps30
  go_wp2
  exact bodyPost_ret (v := .tuple #[.agg #[.int .i64 kn, .int .i64 s, .int .i64 d, .int .i64 h, .int .i64 da, .int .i64 wo], .bool false, .bool true]) (by simp [results, Try.results30, go_sem]) rfl ⟨rfl, (by repeat (first | (with_reducible exact Below.refl _ _) | (with_reducible assumption) | ((with_reducible refine Below.setCell ?_ ?_ _); rotate_left; focus (first | (simp; done) | (simp; omega))) | ((with_reducible refine Below.alloc ?_ ?_ _); rotate_left; focus (first | (with_reducible exact Nat.le_refl _) | (simp; done) | (simp; omega))) | (with_reducible refine belowD ?_ _) | (with_reducible refine belowDr ?_)))⟩

set_option maxRecDepth 100000 in
set_option maxHeartbeats 1600000 in
theorem sst_y_yes (n a k m kn s d h da wo : Int) (w : World) (h1 : 0 ≤ wo) :
    Calls Try.prog 30 #[(.agg #[.int .i64 n, .int .i64 a, .int .i64 k, .int .i64 m]), .agg #[.int .i64 kn, .int .i64 s, .int .i64 d, .int .i64 h, .int .i64 da, .int .i64 wo], .int .u8 121] w fun e w' => e = .returned (.tuple #[.agg #[.int .i64 kn, .int .i64 s, .int .i64 d, .int .i64 h, .int .i64 da, .int .i64 (-1)], .bool true, .bool true]) ∧ Below w.heap.size w w' := by
  have d1 : decide (wo < 0) = false := by simp; omega
  go_enter Try.func30, Try.ntmps30
  go_wp2
  exact bodyPost_ret (v := .tuple #[.agg #[.int .i64 kn, .int .i64 s, .int .i64 d, .int .i64 h, .int .i64 da, .int .i64 (-1)], .bool true, .bool true]) (by simp [results, Try.results30, go_sem]) rfl ⟨rfl, (by repeat (first | (with_reducible exact Below.refl _ _) | (with_reducible assumption) | ((with_reducible refine Below.setCell ?_ ?_ _); rotate_left; focus (first | (simp; done) | (simp; omega))) | ((with_reducible refine Below.alloc ?_ ?_ _); rotate_left; focus (first | (with_reducible exact Nat.le_refl _) | (simp; done) | (simp; omega))) | (with_reducible refine belowD ?_ _) | (with_reducible refine belowDr ?_)))⟩

set_option maxRecDepth 100000 in
set_option maxHeartbeats 1600000 in
theorem sst_y_no (n a k m kn s d h da wo : Int) (w : World) (h1 : wo < 0) :
    Calls Try.prog 30 #[(.agg #[.int .i64 n, .int .i64 a, .int .i64 k, .int .i64 m]), .agg #[.int .i64 kn, .int .i64 s, .int .i64 d, .int .i64 h, .int .i64 da, .int .i64 wo], .int .u8 121] w fun e w' => e = .returned (.tuple #[.agg #[.int .i64 kn, .int .i64 s, .int .i64 d, .int .i64 h, .int .i64 da, .int .i64 wo], .bool false, .bool true]) ∧ Below w.heap.size w w' := by
  go_enter Try.func30, Try.ntmps30
  go_wp2
  exact bodyPost_ret (v := .tuple #[.agg #[.int .i64 kn, .int .i64 s, .int .i64 d, .int .i64 h, .int .i64 da, .int .i64 wo], .bool false, .bool true]) (by simp [results, Try.results30, go_sem]) rfl ⟨rfl, (by repeat (first | (with_reducible exact Below.refl _ _) | (with_reducible assumption) | ((with_reducible refine Below.setCell ?_ ?_ _); rotate_left; focus (first | (simp; done) | (simp; omega))) | ((with_reducible refine Below.alloc ?_ ?_ _); rotate_left; focus (first | (with_reducible exact Nat.le_refl _) | (simp; done) | (simp; omega))) | (with_reducible refine belowD ?_ _) | (with_reducible refine belowDr ?_)))⟩

set_option maxRecDepth 100000 in
set_option maxHeartbeats 1600000 in
theorem sst_d_no (n a k m kn s d h da wo : Int) (w : World) (h1 : da < 0) :
    Calls Try.prog 30 #[(.agg #[.int .i64 n, .int .i64 a, .int .i64 k, .int .i64 m]), .agg #[.int .i64 kn, .int .i64 s, .int .i64 d, .int .i64 h, .int .i64 da, .int .i64 wo], .int .u8 100] w fun e w' => e = .returned (.tuple #[.agg #[.int .i64 kn, .int .i64 s, .int .i64 d, .int .i64 h, .int .i64 da, .int .i64 wo], .bool false, .bool true]) ∧ Below w.heap.size w w' := by
  go_enter Try.func30, Try.ntmps30
  go_wp2
  exact bodyPost_ret (v := .tuple #[.agg #[.int .i64 kn, .int .i64 s, .int .i64 d, .int .i64 h, .int .i64 da, .int .i64 wo], .bool false, .bool true]) (by simp [results, Try.results30, go_sem]) rfl ⟨rfl, (by repeat (first | (with_reducible exact Below.refl _ _) | (with_reducible assumption) | ((with_reducible refine Below.setCell ?_ ?_ _); rotate_left; focus (first | (simp; done) | (simp; omega))) | ((with_reducible refine Below.alloc ?_ ?_ _); rotate_left; focus (first | (with_reducible exact Nat.le_refl _) | (simp; done) | (simp; omega))) | (with_reducible refine belowD ?_ _) | (with_reducible refine belowDr ?_)))⟩

set_option maxRecDepth 100000 in
set_option maxHeartbeats 1600000 in
theorem sst_a_no (n a k m kn s d h da wo : Int) (w : World) (h1 : wo < 0) :
    Calls Try.prog 30 #[(.agg #[.int .i64 n, .int .i64 a, .int .i64 k, .int .i64 m]), .agg #[.int .i64 kn, .int .i64 s, .int .i64 d, .int .i64 h, .int .i64 da, .int .i64 wo], .int .u8 97] w fun e w' => e = .returned (.tuple #[.agg #[.int .i64 kn, .int .i64 s, .int .i64 d, .int .i64 h, .int .i64 da, .int .i64 wo], .bool false, .bool true]) ∧ Below w.heap.size w w' := by
  go_enter Try.func30, Try.ntmps30
  go_wp2
  exact bodyPost_ret (v := .tuple #[.agg #[.int .i64 kn, .int .i64 s, .int .i64 d, .int .i64 h, .int .i64 da, .int .i64 wo], .bool false, .bool true]) (by simp [results, Try.results30, go_sem]) rfl ⟨rfl, (by repeat (first | (with_reducible exact Below.refl _ _) | (with_reducible assumption) | ((with_reducible refine Below.setCell ?_ ?_ _); rotate_left; focus (first | (simp; done) | (simp; omega))) | ((with_reducible refine Below.alloc ?_ ?_ _); rotate_left; focus (first | (with_reducible exact Nat.le_refl _) | (simp; done) | (simp; omega))) | (with_reducible refine belowD ?_ _) | (with_reducible refine belowDr ?_)))⟩

set_option maxRecDepth 100000 in
set_option maxHeartbeats 1600000 in
theorem sst_o (n a k m kn s d h da wo : Int) (c : Int) (w : World) (h1 : ¬ c = 115) (h2 : ¬ c = 100) (h3 : ¬ c = 120) (h4 : ¬ c = 97) (h5 : ¬ c = 121) (h6 : ¬ (48 ≤ c ∧ c ≤ 57)) :
    Calls Try.prog 30 #[(.agg #[.int .i64 n, .int .i64 a, .int .i64 k, .int .i64 m]), .agg #[.int .i64 kn, .int .i64 s, .int .i64 d, .int .i64 h, .int .i64 da, .int .i64 wo], .int .u8 c] w fun e w' => e = .returned (.tuple #[.agg #[.int .i64 kn, .int .i64 s, .int .i64 d, .int .i64 h, .int .i64 da, .int .i64 wo], .bool false, .bool true]) ∧ Below w.heap.size w w' := by
  have e1 : (c == 115) = false := by simpa using h1
  have e2 : (c == 100) = false := by simpa using h2
  have e3 : (c == 120) = false := by simpa using h3
  have e4 : (c == 97) = false := by simpa using h4
  have e5 : (c == 121) = false := by simpa using h5
  have f0 : (c == 48) = false := by simp; omega
  have f1 : (c == 49) = false := by simp; omega
  have f2 : (c == 50) = false := by simp; omega
  have f3 : (c == 51) = false := by simp; omega
  have f4 : (c == 52) = false := by simp; omega
  have f5 : (c == 53) = false := by simp; omega
  have f6 : (c == 54) = false := by simp; omega
  have f7 : (c == 55) = false := by simp; omega
  have f8 : (c == 56) = false := by simp; omega
  have f9 : (c == 57) = false := by simp; omega
  clear h1 h2 h3 h4 h5 h6
  go_enter Try.func30, Try.ntmps30
  go_wp2
  exact bodyPost_ret (v := .tuple #[.agg #[.int .i64 kn, .int .i64 s, .int .i64 d, .int .i64 h, .int .i64 da, .int .i64 wo], .bool false, .bool true]) (by simp [results, Try.results30, go_sem]) rfl ⟨rfl, (by repeat (first | (with_reducible exact Below.refl _ _) | (with_reducible assumption) | ((with_reducible refine Below.setCell ?_ ?_ _); rotate_left; focus (first | (simp; done) | (simp; omega))) | ((with_reducible refine Below.alloc ?_ ?_ _); rotate_left; focus (first | (with_reducible exact Nat.le_refl _) | (simp; done) | (simp; omega))) | (with_reducible refine belowD ?_ _) | (with_reducible refine belowDr ?_)))⟩

set_option maxRecDepth 100000 in
set_option maxHeartbeats 1600000 in
theorem sst_g0_yes (n a k m kn s d h wo : Int) (w : World) (h1 : kn < s) (h3 : 0 ≤ kn ∧ kn ≤ 5) :
    Calls Try.prog 30 #[(.agg #[.int .i64 n, .int .i64 a, .int .i64 k, .int .i64 m]), .agg #[.int .i64 kn, .int .i64 s, .int .i64 d, .int .i64 h, .int .i64 (-1), .int .i64 wo], .int .u8 48] w fun e w' => e = .returned (.tuple #[.agg #[.int .i64 kn, .int .i64 s, .int .i64 d, .int .i64 h, .int .i64 kn, .int .i64 wo], .bool true, .bool true]) ∧ Below w.heap.size w w' := by
  have d1 : decide (s ≤ kn) = false := by simp; omega
  go_enter Try.func30, Try.ntmps30
  go_wp2
  exact bodyPost_ret (v := .tuple #[.agg #[.int .i64 kn, .int .i64 s, .int .i64 d, .int .i64 h, .int .i64 kn, .int .i64 wo], .bool true, .bool true]) (by simp [results, Try.results30, go_sem]) rfl ⟨rfl, (by repeat (first | (with_reducible exact Below.refl _ _) | (with_reducible assumption) | ((with_reducible refine Below.setCell ?_ ?_ _); rotate_left; focus (first | (simp; done) | (simp; omega))) | ((with_reducible refine Below.alloc ?_ ?_ _); rotate_left; focus (first | (with_reducible exact Nat.le_refl _) | (simp; done) | (simp; omega))) | (with_reducible refine belowD ?_ _) | (with_reducible refine belowDr ?_)))⟩

set_option maxRecDepth 100000 in
set_option maxHeartbeats 1600000 in
theorem sst_g0_busy (n a k m kn s d h da wo : Int) (w : World) (h1 : 0 ≤ da) (h3 : 0 ≤ kn ∧ kn ≤ 5) :
    Calls Try.prog 30 #[(.agg #[.int .i64 n, .int .i64 a, .int .i64 k, .int .i64 m]), .agg #[.int .i64 kn, .int .i64 s, .int .i64 d, .int .i64 h, .int .i64 da, .int .i64 wo], .int .u8 48] w fun e w' => e = .returned (.tuple #[.agg #[.int .i64 kn, .int .i64 s, .int .i64 d, .int .i64 h, .int .i64 da, .int .i64 wo], .bool false, .bool true]) ∧ Below w.heap.size w w' := by
  go_enter Try.func30, Try.ntmps30
  go_wp2
  exact bodyPost_ret (v := .tuple #[.agg #[.int .i64 kn, .int .i64 s, .int .i64 d, .int .i64 h, .int .i64 da, .int .i64 wo], .bool false, .bool true]) (by simp [results, Try.results30, go_sem]) rfl ⟨rfl, (by repeat (first | (with_reducible exact Below.refl _ _) | (with_reducible assumption) | ((with_reducible refine Below.setCell ?_ ?_ _); rotate_left; focus (first | (simp; done) | (simp; omega))) | ((with_reducible refine Below.alloc ?_ ?_ _); rotate_left; focus (first | (with_reducible exact Nat.le_refl _) | (simp; done) | (simp; omega))) | (with_reducible refine belowD ?_ _) | (with_reducible refine belowDr ?_)))⟩

set_option maxRecDepth 100000 in
set_option maxHeartbeats 1600000 in
theorem sst_g0_no (n a k m kn s d h wo : Int) (w : World) (h1 : s ≤ kn) (h3 : 0 ≤ kn ∧ kn ≤ 5) :
    Calls Try.prog 30 #[(.agg #[.int .i64 n, .int .i64 a, .int .i64 k, .int .i64 m]), .agg #[.int .i64 kn, .int .i64 s, .int .i64 d, .int .i64 h, .int .i64 (-1), .int .i64 wo], .int .u8 48] w fun e w' => e = .returned (.tuple #[.agg #[.int .i64 kn, .int .i64 s, .int .i64 d, .int .i64 h, .int .i64 (-1), .int .i64 wo], .bool false, .bool true]) ∧ Below w.heap.size w w' := by
  go_enter Try.func30, Try.ntmps30
  go_wp2
  exact bodyPost_ret (v := .tuple #[.agg #[.int .i64 kn, .int .i64 s, .int .i64 d, .int .i64 h, .int .i64 (-1), .int .i64 wo], .bool false, .bool true]) (by simp [results, Try.results30, go_sem]) rfl ⟨rfl, (by repeat (first | (with_reducible exact Below.refl _ _) | (with_reducible assumption) | ((with_reducible refine Below.setCell ?_ ?_ _); rotate_left; focus (first | (simp; done) | (simp; omega))) | ((with_reducible refine Below.alloc ?_ ?_ _); rotate_left; focus (first | (with_reducible exact Nat.le_refl _) | (simp; done) | (simp; omega))) | (with_reducible refine belowD ?_ _) | (with_reducible refine belowDr ?_)))⟩

set_option maxRecDepth 100000 in
set_option maxHeartbeats 1600000 in
theorem sst_g1_yes (n a k m kn s d h wo : Int) (w : World) (h1 : kn + 1 < s) (h3 : 0 ≤ kn ∧ kn ≤ 5) :
    Calls Try.prog 30 #[(.agg #[.int .i64 n, .int .i64 a, .int .i64 k, .int .i64 m]), .agg #[.int .i64 kn, .int .i64 s, .int .i64 d, .int .i64 h, .int .i64 (-1), .int .i64 wo], .int .u8 49] w fun e w' => e = .returned (.tuple #[.agg #[.int .i64 kn, .int .i64 s, .int .i64 d, .int .i64 h, .int .i64 (kn + 1), .int .i64 wo], .bool true, .bool true]) ∧ Below w.heap.size w w' := by
  have d1 : decide (s ≤ kn + 1) = false := by simp; omega
  go_enter Try.func30, Try.ntmps30
  go_wp2
  exact bodyPost_ret (v := .tuple #[.agg #[.int .i64 kn, .int .i64 s, .int .i64 d, .int .i64 h, .int .i64 (kn + 1), .int .i64 wo], .bool true, .bool true]) (by simp [results, Try.results30, go_sem]) rfl ⟨rfl, (by repeat (first | (with_reducible exact Below.refl _ _) | (with_reducible assumption) | ((with_reducible refine Below.setCell ?_ ?_ _); rotate_left; focus (first | (simp; done) | (simp; omega))) | ((with_reducible refine Below.alloc ?_ ?_ _); rotate_left; focus (first | (with_reducible exact Nat.le_refl _) | (simp; done) | (simp; omega))) | (with_reducible refine belowD ?_ _) | (with_reducible refine belowDr ?_)))⟩

set_option maxRecDepth 100000 in
set_option maxHeartbeats 1600000 in
theorem sst_g1_busy (n a k m kn s d h da wo : Int) (w : World) (h1 : 0 ≤ da) (h3 : 0 ≤ kn ∧ kn ≤ 5) :
    Calls Try.prog 30 #[(.agg #[.int .i64 n, .int .i64 a, .int .i64 k, .int .i64 m]), .agg #[.int .i64 kn, .int .i64 s, .int .i64 d, .int .i64 h, .int .i64 da, .int .i64 wo], .int .u8 49] w fun e w' => e = .returned (.tuple #[.agg #[.int .i64 kn, .int .i64 s, .int .i64 d, .int .i64 h, .int .i64 da, .int .i64 wo], .bool false, .bool true]) ∧ Below w.heap.size w w' := by
  go_enter Try.func30, Try.ntmps30
  go_wp2
  exact bodyPost_ret (v := .tuple #[.agg #[.int .i64 kn, .int .i64 s, .int .i64 d, .int .i64 h, .int .i64 da, .int .i64 wo], .bool false, .bool true]) (by simp [results, Try.results30, go_sem]) rfl ⟨rfl, (by repeat (first | (with_reducible exact Below.refl _ _) | (with_reducible assumption) | ((with_reducible refine Below.setCell ?_ ?_ _); rotate_left; focus (first | (simp; done) | (simp; omega))) | ((with_reducible refine Below.alloc ?_ ?_ _); rotate_left; focus (first | (with_reducible exact Nat.le_refl _) | (simp; done) | (simp; omega))) | (with_reducible refine belowD ?_ _) | (with_reducible refine belowDr ?_)))⟩

set_option maxRecDepth 100000 in
set_option maxHeartbeats 1600000 in
theorem sst_g1_no (n a k m kn s d h wo : Int) (w : World) (h1 : s ≤ kn + 1) (h3 : 0 ≤ kn ∧ kn ≤ 5) :
    Calls Try.prog 30 #[(.agg #[.int .i64 n, .int .i64 a, .int .i64 k, .int .i64 m]), .agg #[.int .i64 kn, .int .i64 s, .int .i64 d, .int .i64 h, .int .i64 (-1), .int .i64 wo], .int .u8 49] w fun e w' => e = .returned (.tuple #[.agg #[.int .i64 kn, .int .i64 s, .int .i64 d, .int .i64 h, .int .i64 (-1), .int .i64 wo], .bool false, .bool true]) ∧ Below w.heap.size w w' := by
  go_enter Try.func30, Try.ntmps30
  go_wp2
  exact bodyPost_ret (v := .tuple #[.agg #[.int .i64 kn, .int .i64 s, .int .i64 d, .int .i64 h, .int .i64 (-1), .int .i64 wo], .bool false, .bool true]) (by simp [results, Try.results30, go_sem]) rfl ⟨rfl, (by repeat (first | (with_reducible exact Below.refl _ _) | (with_reducible assumption) | ((with_reducible refine Below.setCell ?_ ?_ _); rotate_left; focus (first | (simp; done) | (simp; omega))) | ((with_reducible refine Below.alloc ?_ ?_ _); rotate_left; focus (first | (with_reducible exact Nat.le_refl _) | (simp; done) | (simp; omega))) | (with_reducible refine belowD ?_ _) | (with_reducible refine belowDr ?_)))⟩

set_option maxRecDepth 100000 in
set_option maxHeartbeats 1600000 in
theorem sst_g2_yes (n a k m kn s d h wo : Int) (w : World) (h1 : kn + 2 < s) (h3 : 0 ≤ kn ∧ kn ≤ 5) :
    Calls Try.prog 30 #[(.agg #[.int .i64 n, .int .i64 a, .int .i64 k, .int .i64 m]), .agg #[.int .i64 kn, .int .i64 s, .int .i64 d, .int .i64 h, .int .i64 (-1), .int .i64 wo], .int .u8 50] w fun e w' => e = .returned (.tuple #[.agg #[.int .i64 kn, .int .i64 s, .int .i64 d, .int .i64 h, .int .i64 (kn + 2), .int .i64 wo], .bool true, .bool true]) ∧ Below w.heap.size w w' := by
  have d1 : decide (s ≤ kn + 2) = false := by simp; omega
  go_enter Try.func30, Try.ntmps30
  go_wp2
  exact bodyPost_ret (v := .tuple #[.agg #[.int .i64 kn, .int .i64 s, .int .i64 d, .int .i64 h, .int .i64 (kn + 2), .int .i64 wo], .bool true, .bool true]) (by simp [results, Try.results30, go_sem]) rfl ⟨rfl, (by repeat (first | (with_reducible exact Below.refl _ _) | (with_reducible assumption) | ((with_reducible refine Below.setCell ?_ ?_ _); rotate_left; focus (first | (simp; done) | (simp; omega))) | ((with_reducible refine Below.alloc ?_ ?_ _); rotate_left; focus (first | (with_reducible exact Nat.le_refl _) | (simp; done) | (simp; omega))) | (with_reducible refine belowD ?_ _) | (with_reducible refine belowDr ?_)))⟩

set_option maxRecDepth 100000 in
set_option maxHeartbeats 1600000 in
theorem sst_g2_busy (n a k m kn s d h da wo : Int) (w : World) (h1 : 0 ≤ da) (h3 : 0 ≤ kn ∧ kn ≤ 5) :
    Calls Try.prog 30 #[(.agg #[.int .i64 n, .int .i64 a, .int .i64 k, .int .i64 m]), .agg #[.int .i64 kn, .int .i64 s, .int .i64 d, .int .i64 h, .int .i64 da, .int .i64 wo], .int .u8 50] w fun e w' => e = .returned (.tuple #[.agg #[.int .i64 kn, .int .i64 s, .int .i64 d, .int .i64 h, .int .i64 da, .int .i64 wo], .bool false, .bool true]) ∧ Below w.heap.size w w' := by
  go_enter Try.func30, Try.ntmps30
  go_wp2
  exact bodyPost_ret (v := .tuple #[.agg #[.int .i64 kn, .int .i64 s, .int .i64 d, .int .i64 h, .int .i64 da, .int .i64 wo], .bool false, .bool true]) (by simp [results, Try.results30, go_sem]) rfl ⟨rfl, (by repeat (first | (with_reducible exact Below.refl _ _) | (with_reducible assumption) | ((with_reducible refine Below.setCell ?_ ?_ _); rotate_left; focus (first | (simp; done) | (simp; omega))) | ((with_reducible refine Below.alloc ?_ ?_ _); rotate_left; focus (first | (with_reducible exact Nat.le_refl _) | (simp; done) | (simp; omega))) | (with_reducible refine belowD ?_ _) | (with_reducible refine belowDr ?_)))⟩

set_option maxRecDepth 100000 in
set_option maxHeartbeats 1600000 in
theorem sst_g2_no (n a k m kn s d h wo : Int) (w : World) (h1 : s ≤ kn + 2) (h3 : 0 ≤ kn ∧ kn ≤ 5) :
    Calls Try.prog 30 #[(.agg #[.int .i64 n, .int .i64 a, .int .i64 k, .int .i64 m]), .agg #[.int .i64 kn, .int .i64 s, .int .i64 d, .int .i64 h, .int .i64 (-1), .int .i64 wo], .int .u8 50] w fun e w' => e = .returned (.tuple #[.agg #[.int .i64 kn, .int .i64 s, .int .i64 d, .int .i64 h, .int .i64 (-1), .int .i64 wo], .bool false, .bool true]) ∧ Below w.heap.size w w' := by
  go_enter Try.func30, Try.ntmps30
  go_wp2
  exact bodyPost_ret (v := .tuple #[.agg #[.int .i64 kn, .int .i64 s, .int .i64 d, .int .i64 h, .int .i64 (-1), .int .i64 wo], .bool false, .bool true]) (by simp [results, Try.results30, go_sem]) rfl ⟨rfl, (by repeat (first | (with_reducible exact Below.refl _ _) | (with_reducible assumption) | ((with_reducible refine Below.setCell ?_ ?_ _); rotate_left; focus (first | (simp; done) | (simp; omega))) | ((with_reducible refine Below.alloc ?_ ?_ _); rotate_left; focus (first | (with_reducible exact Nat.le_refl _) | (simp; done) | (simp; omega))) | (with_reducible refine belowD ?_ _) | (with_reducible refine belowDr ?_)))⟩

set_option maxRecDepth 100000 in
set_option maxHeartbeats 1600000 in
theorem sst_g3_yes (n a k m kn s d h wo : Int) (w : World) (h1 : kn + 3 < s) (h3 : 0 ≤ kn ∧ kn ≤ 5) :
    Calls Try.prog 30 #[(.agg #[.int .i64 n, .int .i64 a, .int .i64 k, .int .i64 m]), .agg #[.int .i64 kn, .int .i64 s, .int .i64 d, .int .i64 h, .int .i64 (-1), .int .i64 wo], .int .u8 51] w fun e w' => e = .returned (.tuple #[.agg #[.int .i64 kn, .int .i64 s, .int .i64 d, .int .i64 h, .int .i64 (kn + 3), .int .i64 wo], .bool true, .bool true]) ∧ Below w.heap.size w w' := by
  have d1 : decide (s ≤ kn + 3) = false := by simp; omega
  go_enter Try.func30, Try.ntmps30
  go_wp2
  exact bodyPost_ret (v := .tuple #[.agg #[.int .i64 kn, .int .i64 s, .int .i64 d, .int .i64 h, .int .i64 (kn + 3), .int .i64 wo], .bool true, .bool true]) (by simp [results, Try.results30, go_sem]) rfl ⟨rfl, (by repeat (first | (with_reducible exact Below.refl _ _) | (with_reducible assumption) | ((with_reducible refine Below.setCell ?_ ?_ _); rotate_left; focus (first | (simp; done) | (simp; omega))) | ((with_reducible refine Below.alloc ?_ ?_ _); rotate_left; focus (first | (with_reducible exact Nat.le_refl _) | (simp; done) | (simp; omega))) | (with_reducible refine belowD ?_ _) | (with_reducible refine belowDr ?_)))⟩

set_option maxRecDepth 100000 in
set_option maxHeartbeats 1600000 in
theorem sst_g3_busy (n a k m kn s d h da wo : Int) (w : World) (h1 : 0 ≤ da) (h3 : 0 ≤ kn ∧ kn ≤ 5) :
    Calls Try.prog 30 #[(.agg #[.int .i64 n, .int .i64 a, .int .i64 k, .int .i64 m]), .agg #[.int .i64 kn, .int .i64 s, .int .i64 d, .int .i64 h, .int .i64 da, .int .i64 wo], .int .u8 51] w fun e w' => e = .returned (.tuple #[.agg #[.int .i64 kn, .int .i64 s, .int .i64 d, .int .i64 h, .int .i64 da, .int .i64 wo], .bool false, .bool true]) ∧ Below w.heap.size w w' := by
  go_enter Try.func30, Try.ntmps30
  go_wp2
  exact bodyPost_ret (v := .tuple #[.agg #[.int .i64 kn, .int .i64 s, .int .i64 d, .int .i64 h, .int .i64 da, .int .i64 wo], .bool false, .bool true]) (by simp [results, Try.results30, go_sem]) rfl ⟨rfl, (by repeat (first | (with_reducible exact Below.refl _ _) | (with_reducible assumption) | ((with_reducible refine Below.setCell ?_ ?_ _); rotate_left; focus (first | (simp; done) | (simp; omega))) | ((with_reducible refine Below.alloc ?_ ?_ _); rotate_left; focus (first | (with_reducible exact Nat.le_refl _) | (simp; done) | (simp; omega))) | (with_reducible refine belowD ?_ _) | (with_reducible refine belowDr ?_)))⟩

set_option maxRecDepth 100000 in
set_option maxHeartbeats 1600000 in
theorem sst_g3_no (n a k m kn s d h wo : Int) (w : World) (h1 : s ≤ kn + 3) (h3 : 0 ≤ kn ∧ kn ≤ 5) :
    Calls Try.prog 30 #[(.agg #[.int .i64 n, .int .i64 a, .int .i64 k, .int .i64 m]), .agg #[.int .i64 kn, .int .i64 s, .int .i64 d, .int .i64 h, .int .i64 (-1), .int .i64 wo], .int .u8 51] w fun e w' => e = .returned (.tuple #[.agg #[.int .i64 kn, .int .i64 s, .int .i64 d, .int .i64 h, .int .i64 (-1), .int .i64 wo], .bool false, .bool true]) ∧ Below w.heap.size w w' := by
  go_enter Try.func30, Try.ntmps30
  go_wp2
  exact bodyPost_ret (v := .tuple #[.agg #[.int .i64 kn, .int .i64 s, .int .i64 d, .int .i64 h, .int .i64 (-1), .int .i64 wo], .bool false, .bool true]) (by simp [results, Try.results30, go_sem]) rfl ⟨rfl, (by repeat (first | (with_reducible exact Below.refl _ _) | (with_reducible assumption) | ((with_reducible refine Below.setCell ?_ ?_ _); rotate_left; focus (first | (simp; done) | (simp; omega))) | ((with_reducible refine Below.alloc ?_ ?_ _); rotate_left; focus (first | (with_reducible exact Nat.le_refl _) | (simp; done) | (simp; omega))) | (with_reducible refine belowD ?_ _) | (with_reducible refine belowDr ?_)))⟩

set_option maxRecDepth 100000 in
set_option maxHeartbeats 1600000 in
theorem sst_g4_yes (n a k m kn s d h wo : Int) (w : World) (h1 : kn + 4 < s) (h3 : 0 ≤ kn ∧ kn ≤ 5) :
    Calls Try.prog 30 #[(.agg #[.int .i64 n, .int .i64 a, .int .i64 k, .int .i64 m]), .agg #[.int .i64 kn, .int .i64 s, .int .i64 d, .int .i64 h, .int .i64 (-1), .int .i64 wo], .int .u8 52] w fun e w' => e = .returned (.tuple #[.agg #[.int .i64 kn, .int .i64 s, .int .i64 d, .int .i64 h, .int .i64 (kn + 4), .int .i64 wo], .bool true, .bool true]) ∧ Below w.heap.size w w' := by
  have d1 : decide (s ≤ kn + 4) = false := by simp; omega
  go_enter Try.func30, Try.ntmps30
  go_wp2
  exact bodyPost_ret (v := .tuple #[.agg #[.int .i64 kn, .int .i64 s, .int .i64 d, .int .i64 h, .int .i64 (kn + 4), .int .i64 wo], .bool true, .bool true]) (by simp [results, Try.results30, go_sem]) rfl ⟨rfl, (by repeat (first | (with_reducible exact Below.refl _ _) | (with_reducible assumption) | ((with_reducible refine Below.setCell ?_ ?_ _); rotate_left; focus (first | (simp; done) | (simp; omega))) | ((with_reducible refine Below.alloc ?_ ?_ _); rotate_left; focus (first | (with_reducible exact Nat.le_refl _) | (simp; done) | (simp; omega))) | (with_reducible refine belowD ?_ _) | (with_reducible refine belowDr ?_)))⟩

set_option maxRecDepth 100000 in
set_option maxHeartbeats 1600000 in
theorem sst_g4_busy (n a k m kn s d h da wo : Int) (w : World) (h1 : 0 ≤ da) (h3 : 0 ≤ kn ∧ kn ≤ 5) :
    Calls Try.prog 30 #[(.agg #[.int .i64 n, .int .i64 a, .int .i64 k, .int .i64 m]), .agg #[.int .i64 kn, .int .i64 s, .int .i64 d, .int .i64 h, .int .i64 da, .int .i64 wo], .int .u8 52] w fun e w' => e = .returned (.tuple #[.agg #[.int .i64 kn, .int .i64 s, .int .i64 d, .int .i64 h, .int .i64 da, .int .i64 wo], .bool false, .bool true]) ∧ Below w.heap.size w w' := by
  go_enter Try.func30, Try.ntmps30
  go_wp2
  exact bodyPost_ret (v := .tuple #[.agg #[.int .i64 kn, .int .i64 s, .int .i64 d, .int .i64 h, .int .i64 da, .int .i64 wo], .bool false, .bool true]) (by simp [results, Try.results30, go_sem]) rfl ⟨rfl, (by repeat (first | (with_reducible exact Below.refl _ _) | (with_reducible assumption) | ((with_reducible refine Below.setCell ?_ ?_ _); rotate_left; focus (first | (simp; done) | (simp; omega))) | ((with_reducible refine Below.alloc ?_ ?_ _); rotate_left; focus (first | (with_reducible exact Nat.le_refl _) | (simp; done) | (simp; omega))) | (with_reducible refine belowD ?_ _) | (with_reducible refine belowDr ?_)))⟩

set_option maxRecDepth 100000 in
set_option maxHeartbeats 1600000 in
theorem sst_g4_no (n a k m kn s d h wo : Int) (w : World) (h1 : s ≤ kn + 4) (h3 : 0 ≤ kn ∧ kn ≤ 5) :
    Calls Try.prog 30 #[(.agg #[.int .i64 n, .int .i64 a, .int .i64 k, .int .i64 m]), .agg #[.int .i64 kn, .int .i64 s, .int .i64 d, .int .i64 h, .int .i64 (-1), .int .i64 wo], .int .u8 52] w fun e w' => e = .returned (.tuple #[.agg #[.int .i64 kn, .int .i64 s, .int .i64 d, .int .i64 h, .int .i64 (-1), .int .i64 wo], .bool false, .bool true]) ∧ Below w.heap.size w w' := by
  go_enter Try.func30, Try.ntmps30
  go_wp2
  exact bodyPost_ret (v := .tuple #[.agg #[.int .i64 kn, .int .i64 s, .int .i64 d, .int .i64 h, .int .i64 (-1), .int .i64 wo], .bool false, .bool true]) (by simp [results, Try.results30, go_sem]) rfl ⟨rfl, (by repeat (first | (with_reducible exact Below.refl _ _) | (with_reducible assumption) | ((with_reducible refine Below.setCell ?_ ?_ _); rotate_left; focus (first | (simp; done) | (simp; omega))) | ((with_reducible refine Below.alloc ?_ ?_ _); rotate_left; focus (first | (with_reducible exact Nat.le_refl _) | (simp; done) | (simp; omega))) | (with_reducible refine belowD ?_ _) | (with_reducible refine belowDr ?_)))⟩

set_option maxRecDepth 100000 in
set_option maxHeartbeats 1600000 in
theorem sst_g5_yes (n a k m kn s d h wo : Int) (w : World) (h1 : kn + 5 < s) (h3 : 0 ≤ kn ∧ kn ≤ 5) :
    Calls Try.prog 30 #[(.agg #[.int .i64 n, .int .i64 a, .int .i64 k, .int .i64 m]), .agg #[.int .i64 kn, .int .i64 s, .int .i64 d, .int .i64 h, .int .i64 (-1), .int .i64 wo], .int .u8 53] w fun e w' => e = .returned (.tuple #[.agg #[.int .i64 kn, .int .i64 s, .int .i64 d, .int .i64 h, .int .i64 (kn + 5), .int .i64 wo], .bool true, .bool true]) ∧ Below w.heap.size w w' := by
  have d1 : decide (s ≤ kn + 5) = false := by simp; omega
  go_enter Try.func30, Try.ntmps30
  go_wp2
  exact bodyPost_ret (v := .tuple #[.agg #[.int .i64 kn, .int .i64 s, .int .i64 d, .int .i64 h, .int .i64 (kn + 5), .int .i64 wo], .bool true, .bool true]) (by simp [results, Try.results30, go_sem]) rfl ⟨rfl, (by repeat (first | (with_reducible exact Below.refl _ _) | (with_reducible assumption) | ((with_reducible refine Below.setCell ?_ ?_ _); rotate_left; focus (first | (simp; done) | (simp; omega))) | ((with_reducible refine Below.alloc ?_ ?_ _); rotate_left; focus (first | (with_reducible exact Nat.le_refl _) | (simp; done) | (simp; omega))) | (with_reducible refine belowD ?_ _) | (with_reducible refine belowDr ?_)))⟩

set_option maxRecDepth 100000 in
set_option maxHeartbeats 1600000 in
theorem sst_g5_busy (n a k m kn s d h da wo : Int) (w : World) (h1 : 0 ≤ da) (h3 : 0 ≤ kn ∧ kn ≤ 5) :
    Calls Try.prog 30 #[(.agg #[.int .i64 n, .int .i64 a, .int .i64 k, .int .i64 m]), .agg #[.int .i64 kn, .int .i64 s, .int .i64 d, .int .i64 h, .int .i64 da, .int .i64 wo], .int .u8 53] w fun e w' => e = .returned (.tuple #[.agg #[.int .i64 kn, .int .i64 s, .int .i64 d, .int .i64 h, .int .i64 da, .int .i64 wo], .bool false, .bool true]) ∧ Below w.heap.size w w' := by
  go_enter Try.func30, Try.ntmps30
  go_wp2
  exact bodyPost_ret (v := .tuple #[.agg #[.int .i64 kn, .int .i64 s, .int .i64 d, .int .i64 h, .int .i64 da, .int .i64 wo], .bool false, .bool true]) (by simp [results, Try.results30, go_sem]) rfl ⟨rfl, (by repeat (first | (with_reducible exact Below.refl _ _) | (with_reducible assumption) | ((with_reducible refine Below.setCell ?_ ?_ _); rotate_left; focus (first | (simp; done) | (simp; omega))) | ((with_reducible refine Below.alloc ?_ ?_ _); rotate_left; focus (first | (with_reducible exact Nat.le_refl _) | (simp; done) | (simp; omega))) | (with_reducible refine belowD ?_ _) | (with_reducible refine belowDr ?_)))⟩

set_option maxRecDepth 100000 in
set_option maxHeartbeats 1600000 in
theorem sst_g5_no (n a k m kn s d h wo : Int) (w : World) (h1 : s ≤ kn + 5) (h3 : 0 ≤ kn ∧ kn ≤ 5) :
    Calls Try.prog 30 #[(.agg #[.int .i64 n, .int .i64 a, .int .i64 k, .int .i64 m]), .agg #[.int .i64 kn, .int .i64 s, .int .i64 d, .int .i64 h, .int .i64 (-1), .int .i64 wo], .int .u8 53] w fun e w' => e = .returned (.tuple #[.agg #[.int .i64 kn, .int .i64 s, .int .i64 d, .int .i64 h, .int .i64 (-1), .int .i64 wo], .bool false, .bool true]) ∧ Below w.heap.size w w' := by
  go_enter Try.func30, Try.ntmps30
  go_wp2
  exact bodyPost_ret (v := .tuple #[.agg #[.int .i64 kn, .int .i64 s, .int .i64 d, .int .i64 h, .int .i64 (-1), .int .i64 wo], .bool false, .bool true]) (by simp [results, Try.results30, go_sem]) rfl ⟨rfl, (by repeat (first | (with_reducible exact Below.refl _ _) | (with_reducible assumption) | ((with_reducible refine Below.setCell ?_ ?_ _); rotate_left; focus (first | (simp; done) | (simp; omega))) | ((with_reducible refine Below.alloc ?_ ?_ _); rotate_left; focus (first | (with_reducible exact Nat.le_refl _) | (simp; done) | (simp; omega))) | (with_reducible refine belowD ?_ _) | (with_reducible refine belowDr ?_)))⟩

set_option maxRecDepth 100000 in
set_option maxHeartbeats 1600000 in
theorem sst_g6_yes (n a k m kn s d h wo : Int) (w : World) (h1 : kn + 6 < s) (h3 : 0 ≤ kn ∧ kn ≤ 5) :
    Calls Try.prog 30 #[(.agg #[.int .i64 n, .int .i64 a, .int .i64 k, .int .i64 m]), .agg #[.int .i64 kn, .int .i64 s, .int .i64 d, .int .i64 h, .int .i64 (-1), .int .i64 wo], .int .u8 54] w fun e w' => e = .returned (.tuple #[.agg #[.int .i64 kn, .int .i64 s, .int .i64 d, .int .i64 h, .int .i64 (kn + 6), .int .i64 wo], .bool true, .bool true]) ∧ Below w.heap.size w w' := by
  have d1 : decide (s ≤ kn + 6) = false := by simp; omega
  go_enter Try.func30, Try.ntmps30
  go_wp2
  exact bodyPost_ret (v := .tuple #[.agg #[.int .i64 kn, .int .i64 s, .int .i64 d, .int .i64 h, .int .i64 (kn + 6), .int .i64 wo], .bool true, .bool true]) (by simp [results, Try.results30, go_sem]) rfl ⟨rfl, (by repeat (first | (with_reducible exact Below.refl _ _) | (with_reducible assumption) | ((with_reducible refine Below.setCell ?_ ?_ _); rotate_left; focus (first | (simp; done) | (simp; omega))) | ((with_reducible refine Below.alloc ?_ ?_ _); rotate_left; focus (first | (with_reducible exact Nat.le_refl _) | (simp; done) | (simp; omega))) | (with_reducible refine belowD ?_ _) | (with_reducible refine belowDr ?_)))⟩

set_option maxRecDepth 100000 in
set_option maxHeartbeats 1600000 in
theorem sst_g6_busy (n a k m kn s d h da wo : Int) (w : World) (h1 : 0 ≤ da) (h3 : 0 ≤ kn ∧ kn ≤ 5) :
    Calls Try.prog 30 #[(.agg #[.int .i64 n, .int .i64 a, .int .i64 k, .int .i64 m]), .agg #[.int .i64 kn, .int .i64 s, .int .i64 d, .int .i64 h, .int .i64 da, .int .i64 wo], .int .u8 54] w fun e w' => e = .returned (.tuple #[.agg #[.int .i64 kn, .int .i64 s, .int .i64 d, .int .i64 h, .int .i64 da, .int .i64 wo], .bool false, .bool true]) ∧ Below w.heap.size w w' := by
  go_enter Try.func30, Try.ntmps30
  go_wp2
  exact bodyPost_ret (v := .tuple #[.agg #[.int .i64 kn, .int .i64 s, .int .i64 d, .int .i64 h, .int .i64 da, .int .i64 wo], .bool false, .bool true]) (by simp [results, Try.results30, go_sem]) rfl ⟨rfl, (by repeat (first | (with_reducible exact Below.refl _ _) | (with_reducible assumption) | ((with_reducible refine Below.setCell ?_ ?_ _); rotate_left; focus (first | (simp; done) | (simp; omega))) | ((with_reducible refine Below.alloc ?_ ?_ _); rotate_left; focus (first | (with_reducible exact Nat.le_refl _) | (simp; done) | (simp; omega))) | (with_reducible refine belowD ?_ _) | (with_reducible refine belowDr ?_)))⟩

set_option maxRecDepth 100000 in
set_option maxHeartbeats 1600000 in
theorem sst_g6_no (n a k m kn s d h wo : Int) (w : World) (h1 : s ≤ kn + 6) (h3 : 0 ≤ kn ∧ kn ≤ 5) :
    Calls Try.prog 30 #[(.agg #[.int .i64 n, .int .i64 a, .int .i64 k, .int .i64 m]), .agg #[.int .i64 kn, .int .i64 s, .int .i64 d, .int .i64 h, .int .i64 (-1), .int .i64 wo], .int .u8 54] w fun e w' => e = .returned (.tuple #[.agg #[.int .i64 kn, .int .i64 s, .int .i64 d, .int .i64 h, .int .i64 (-1), .int .i64 wo], .bool false, .bool true]) ∧ Below w.heap.size w w' := by
  go_enter Try.func30, Try.ntmps30
  go_wp2
  exact bodyPost_ret (v := .tuple #[.agg #[.int .i64 kn, .int .i64 s, .int .i64 d, .int .i64 h, .int .i64 (-1), .int .i64 wo], .bool false, .bool true]) (by simp [results, Try.results30, go_sem]) rfl ⟨rfl, (by repeat (first | (with_reducible exact Below.refl _ _) | (with_reducible assumption) | ((with_reducible refine Below.setCell ?_ ?_ _); rotate_left; focus (first | (simp; done) | (simp; omega))) | ((with_reducible refine Below.alloc ?_ ?_ _); rotate_left; focus (first | (with_reducible exact Nat.le_refl _) | (simp; done) | (simp; omega))) | (with_reducible refine belowD ?_ _) | (with_reducible refine belowDr ?_)))⟩

set_option maxRecDepth 100000 in
set_option maxHeartbeats 1600000 in
theorem sst_g7_yes (n a k m kn s d h wo : Int) (w : World) (h1 : kn + 7 < s) (h3 : 0 ≤ kn ∧ kn ≤ 5) :
    Calls Try.prog 30 #[(.agg #[.int .i64 n, .int .i64 a, .int .i64 k, .int .i64 m]), .agg #[.int .i64 kn, .int .i64 s, .int .i64 d, .int .i64 h, .int .i64 (-1), .int .i64 wo], .int .u8 55] w fun e w' => e = .returned (.tuple #[.agg #[.int .i64 kn, .int .i64 s, .int .i64 d, .int .i64 h, .int .i64 (kn + 7), .int .i64 wo], .bool true, .bool true]) ∧ Below w.heap.size w w' := by
  have d1 : decide (s ≤ kn + 7) = false := by simp; omega
  go_enter Try.func30, Try.ntmps30
  go_wp2
  exact bodyPost_ret (v := .tuple #[.agg #[.int .i64 kn, .int .i64 s, .int .i64 d, .int .i64 h, .int .i64 (kn + 7), .int .i64 wo], .bool true, .bool true]) (by simp [results, Try.results30, go_sem]) rfl ⟨rfl, (by repeat (first | (with_reducible exact Below.refl _ _) | (with_reducible assumption) | ((with_reducible refine Below.setCell ?_ ?_ _); rotate_left; focus (first | (simp; done) | (simp; omega))) | ((with_reducible refine Below.alloc ?_ ?_ _); rotate_left; focus (first | (with_reducible exact Nat.le_refl _) | (simp; done) | (simp; omega))) | (with_reducible refine belowD ?_ _) | (with_reducible refine belowDr ?_)))⟩

set_option maxRecDepth 100000 in
set_option maxHeartbeats 1600000 in
theorem sst_g7_busy (n a k m kn s d h da wo : Int) (w : World) (h1 : 0 ≤ da) (h3 : 0 ≤ kn ∧ kn ≤ 5) :
    Calls Try.prog 30 #[(.agg #[.int .i64 n, .int .i64 a, .int .i64 k, .int .i64 m]), .agg #[.int .i64 kn, .int .i64 s, .int .i64 d, .int .i64 h, .int .i64 da, .int .i64 wo], .int .u8 55] w fun e w' => e = .returned (.tuple #[.agg #[.int .i64 kn, .int .i64 s, .int .i64 d, .int .i64 h, .int .i64 da, .int .i64 wo], .bool false, .bool true]) ∧ Below w.heap.size w w' := by
  go_enter Try.func30, Try.ntmps30
  go_wp2
  exact bodyPost_ret (v := .tuple #[.agg #[.int .i64 kn, .int .i64 s, .int .i64 d, .int .i64 h, .int .i64 da, .int .i64 wo], .bool false, .bool true]) (by simp [results, Try.results30, go_sem]) rfl ⟨rfl, (by repeat (first | (with_reducible exact Below.refl _ _) | (with_reducible assumption) | ((with_reducible refine Below.setCell ?_ ?_ _); rotate_left; focus (first | (simp; done) | (simp; omega))) | ((with_reducible refine Below.alloc ?_ ?_ _); rotate_left; focus (first | (with_reducible exact Nat.le_refl _) | (simp; done) | (simp; omega))) | (with_reducible refine belowD ?_ _) | (with_reducible refine belowDr ?_)))⟩

set_option maxRecDepth 100000 in
set_option maxHeartbeats 1600000 in
theorem sst_g7_no (n a k m kn s d h wo : Int) (w : World) (h1 : s ≤ kn + 7) (h3 : 0 ≤ kn ∧ kn ≤ 5) :
    Calls Try.prog 30 #[(.agg #[.int .i64 n, .int .i64 a, .int .i64 k, .int .i64 m]), .agg #[.int .i64 kn, .int .i64 s, .int .i64 d, .int .i64 h, .int .i64 (-1), .int .i64 wo], .int .u8 55] w fun e w' => e = .returned (.tuple #[.agg #[.int .i64 kn, .int .i64 s, .int .i64 d, .int .i64 h, .int .i64 (-1), .int .i64 wo], .bool false, .bool true]) ∧ Below w.heap.size w w' := by
  go_enter Try.func30, Try.ntmps30
  go_wp2
  exact bodyPost_ret (v := .tuple #[.agg #[.int .i64 kn, .int .i64 s, .int .i64 d, .int .i64 h, .int .i64 (-1), .int .i64 wo], .bool false, .bool true]) (by simp [results, Try.results30, go_sem]) rfl ⟨rfl, (by repeat (first | (with_reducible exact Below.refl _ _) | (with_reducible assumption) | ((with_reducible refine Below.setCell ?_ ?_ _); rotate_left; focus (first | (simp; done) | (simp; omega))) | ((with_reducible refine Below.alloc ?_ ?_ _); rotate_left; focus (first | (with_reducible exact Nat.le_refl _) | (simp; done) | (simp; omega))) | (with_reducible refine belowD ?_ _) | (with_reducible refine belowDr ?_)))⟩

set_option maxRecDepth 100000 in
set_option maxHeartbeats 1600000 in
theorem sst_g8_yes (n a k m kn s d h wo : Int) (w : World) (h1 : kn + 8 < s) (h3 : 0 ≤ kn ∧ kn ≤ 5) :
    Calls Try.prog 30 #[(.agg #[.int .i64 n, .int .i64 a, .int .i64 k, .int .i64 m]), .agg #[.int .i64 kn, .int .i64 s, .int .i64 d, .int .i64 h, .int .i64 (-1), .int .i64 wo], .int .u8 56] w fun e w' => e = .returned (.tuple #[.agg #[.int .i64 kn, .int .i64 s, .int .i64 d, .int .i64 h, .int .i64 (kn + 8), .int .i64 wo], .bool true, .bool true]) ∧ Below w.heap.size w w' := by
  have d1 : decide (s ≤ kn + 8) = false := by simp; omega
  go_enter Try.func30, Try.ntmps30
  go_wp2
  exact bodyPost_ret (v := .tuple #[.agg #[.int .i64 kn, .int .i64 s, .int .i64 d, .int .i64 h, .int .i64 (kn + 8), .int .i64 wo], .bool true, .bool true]) (by simp [results, Try.results30, go_sem]) rfl ⟨rfl, (by repeat (first | (with_reducible exact Below.refl _ _) | (with_reducible assumption) | ((with_reducible refine Below.setCell ?_ ?_ _); rotate_left; focus (first | (simp; done) | (simp; omega))) | ((with_reducible refine Below.alloc ?_ ?_ _); rotate_left; focus (first | (with_reducible exact Nat.le_refl _) | (simp; done) | (simp; omega))) | (with_reducible refine belowD ?_ _) | (with_reducible refine belowDr ?_)))⟩

set_option maxRecDepth 100000 in
set_option maxHeartbeats 1600000 in
theorem sst_g8_busy (n a k m kn s d h da wo : Int) (w : World) (h1 : 0 ≤ da) (h3 : 0 ≤ kn ∧ kn ≤ 5) :
    Calls Try.prog 30 #[(.agg #[.int .i64 n, .int .i64 a, .int .i64 k, .int .i64 m]), .agg #[.int .i64 kn, .int .i64 s, .int .i64 d, .int .i64 h, .int .i64 da, .int .i64 wo], .int .u8 56] w fun e w' => e = .returned (.tuple #[.agg #[.int .i64 kn, .int .i64 s, .int .i64 d, .int .i64 h, .int .i64 da, .int .i64 wo], .bool false, .bool true]) ∧ Below w.heap.size w w' := by
  go_enter Try.func30, Try.ntmps30
  go_wp2
  exact bodyPost_ret (v := .tuple #[.agg #[.int .i64 kn, .int .i64 s, .int .i64 d, .int .i64 h, .int .i64 da, .int .i64 wo], .bool false, .bool true]) (by simp [results, Try.results30, go_sem]) rfl ⟨rfl, (by repeat (first | (with_reducible exact Below.refl _ _) | (with_reducible assumption) | ((with_reducible refine Below.setCell ?_ ?_ _); rotate_left; focus (first | (simp; done) | (simp; omega))) | ((with_reducible refine Below.alloc ?_ ?_ _); rotate_left; focus (first | (with_reducible exact Nat.le_refl _) | (simp; done) | (simp; omega))) | (with_reducible refine belowD ?_ _) | (with_reducible refine belowDr ?_)))⟩

set_option maxRecDepth 100000 in
set_option maxHeartbeats 1600000 in
theorem sst_g8_no (n a k m kn s d h wo : Int) (w : World) (h1 : s ≤ kn + 8) (h3 : 0 ≤ kn ∧ kn ≤ 5) :
    Calls Try.prog 30 #[(.agg #[.int .i64 n, .int .i64 a, .int .i64 k, .int .i64 m]), .agg #[.int .i64 kn, .int .i64 s, .int .i64 d, .int .i64 h, .int .i64 (-1), .int .i64 wo], .int .u8 56] w fun e w' => e = .returned (.tuple #[.agg #[.int .i64 kn, .int .i64 s, .int .i64 d, .int .i64 h, .int .i64 (-1), .int .i64 wo], .bool false, .bool true]) ∧ Below w.heap.size w w' := by
  go_enter Try.func30, Try.ntmps30
  go_wp2
  exact bodyPost_ret (v := .tuple #[.agg #[.int .i64 kn, .int .i64 s, .int .i64 d, .int .i64 h, .int .i64 (-1), .int .i64 wo], .bool false, .bool true]) (by simp [results, Try.results30, go_sem]) rfl ⟨rfl, (by repeat (first | (with_reducible exact Below.refl _ _) | (with_reducible assumption) | ((with_reducible refine Below.setCell ?_ ?_ _); rotate_left; focus (first | (simp; done) | (simp; omega))) | ((with_reducible refine Below.alloc ?_ ?_ _); rotate_left; focus (first | (with_reducible exact Nat.le_refl _) | (simp; done) | (simp; omega))) | (with_reducible refine belowD ?_ _) | (with_reducible refine belowDr ?_)))⟩

set_option maxRecDepth 100000 in
set_option maxHeartbeats 1600000 in
theorem sst_g9_yes (n a k m kn s d h wo : Int) (w : World) (h1 : kn + 9 < s) (h3 : 0 ≤ kn ∧ kn ≤ 5) :
    Calls Try.prog 30 #[(.agg #[.int .i64 n, .int .i64 a, .int .i64 k, .int .i64 m]), .agg #[.int .i64 kn, .int .i64 s, .int .i64 d, .int .i64 h, .int .i64 (-1), .int .i64 wo], .int .u8 57] w fun e w' => e = .returned (.tuple #[.agg #[.int .i64 kn, .int .i64 s, .int .i64 d, .int .i64 h, .int .i64 (kn + 9), .int .i64 wo], .bool true, .bool true]) ∧ Below w.heap.size w w' := by
  have d1 : decide (s ≤ kn + 9) = false := by simp; omega
  go_enter Try.func30, Try.ntmps30
  go_wp2
  exact bodyPost_ret (v := .tuple #[.agg #[.int .i64 kn, .int .i64 s, .int .i64 d, .int .i64 h, .int .i64 (kn + 9), .int .i64 wo], .bool true, .bool true]) (by simp [results, Try.results30, go_sem]) rfl ⟨rfl, (by repeat (first | (with_reducible exact Below.refl _ _) | (with_reducible assumption) | ((with_reducible refine Below.setCell ?_ ?_ _); rotate_left; focus (first | (simp; done) | (simp; omega))) | ((with_reducible refine Below.alloc ?_ ?_ _); rotate_left; focus (first | (with_reducible exact Nat.le_refl _) | (simp; done) | (simp; omega))) | (with_reducible refine belowD ?_ _) | (with_reducible refine belowDr ?_)))⟩

set_option maxRecDepth 100000 in
set_option maxHeartbeats 1600000 in
theorem sst_g9_busy (n a k m kn s d h da wo : Int) (w : World) (h1 : 0 ≤ da) (h3 : 0 ≤ kn ∧ kn ≤ 5) :
    Calls Try.prog 30 #[(.agg #[.int .i64 n, .int .i64 a, .int .i64 k, .int .i64 m]), .agg #[.int .i64 kn, .int .i64 s, .int .i64 d, .int .i64 h, .int .i64 da, .int .i64 wo], .int .u8 57] w fun e w' => e = .returned (.tuple #[.agg #[.int .i64 kn, .int .i64 s, .int .i64 d, .int .i64 h, .int .i64 da, .int .i64 wo], .bool false, .bool true]) ∧ Below w.heap.size w w' := by
  go_enter Try.func30, Try.ntmps30
  go_wp2
  exact bodyPost_ret (v := .tuple #[.agg #[.int .i64 kn, .int .i64 s, .int .i64 d, .int .i64 h, .int .i64 da, .int .i64 wo], .bool false, .bool true]) (by simp [results, Try.results30, go_sem]) rfl ⟨rfl, (by repeat (first | (with_reducible exact Below.refl _ _) | (with_reducible assumption) | ((with_reducible refine Below.setCell ?_ ?_ _); rotate_left; focus (first | (simp; done) | (simp; omega))) | ((with_reducible refine Below.alloc ?_ ?_ _); rotate_left; focus (first | (with_reducible exact Nat.le_refl _) | (simp; done) | (simp; omega))) | (with_reducible refine belowD ?_ _) | (with_reducible refine belowDr ?_)))⟩

set_option maxRecDepth 100000 in
set_option maxHeartbeats 1600000 in
theorem sst_g9_no (n a k m kn s d h wo : Int) (w : World) (h1 : s ≤ kn + 9) (h3 : 0 ≤ kn ∧ kn ≤ 5) :
    Calls Try.prog 30 #[(.agg #[.int .i64 n, .int .i64 a, .int .i64 k, .int .i64 m]), .agg #[.int .i64 kn, .int .i64 s, .int .i64 d, .int .i64 h, .int .i64 (-1), .int .i64 wo], .int .u8 57] w fun e w' => e = .returned (.tuple #[.agg #[.int .i64 kn, .int .i64 s, .int .i64 d, .int .i64 h, .int .i64 (-1), .int .i64 wo], .bool false, .bool true]) ∧ Below w.heap.size w w' := by
  go_enter Try.func30, Try.ntmps30
  go_wp2
  exact bodyPost_ret (v := .tuple #[.agg #[.int .i64 kn, .int .i64 s, .int .i64 d, .int .i64 h, .int .i64 (-1), .int .i64 wo], .bool false, .bool true]) (by simp [results, Try.results30, go_sem]) rfl ⟨rfl, (by repeat (first | (with_reducible exact Below.refl _ _) | (with_reducible assumption) | ((with_reducible refine Below.setCell ?_ ?_ _); rotate_left; focus (first | (simp; done) | (simp; omega))) | ((with_reducible refine Below.alloc ?_ ?_ _); rotate_left; focus (first | (with_reducible exact Nat.le_refl _) | (simp; done) | (simp; omega))) | (with_reducible refine belowD ?_ _) | (with_reducible refine belowDr ?_)))⟩

set_option maxRecDepth 100000 in
set_option maxHeartbeats 1600000 in
theorem sst_d_yes (n a k m kn s d h da wo : Int) (r : Lk) (rb : Bool) (w : World) (h1 : 0 ≤ da) (hc : ∀ W, Calls Try.prog 44 #[(.agg #[.int .i64 n, .int .i64 a, .int .i64 k, .int .i64 m]), (.agg #[.int .i64 kn, .int .i64 s, .int .i64 d, .int .i64 h, .int .i64 da, .int .i64 wo])] W fun e w' => e = .returned (.tuple #[.agg #[.int .i64 r.kn, .int .i64 r.s, .int .i64 r.d, .int .i64 r.h, .int .i64 r.da, .int .i64 r.wo], .bool rb]) ∧ Below W.heap.size W w') :
    Calls Try.prog 30 #[(.agg #[.int .i64 n, .int .i64 a, .int .i64 k, .int .i64 m]), (.agg #[.int .i64 kn, .int .i64 s, .int .i64 d, .int .i64 h, .int .i64 da, .int .i64 wo]), .int .u8 100] w fun e w' => e = .returned (.tuple #[.agg #[.int .i64 r.kn, .int .i64 r.s, .int .i64 r.d, .int .i64 r.h, .int .i64 r.da, .int .i64 r.wo], .bool true, .bool rb]) ∧ Below w.heap.size w w' := by
  have HC := Lib.hid hc
  have d1 : decide (da < 0) = false := by simp; omega
  clear hc
  go_enter Try.func30, Try.ntmps30
  go_wp2_with fail
  refine (HC.out _).mono ?_
  rintro e w1 ⟨rfl, hb1⟩
  have hF := (Thr.new w #[.int .i64 n, .int .i64 a, .int .i64 k, .int .i64 m] #[.int .i64 kn, .int .i64 s, .int .i64 d, .int .i64 h, .int .i64 da, .int .i64 wo] #[.int .i64 0, .int .i64 0, .int .i64 0, .int .i64 0, .int .i64 0, .int .i64 0]).more hb1
  obtain ⟨r0, r1, r2, r3, r4, r5⟩ := hF.r.c6
  obtain ⟨g0, g1, g2, g3, g4, g5⟩ := hF.r.f6
  have HB := hF.b
  have hz : w.heap.size + 1 + 1 < _ := hF.z
  have HF := Lib.hid hF
  clear hF hb1
  go_wp2
  exact bodyPost_ret (results_row_tmp2 (p := 6) (u := 7) (v := 8) (ty := 35) rfl _ _ (w.heap.size + 1 + 1) 35 #[.int .i64 r.kn, .int .i64 r.s, .int .i64 r.d, .int .i64 r.h, .int .i64 r.da, .int .i64 r.wo] (0, 0) _ rfl ((Blk.set6 HF.out.r _ _ _ _ _ _).alloc _) Try.underlying35 rfl infoL) rfl ⟨rfl, (by repeat (first | (with_reducible exact Below.refl _ _) | (with_reducible assumption) | ((with_reducible refine Below.setCell ?_ ?_ _); rotate_left; focus (first | (simp; done) | (simp; omega))) | ((with_reducible refine Below.alloc ?_ ?_ _); rotate_left; focus (first | (with_reducible exact Nat.le_refl _) | (simp; done) | (simp; omega))) | (with_reducible refine belowD ?_ _) | (with_reducible refine belowDr ?_)))⟩

set_option maxRecDepth 100000 in
set_option maxHeartbeats 1600000 in
theorem sst_a_yes (n a k m kn s d h da wo : Int) (r : Lk) (w : World) (h1 : 0 ≤ wo) (hc : ∀ W, Calls Try.prog 45 #[(.agg #[.int .i64 n, .int .i64 a, .int .i64 k, .int .i64 m]), (.agg #[.int .i64 kn, .int .i64 s, .int .i64 d, .int .i64 h, .int .i64 da, .int .i64 wo])] W fun e w' => e = .returned (.agg #[.int .i64 r.kn, .int .i64 r.s, .int .i64 r.d, .int .i64 r.h, .int .i64 r.da, .int .i64 r.wo]) ∧ Below W.heap.size W w') :
    Calls Try.prog 30 #[(.agg #[.int .i64 n, .int .i64 a, .int .i64 k, .int .i64 m]), (.agg #[.int .i64 kn, .int .i64 s, .int .i64 d, .int .i64 h, .int .i64 da, .int .i64 wo]), .int .u8 97] w fun e w' => e = .returned (.tuple #[.agg #[.int .i64 r.kn, .int .i64 r.s, .int .i64 r.d, .int .i64 r.h, .int .i64 r.da, .int .i64 r.wo], .bool true, .bool true]) ∧ Below w.heap.size w w' := by
  have HC := Lib.hid hc
  have d1 : decide (wo < 0) = false := by simp; omega
  clear hc
  go_enter Try.func30, Try.ntmps30
  go_wp2_with fail
  refine (HC.out _).mono ?_
  rintro e w1 ⟨rfl, hb1⟩
  have hF := (Thr.new w #[.int .i64 n, .int .i64 a, .int .i64 k, .int .i64 m] #[.int .i64 kn, .int .i64 s, .int .i64 d, .int .i64 h, .int .i64 da, .int .i64 wo] #[.int .i64 0, .int .i64 0, .int .i64 0, .int .i64 0, .int .i64 0, .int .i64 0]).more hb1
  obtain ⟨r0, r1, r2, r3, r4, r5⟩ := hF.r.c6
  obtain ⟨g0, g1, g2, g3, g4, g5⟩ := hF.r.f6
  have HB := hF.b
  have hz : w.heap.size + 1 + 1 < _ := hF.z
  have HF := Lib.hid hF
  clear hF hb1
  go_wp2
  exact bodyPost_ret (results_row_tmp2 (p := 6) (u := 7) (v := 8) (ty := 35) rfl _ _ (w.heap.size + 1 + 1) 35 #[.int .i64 r.kn, .int .i64 r.s, .int .i64 r.d, .int .i64 r.h, .int .i64 r.da, .int .i64 r.wo] (0, 0) _ rfl (Blk.set6 HF.out.r _ _ _ _ _ _) Try.underlying35 rfl infoL) rfl ⟨rfl, (by repeat (first | (with_reducible exact Below.refl _ _) | (with_reducible assumption) | ((with_reducible refine Below.setCell ?_ ?_ _); rotate_left; focus (first | (simp; done) | (simp; omega))) | ((with_reducible refine Below.alloc ?_ ?_ _); rotate_left; focus (first | (with_reducible exact Nat.le_refl _) | (simp; done) | (simp; omega))) | (with_reducible refine belowD ?_ _) | (with_reducible refine belowDr ?_)))⟩

end Go.Proofs.Ytnbgfffcialfkaa
