/-
  The walks of the model's functions by which words and answers come: take, hear. Conditions: the bounds that are typed.
-/
import Derived.Test.YtnbgfffcialfkaaLn09
import Derived.Deep.RegionWith
set_option linter.unusedSimpArgs false
set_option linter.unusedVariables false
namespace Go.Proofs.Ytnbgfffcialfkaa
open Go.RowKit
set_option linter.unusedVariables false

theorem pow_s (i : Nat) : (2 : Int) * 2 ^ i = 2 ^ (i + 1) := by rw [Int.pow_succ]; omega
theorem pow_16 (i : Nat) (h : i ≤ 4) : 1 ≤ (2 : Int) ^ i ∧ (2 : Int) ^ i ≤ 16 := by
  rcases (show i = 0 ∨ i = 1 ∨ i = 2 ∨ i = 3 ∨ i = 4 from by omega) with rfl | rfl | rfl | rfl | rfl <;> decide
theorem spow_any (j : Nat) (hj : j ≤ 4) (w : World) : Calls Try.prog 40 #[.int .i64 (j : Int)] w fun e w' => e = .returned (.int .i64 (2 ^ j)) ∧ w = w' := by
  go_enter Try.func40, Try.ntmps40
  go_wp2
  go_loop [0, 3] (fun a b => ∃ i : Nat, i ≤ j ∧ a = .int .i64 ((j : Int) - i) ∧ b = .int .i64 (2 ^ i)) (fun a _ => (intOf a).toNat)
  case atStart => exact ⟨0, Nat.zero_le _, by simp, rfl⟩
  case round =>
    obtain ⟨i, hi, rfl, rfl⟩ := hrel
    have hp := pow_16 i (by omega)
    have hs := Lib.hid (pow_s i)
    by_cases hlt : i < j
    · have h1 : (0 : Int) < (j : Int) - i := by omega
      generalize (2 : Int) ^ i = x at *
      go_wp2
      go_round
      case rel => exact ⟨i + 1, by omega, by rw [show (j : Int) - ((i + 1 : Nat) : Int) = (j : Int) - i - 1 from by omega], by rw [hs.out]⟩
      case measure => simp [intOf]; omega
    · obtain rfl : i = j := by omega
      have h1 : ¬ (0 : Int) < (i : Int) - i := by omega
      go_wp2
      go_ret
      exact ⟨rfl, rfl⟩
theorem sbit_any (x : Int) (j : Nat) (hj : j ≤ 4) (hx : 0 ≤ x ∧ x ≤ 1000) (w : World) : Calls Try.prog 54 #[.int .i64 x, .int .i64 (j : Int)] w fun e w' => e = .returned (.int .i64 (x / 2 ^ j % 2)) ∧ w = w' := by
  have hp := pow_16 j hj
  have HP := Lib.hid (fun W => spow_any j hj W)
  generalize (2 : Int) ^ j = y at *
  have hd : 0 ≤ x / y := Int.ediv_nonneg (by omega) (by omega)
  go_enter Try.func54, Try.ntmps54
  go_wp2_with (go_at_call 40; refine (HP.out _).mono ?_; rintro e w' ⟨rfl, rfl⟩)
  go_ret
  exact ⟨rfl, rfl⟩

set_option maxHeartbeats 3200000 in
theorem stk_any (n a m kn s d h da wo : Int) (K : Nat) (r : Lk × Bool) (hr : takeF ⟨n, a, K, m⟩ ⟨kn, s, d, h, da, wo⟩ = r) (w : World) (hn : 2 ≤ n ∧ n ≤ 4) (hK : K ≤ 4) (hd : 0 ≤ d ∧ d ≤ 5) (hh : 0 ≤ h ∧ h < 16) (hda : 0 ≤ da ∧ da ≤ 5) :
    Calls Try.prog 44 #[.agg #[.int .i64 n, .int .i64 a, .int .i64 (K : Int), .int .i64 m], .agg #[.int .i64 kn, .int .i64 s, .int .i64 d, .int .i64 h, .int .i64 da, .int .i64 wo]] w fun e w' => e = .returned (.tuple #[lv r.1, .bool r.2]) ∧ Below w.heap.size w w' := by
  have HR := Lib.hid hr
  clear hr
  go_enter Try.func44, Try.ntmps44
  go_wp2
  go_loopg [7] K (fun g kv wr => ∃ k : Nat, k ≤ K ∧ g = K - k ∧ kv = .int .i64 k ∧ Srch n d da K k ∧ Thr w wr #[.int .i64 n, .int .i64 a, .int .i64 (K : Int), .int .i64 m] #[.int .i64 kn, .int .i64 s, .int .i64 d, .int .i64 h, .int .i64 (-1), .int .i64 wo] #[.int .i64 0, .int .i64 0, .int .i64 0, .int .i64 0, .int .i64 0, .int .i64 0])
  case atStart => exact ⟨0, Nat.zero_le _, rfl, rfl, rfl, Thr.new w _ _ _⟩
  case round =>
    obtain ⟨k, hk, hg, rfl, hs, hT⟩ := hrel
    have HS := Lib.hid hs
    have HT := Lib.hid hT
    have HG := Lib.hid hg
    obtain ⟨p0, p1, p2, p3⟩ := hT.p.c4
    obtain ⟨c0, c1, c2, c3, c4, c5⟩ := hT.l.c6
    obtain ⟨f0, f1, f2, f3, f4, f5⟩ := hT.l.f6
    obtain ⟨r0, r1, r2, r3, r4, r5⟩ := hT.r.c6
    obtain ⟨g0, g1, g2, g3, g4, g5⟩ := hT.r.f6
    have HB := hT.b
    have hz : w.heap.size + 1 + 1 < _ := hT.z
    clear hs hT hg
    by_cases hlt : k < K
    · have es : IntKind.i64.wrap (d + (k : Int)) = d + k := IntWalk.i64_in _ (by omega)
      have es0 : 0 ≤ d + (k : Int) := by omega
      by_cases e : (d + k) % n = da % n
      · have e1 : ((d + (k : Int)) % n == da % n) = true := by simpa using e
        have e2 : ((d + (k : Int)) % n != da % n) = false := by simpa using e
        have HF := Lib.hid (HS.out.hit hlt e)
        clear e
        go_wp2
        go_quiet (fail)
        have HT1 := Lib.hid (HT.out.drewN nq)
        by_cases q : d + k = da
        · have q1 : (d + (k : Int) == da) = true := by simpa using q
          have q2 : (d + (k : Int) != da) = false := by simpa using q
          have HQ := Lib.hid q
          have HHO := Lib.hid (orb16 h k hh.1 hh.2 (by omega))
          have HBIT := Lib.hid (fun W => sbit_any h k (by omega) (by omega) W)
          have HPW := Lib.hid (fun W => spow_any k (by omega) W)
          have hpk := pow_16 k (by omega)
          by_cases b : h / 2 ^ k % 2 = 0
          · have HOR := Lib.hid (show orb h k = h + 2 ^ k by unfold orb; rw [if_neg (by omega)])
            have b1 : (h / 2 ^ k % 2 == 0) = true := by simpa using b
            have EW := Lib.hid (show IntKind.i64.wrap (h + 2 ^ k) = orb h k by rw [HOR.out]; exact IntWalk.i64_in _ (by omega))
            clear q b
            generalize hpw : (2 : Int) ^ k = pw at *
            have HPWE := Lib.hid hpw
            clear hpw
            go_wp2_with (go_at_call 54; refine (HBIT.out _).mono ?_; rintro e w' ⟨rfl, rfl⟩)
            go_region_with (go_at_call 40; refine (HPW.out _).mono ?_; rintro e w' ⟨rfl, rfl⟩)
            all_goals
              rw [EW.out]
              go_wp2
              go_loopg [] 5 (fun g wr => ∃ h' d' : Int, 0 ≤ h' ∧ h' < 2 ^ g ∧ h' ≤ 31 ∧ d ≤ d' ∧ d' + g ≤ d + 5 ∧ (strip g h' d' = strip 5 (orb h k) d) ∧ Thr w wr #[.int .i64 n, .int .i64 a, .int .i64 (K : Int), .int .i64 m] #[.int .i64 kn, .int .i64 s, .int .i64 d', .int .i64 h', .int .i64 (-1), .int .i64 wo] #[.int .i64 0, .int .i64 0, .int .i64 0, .int .i64 0, .int .i64 0, .int .i64 0])
              case atStart => exact ⟨_, d, HHO.out.1, by show _ < (32 : Int); have := HHO.out.2; omega, by have := HHO.out.2; omega, Int.le_refl _, by omega, rfl, ((HT.out.drewN (nq + 1)).setL 3 _)⟩
              case round =>
                obtain ⟨h', d', a1, a2, a3, a4, a5, hst, hT⟩ := hrel
                have HST := Lib.hid hst
                have HT2 := Lib.hid hT
                have HP2 := Lib.hid a2
                obtain ⟨c0, c1, c2, c3, c4, c5⟩ := hT.l.c6
                obtain ⟨f0, f1, f2, f3, f4, f5⟩ := hT.l.f6
                obtain ⟨r0, r1, r2, r3, r4, r5⟩ := hT.r.c6
                obtain ⟨g0, g1, g2, g3, g4, g5⟩ := hT.r.f6
                have HB := hT.b
                have hz : w.heap.size + 1 + 1 < _ := hT.z
                clear hst hT a2
                rcases (show h' % 2 = 0 ∨ h' % 2 = 1 from by omega) with o | o
                · go_wp2
                  have HE : takeF ⟨n, a, K, m⟩ ⟨kn, s, d, h, da, wo⟩ = (⟨kn, s, d', h', -1, d'⟩, true) := by
                    (unfold takeF; simp only [Int.toNat_natCast]; rw [HF.out]; simp only [if_pos HQ.out])
                    have := HST.out
                    rw [strip_even o] at this
                    simp only [took]
                    rw [← this]
                  exact bodyPost_ret (results_row_tmp (p := 4) (u := 5) (ty := 35) rfl _ _ (w.heap.size + 1 + 1) 35 #[.int .i64 kn, .int .i64 s, .int .i64 d', .int .i64 h', .int .i64 (-1), .int .i64 d'] (0, 0) _ rfl (Blk.set6 (HT2.out.setL _ _).r _ _ _ _ _ _) Try.underlying35 rfl infoL) rfl ⟨by rw [← HR.out, HE]; rfl, (by repeat (first | (with_reducible exact Below.refl _ _) | (with_reducible assumption) | ((with_reducible refine Below.setCell ?_ ?_ _); rotate_left; focus (first | (simp; done) | (simp; omega))) | ((with_reducible refine Below.alloc ?_ ?_ _); rotate_left; focus (first | exact Nat.le_refl _ | (simp; done) | (simp; omega))) | (with_reducible refine belowD ?_ _)))⟩
                · obtain ⟨g', hg'⟩ : ∃ g', gk = g' + 1 := by
                    rcases gk with _ | g'
                    · have := HP2.out; simp at this; omega
                    · exact ⟨g', rfl⟩
                  have HG := Lib.hid hg'
                  clear hg'
                  go_wp2
                  go_roundg g'
                  case measure => have := HG.out; omega
                  case rel => exact ⟨h' / 2, d' + 1, by omega, by have h1 := HP2.out; rw [HG.out, Int.pow_succ] at h1; omega, by omega, by omega, by have := HG.out; omega, by have h1 := HST.out; rw [HG.out, strip_odd o] at h1; exact h1, ((HT2.out.setL 3 _).setL 2 _)⟩
          · have HOR := Lib.hid (show orb h k = h by unfold orb; rw [if_pos (by omega)])
            have b1 : (h / 2 ^ k % 2 == 0) = false := by simpa using b
            clear q b
            generalize hpw : (2 : Int) ^ k = pw at *
            have HPWE := Lib.hid hpw
            clear hpw
            go_wp2_with (go_at_call 54; refine (HBIT.out _).mono ?_; rintro e w' ⟨rfl, rfl⟩)
            go_loopg [] 5 (fun g wr => ∃ h' d' : Int, 0 ≤ h' ∧ h' < 2 ^ g ∧ h' ≤ 31 ∧ d ≤ d' ∧ d' + g ≤ d + 5 ∧ (strip g h' d' = strip 5 (h) d) ∧ Thr w wr #[.int .i64 n, .int .i64 a, .int .i64 (K : Int), .int .i64 m] #[.int .i64 kn, .int .i64 s, .int .i64 d', .int .i64 h', .int .i64 (-1), .int .i64 wo] #[.int .i64 0, .int .i64 0, .int .i64 0, .int .i64 0, .int .i64 0, .int .i64 0])
            case atStart => exact ⟨_, d, hh.1, by show _ < (32 : Int); have := hh.2; omega, by have := hh.2; omega, Int.le_refl _, by omega, rfl, HT1.out⟩
            case round =>
              obtain ⟨h', d', a1, a2, a3, a4, a5, hst, hT⟩ := hrel
              have HST := Lib.hid hst
              have HT2 := Lib.hid hT
              have HP2 := Lib.hid a2
              obtain ⟨c0, c1, c2, c3, c4, c5⟩ := hT.l.c6
              obtain ⟨f0, f1, f2, f3, f4, f5⟩ := hT.l.f6
              obtain ⟨r0, r1, r2, r3, r4, r5⟩ := hT.r.c6
              obtain ⟨g0, g1, g2, g3, g4, g5⟩ := hT.r.f6
              have HB := hT.b
              have hz : w.heap.size + 1 + 1 < _ := hT.z
              clear hst hT a2
              rcases (show h' % 2 = 0 ∨ h' % 2 = 1 from by omega) with o | o
              · go_wp2
                have HE : takeF ⟨n, a, K, m⟩ ⟨kn, s, d, h, da, wo⟩ = (⟨kn, s, d', h', -1, d'⟩, true) := by
                  (unfold takeF; simp only [Int.toNat_natCast]; rw [HF.out]; simp only [if_pos HQ.out]; rw [HOR.out])
                  have := HST.out
                  rw [strip_even o] at this
                  simp only [took]
                  rw [← this]
                exact bodyPost_ret (results_row_tmp (p := 4) (u := 5) (ty := 35) rfl _ _ (w.heap.size + 1 + 1) 35 #[.int .i64 kn, .int .i64 s, .int .i64 d', .int .i64 h', .int .i64 (-1), .int .i64 d'] (0, 0) _ rfl (Blk.set6 (HT2.out.setL _ _).r _ _ _ _ _ _) Try.underlying35 rfl infoL) rfl ⟨by rw [← HR.out, HE]; rfl, (by repeat (first | (with_reducible exact Below.refl _ _) | (with_reducible assumption) | ((with_reducible refine Below.setCell ?_ ?_ _); rotate_left; focus (first | (simp; done) | (simp; omega))) | ((with_reducible refine Below.alloc ?_ ?_ _); rotate_left; focus (first | exact Nat.le_refl _ | (simp; done) | (simp; omega))) | (with_reducible refine belowD ?_ _)))⟩
              · obtain ⟨g', hg'⟩ : ∃ g', gk = g' + 1 := by
                  rcases gk with _ | g'
                  · have := HP2.out; simp at this; omega
                  · exact ⟨g', rfl⟩
                have HG := Lib.hid hg'
                clear hg'
                go_wp2
                go_roundg g'
                case measure => have := HG.out; omega
                case rel => exact ⟨h' / 2, d' + 1, by omega, by have h1 := HP2.out; rw [HG.out, Int.pow_succ] at h1; omega, by omega, by omega, by have := HG.out; omega, by have h1 := HST.out; rw [HG.out, strip_odd o] at h1; exact h1, ((HT2.out.setL 3 _).setL 2 _)⟩
        · have q1 : (d + (k : Int) != da) = true := by simpa using q
          have HE : takeF ⟨n, a, K, m⟩ ⟨kn, s, d, h, da, wo⟩ = (⟨kn, s, d, h, -1, wo⟩, false) := by
            unfold takeF
            simp only [Int.toNat_natCast]
            rw [HF.out]
            simp [q]
          have HE' := Lib.hid HE
          clear HE q
          go_wp2
          exact bodyPost_ret (results_row_tmp (p := 4) (u := 5) (ty := 35) rfl _ _ (w.heap.size + 1 + 1) 35 #[.int .i64 kn, .int .i64 s, .int .i64 d, .int .i64 h, .int .i64 (-1), .int .i64 wo] (0, 0) _ rfl (Blk.set6 HT1.out.r _ _ _ _ _ _) Try.underlying35 rfl infoL) rfl ⟨by rw [← HR.out, HE'.out]; rfl, (by repeat (first | (with_reducible exact Below.refl _ _) | (with_reducible assumption) | ((with_reducible refine Below.setCell ?_ ?_ _); rotate_left; focus (first | (simp; done) | (simp; omega))) | ((with_reducible refine Below.alloc ?_ ?_ _); rotate_left; focus (first | exact Nat.le_refl _ | (simp; done) | (simp; omega))) | (with_reducible refine belowD ?_ _)))⟩
      · have e1 : ((d + (k : Int)) % n == da % n) = false := by simpa using e
        have e2 : ((d + (k : Int)) % n != da % n) = true := by simpa using e
        have HF := Lib.hid (HS.out.miss hlt e)
        clear e
        go_wp2
        go_quiet (fail)
        go_wp2
        go_roundg (K - (k + 1))
        case measure => have := HG.out; omega
        case rel => exact ⟨k + 1, by omega, rfl, by go_num, HF.out, HT.out.drewN nq⟩
    · have HN := Lib.hid (HS.out.none_ hlt)
      go_wp2
      go_loopg [] 5 (fun g wr => ∃ h' d' : Int, 0 ≤ h' ∧ h' < 2 ^ g ∧ h' ≤ 31 ∧ d ≤ d' ∧ d' + g ≤ d + 5 ∧ (strip g h' d' = strip 5 (h) d) ∧ Thr w wr #[.int .i64 n, .int .i64 a, .int .i64 (K : Int), .int .i64 m] #[.int .i64 kn, .int .i64 s, .int .i64 d', .int .i64 h', .int .i64 (-1), .int .i64 wo] #[.int .i64 0, .int .i64 0, .int .i64 0, .int .i64 0, .int .i64 0, .int .i64 0])
      case atStart => exact ⟨_, d, hh.1, by show _ < (32 : Int); have := hh.2; omega, by have := hh.2; omega, Int.le_refl _, by omega, rfl, HT.out⟩
      case round =>
        obtain ⟨h', d', a1, a2, a3, a4, a5, hst, hT⟩ := hrel
        have HST := Lib.hid hst
        have HT2 := Lib.hid hT
        have HP2 := Lib.hid a2
        obtain ⟨c0, c1, c2, c3, c4, c5⟩ := hT.l.c6
        obtain ⟨f0, f1, f2, f3, f4, f5⟩ := hT.l.f6
        obtain ⟨r0, r1, r2, r3, r4, r5⟩ := hT.r.c6
        obtain ⟨g0, g1, g2, g3, g4, g5⟩ := hT.r.f6
        have HB := hT.b
        have hz : w.heap.size + 1 + 1 < _ := hT.z
        clear hst hT a2
        rcases (show h' % 2 = 0 ∨ h' % 2 = 1 from by omega) with o | o
        · go_wp2
          have HE : takeF ⟨n, a, K, m⟩ ⟨kn, s, d, h, da, wo⟩ = (⟨kn, s, d', h', -1, d'⟩, true) := by
            (unfold takeF; simp only [Int.toNat_natCast]; rw [HN.out])
            have := HST.out
            rw [strip_even o] at this
            simp only [took]
            rw [← this]
          exact bodyPost_ret (results_row_tmp (p := 4) (u := 5) (ty := 35) rfl _ _ (w.heap.size + 1 + 1) 35 #[.int .i64 kn, .int .i64 s, .int .i64 d', .int .i64 h', .int .i64 (-1), .int .i64 d'] (0, 0) _ rfl (Blk.set6 (HT2.out.setL _ _).r _ _ _ _ _ _) Try.underlying35 rfl infoL) rfl ⟨by rw [← HR.out, HE]; rfl, (by repeat (first | (with_reducible exact Below.refl _ _) | (with_reducible assumption) | ((with_reducible refine Below.setCell ?_ ?_ _); rotate_left; focus (first | (simp; done) | (simp; omega))) | ((with_reducible refine Below.alloc ?_ ?_ _); rotate_left; focus (first | exact Nat.le_refl _ | (simp; done) | (simp; omega))) | (with_reducible refine belowD ?_ _)))⟩
        · obtain ⟨g', hg'⟩ : ∃ g', gk = g' + 1 := by
            rcases gk with _ | g'
            · have := HP2.out; simp at this; omega
            · exact ⟨g', rfl⟩
          have HG := Lib.hid hg'
          clear hg'
          go_wp2
          go_roundg g'
          case measure => have := HG.out; omega
          case rel => exact ⟨h' / 2, d' + 1, by omega, by have h1 := HP2.out; rw [HG.out, Int.pow_succ] at h1; omega, by omega, by omega, by have := HG.out; omega, by have h1 := HST.out; rw [HG.out, strip_odd o] at h1; exact h1, ((HT2.out.setL 3 _).setL 2 _)⟩


set_option maxHeartbeats 3200000 in
theorem shr_any (n a k m kn s d h da wo : Int) (r : Lk) (hr : hearF ⟨n, a, k, m⟩ ⟨kn, s, d, h, da, wo⟩ = r) (w : World) (hn : 2 ≤ n ∧ n ≤ 4) (hk : 0 ≤ kn ∧ kn ≤ s ∧ s ≤ 5) (hwo : 0 ≤ wo ∧ wo ≤ 5) :
    Calls Try.prog 45 #[.agg #[.int .i64 n, .int .i64 a, .int .i64 k, .int .i64 m], .agg #[.int .i64 kn, .int .i64 s, .int .i64 d, .int .i64 h, .int .i64 da, .int .i64 wo]] w fun e w' => e = .returned (lv r) ∧ Below w.heap.size w w' := by
  obtain ⟨N, hN, hN5⟩ : ∃ N : Nat, s = kn + N ∧ N ≤ 5 := ⟨(s - kn).toNat, by omega, by omega⟩
  have hNs : (s - kn).toNat = N := by omega
  have HR := Lib.hid hr
  have HN := Lib.hid hNs
  have hNle : kn + (N : Int) ≤ s := by omega
  have hNge : s ≤ kn + (N : Int) := by omega
  clear hr hNs hN
  go_enter Try.func45, Try.ntmps45
  go_wp2
  go_loopg [6] N (fun g kv wr => ∃ j : Nat, 1 ≤ j ∧ j ≤ N + 1 ∧ g = N + 1 - j ∧ kv = .int .i64 j ∧ SrchJ n kn wo N j ∧ Thr w wr #[.int .i64 n, .int .i64 a, .int .i64 k, .int .i64 m] #[.int .i64 kn, .int .i64 s, .int .i64 d, .int .i64 h, .int .i64 da, .int .i64 (-1)] #[.int .i64 0, .int .i64 0, .int .i64 0, .int .i64 0, .int .i64 0, .int .i64 0])
  case atStart => exact ⟨1, by omega, by omega, by omega, rfl, rfl, Thr.new w _ _ _⟩
  case round =>
    obtain ⟨j, hj1, hj, hg, rfl, hs, hT⟩ := hrel
    have HS := Lib.hid hs
    have HT := Lib.hid hT
    have HG := Lib.hid hg
    obtain ⟨p0, p1, p2, p3⟩ := hT.p.c4
    obtain ⟨c0, c1, c2, c3, c4, c5⟩ := hT.l.c6
    obtain ⟨f0, f1, f2, f3, f4, f5⟩ := hT.l.f6
    obtain ⟨r0, r1, r2, r3, r4, r5⟩ := hT.r.c6
    obtain ⟨g0, g1, g2, g3, g4, g5⟩ := hT.r.f6
    have HB := hT.b
    have hz : w.heap.size + 1 + 1 < _ := hT.z
    clear hs hT hg
    by_cases hlt : j ≤ N
    · have hle : (j : Int) ≤ s - kn := by omega
      have es : IntKind.i64.wrap (kn + (j : Int)) = kn + j := IntWalk.i64_in _ (by omega)
      have es0 : 0 ≤ kn + (j : Int) := by omega
      by_cases e : (kn + j) % n = wo % n
      · have e1 : ((kn + (j : Int)) % n == wo % n) = true := by simpa using e
        have HE := Lib.hid (show hearF ⟨n, a, k, m⟩ ⟨kn, s, d, h, da, wo⟩ = ⟨kn + j, s, d, h, da, -1⟩ by unfold hearF; simp only [HN.out]; rw [HS.out.hit hlt e])
        clear e
        go_wp2
        go_quiet (fail)
        have HT1 := Lib.hid (HT.out.drewN nq)
        go_wp2
        exact bodyPost_ret (results_cell_row (p := 4) (ty := 35) rfl _ _ (w.heap.size + 1 + 1) 35 #[.int .i64 (kn + (j : Int)), .int .i64 s, .int .i64 d, .int .i64 h, .int .i64 da, .int .i64 (-1)] (0, 0) _ rfl (Blk.set6 (HT1.out.setL _ _).r _ _ _ _ _ _) Try.underlying35 rfl infoL) rfl ⟨by rw [← HR.out, HE.out]; rfl, (by repeat (first | (with_reducible exact Below.refl _ _) | (with_reducible assumption) | ((with_reducible refine Below.setCell ?_ ?_ _); rotate_left; focus (first | (simp; done) | (simp; omega))) | ((with_reducible refine Below.alloc ?_ ?_ _); rotate_left; focus (first | exact Nat.le_refl _ | (simp; done) | (simp; omega))) | (with_reducible refine belowD ?_ _)))⟩
      · have e1 : ((kn + (j : Int)) % n == wo % n) = false := by simpa using e
        have HF := Lib.hid (HS.out.miss hlt e)
        clear e
        go_wp2
        go_quiet (fail)
        go_wp2
        go_roundg (N + 1 - (j + 1))
        case measure => have := HG.out; omega
        case rel => exact ⟨j + 1, by omega, by omega, rfl, by go_num, HF.out, HT.out.drewN nq⟩
    · have hle : ¬ (j : Int) ≤ s - kn := by omega
      have HE := Lib.hid (show hearF ⟨n, a, k, m⟩ ⟨kn, s, d, h, da, wo⟩ = ⟨kn, s, d, h, da, -1⟩ by unfold hearF; simp only [HN.out]; rw [HS.out.none_ hlt])
      go_wp2
      exact bodyPost_ret (results_cell_row (p := 4) (ty := 35) rfl _ _ (w.heap.size + 1 + 1) 35 #[.int .i64 kn, .int .i64 s, .int .i64 d, .int .i64 h, .int .i64 da, .int .i64 (-1)] (0, 0) _ rfl (Blk.set6 HT.out.r _ _ _ _ _ _) Try.underlying35 rfl infoL) rfl ⟨by rw [← HR.out, HE.out]; rfl, (by repeat (first | (with_reducible exact Below.refl _ _) | (with_reducible assumption) | ((with_reducible refine Below.setCell ?_ ?_ _); rotate_left; focus (first | (simp; done) | (simp; omega))) | ((with_reducible refine Below.alloc ?_ ?_ _); rotate_left; focus (first | exact Nat.le_refl _ | (simp; done) | (simp; omega))) | (with_reducible refine belowD ?_ _)))⟩
end Go.Proofs.Ytnbgfffcialfkaa
