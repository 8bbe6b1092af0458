/-
  Layer 1 (calc): the walks of the four laws.
-/
import Derived.Test.YtffdlfkmkbckgaaCalcLoops
import Derived.Test.YtffdlfkmkbckgaaCalcWorks
namespace Go.Proofs.Ytffdlfkmkbckgaa.Calc
open Go.RowKit

theorem grown_drewN (w : World) (n : Nat) : Grown w (w.drewN n) := Grown.refl w

set_option maxHeartbeats 400000 in
theorem sums_walk (a b : Int) (w : World) :
    Calls Try.prog 3 #[.int .i64 a, .int .i64 b] w fun e w' => e = .returned (.bool true) ∧ ∃ n, w' = w.drewN n := by
  by_cases hc : addC a b = 0
  · obtain ⟨ha, hb, hs⟩ := addC_inv hc
    have hv := addV_some hc
    have h1 : subC (a + b) b = 0 := subC_nought hs hb (by have := (isT_iff.1 ha).1; omega)
    have h2 : subV (a + b) b = a := by rw [subV_some h1]; omega
    clear ha hb hs
    go_enter Try.func3, Try.ntmps3
    go_wp2_with (first | (go_at_call 7; refine (add_calls _ _ _).mono ?_; rintro e w' ⟨rfl, rfl⟩) | (go_at_call 8; refine (radd_calls _ _ _).mono ?_; rintro e w' ⟨rfl, rfl⟩) | (go_at_call 9; refine (sub_calls _ _ _).mono ?_; rintro e w' ⟨rfl, rfl⟩) | (go_at_call 10; refine (rsub_calls _ _ _).mono ?_; rintro e w' ⟨rfl, rfl⟩) | (go_at_call 11; refine (is_calls _ _).mono ?_; rintro e w' ⟨rfl, rfl⟩) | (go_at_call 12; refine (ris_calls _ _).mono ?_; rintro e w' ⟨rfl, rfl⟩) | (go_at_call 13; refine (works_calls _).mono ?_; rintro e w' ⟨rfl, nq, rfl⟩))
    go_ret
    exact ⟨rfl, _, rfl⟩
  · have h1 : (addC a b == 0) = false := by simpa using hc
    go_enter Try.func3, Try.ntmps3
    go_wp2_with (first | (go_at_call 7; refine (add_calls _ _ _).mono ?_; rintro e w' ⟨rfl, rfl⟩) | (go_at_call 8; refine (radd_calls _ _ _).mono ?_; rintro e w' ⟨rfl, rfl⟩) | (go_at_call 9; refine (sub_calls _ _ _).mono ?_; rintro e w' ⟨rfl, rfl⟩) | (go_at_call 10; refine (rsub_calls _ _ _).mono ?_; rintro e w' ⟨rfl, rfl⟩) | (go_at_call 11; refine (is_calls _ _).mono ?_; rintro e w' ⟨rfl, rfl⟩) | (go_at_call 12; refine (ris_calls _ _).mono ?_; rintro e w' ⟨rfl, rfl⟩) | (go_at_call 13; refine (works_calls _).mono ?_; rintro e w' ⟨rfl, nq, rfl⟩))
    go_ret
    exact ⟨rfl, _, rfl⟩

theorem div_back {a b : Int} (hb : isT b = true) (h : 0 < b) (hp : isT (a * b) = true) : divQ (a * b) b = a ∧ divR (a * b) b = 0 ∧ divC (a * b) b = 0 := by
  have := divB_iff.2 ⟨hp, hb, show b ≠ 0 by omega⟩
  unfold divQ divR divC
  rw [if_pos this, if_pos this, if_pos this]
  exact ⟨Int.mul_ediv_cancel a (by omega), Int.mul_emod_left a b, rfl⟩

theorem div_fine {a b : Int} (ha : isT a = true) (hb : isT b = true) (h : 0 < b) : divC a b = 0 ∧ 0 ≤ divQ a b * b ∧ divQ a b * b ≤ a ∧ divQ a b * b + divR a b = a ∧ 0 ≤ divR a b ∧ divR a b < b := by
  have hB := divB_iff.2 ⟨ha, hb, show b ≠ 0 by omega⟩
  have a0 := (isT_iff.1 ha).1
  unfold divQ divR divC
  rw [if_pos hB, if_pos hB, if_pos hB]
  have h1 := Int.ediv_mul_add_emod a b
  have h2 := Int.emod_nonneg a (show b ≠ 0 by omega)
  have h3 := Int.emod_lt_of_pos a h
  have h4 := Int.mul_nonneg (Int.ediv_nonneg a0 (show 0 ≤ b by omega)) (show 0 ≤ b by omega)
  omega

theorem div_none {a b : Int} (h : divB a b = false) : divQ a b = 0 ∧ divR a b = 0 ∧ divC a b = 1 := by
  unfold divQ divR divC; simp [h]

set_option maxHeartbeats 1000000 in
theorem products_walk (a b : Int) (w : World) :
    Calls Try.prog 4 #[.int .i64 a, .int .i64 b] w fun e w' => e = .returned (.bool true) ∧ ∃ n, w' = w.drewN n := by
  by_cases hf : isT a = true ∧ isT b = true ∧ 0 < b
  · obtain ⟨ha, hb, h0⟩ := hf
    obtain ⟨f1, f2, f3, f4, f5, f6⟩ := div_fine ha hb h0
    obtain ⟨a0, a1⟩ := isT_iff.1 ha
    obtain ⟨b0, b1⟩ := isT_iff.1 hb
    by_cases hc : mulC a b = 0
    · obtain ⟨g1, g2, g3⟩ := div_back hb h0 (mulC_inv hc).2.2
      have hv := mulV_some hc
      rw [← hv] at g1 g2 g3
      clear hv
      go_enter Try.func4, Try.ntmps4
      go_wp2_with (first | (go_at_call 14; refine (mul_calls _ _ _).mono ?_; rintro e w' ⟨rfl, rfl⟩) | (go_at_call 15; refine (rmul_calls _ _ _).mono ?_; rintro e w' ⟨rfl, rfl⟩) | (go_at_call 16; refine (div_calls _ _ _).mono ?_; rintro e w' ⟨rfl, nq, rfl⟩) | (go_at_call 12; refine (ris_calls _ _).mono ?_; rintro e w' ⟨rfl, rfl⟩) | (go_at_call 13; refine (works_calls _).mono ?_; rintro e w' ⟨rfl, nq, rfl⟩))
      go_ret
      exact ⟨rfl, _, rfl⟩
    · have h1 : (mulC a b == 0) = false := by simpa using hc
      go_enter Try.func4, Try.ntmps4
      go_wp2_with (first | (go_at_call 14; refine (mul_calls _ _ _).mono ?_; rintro e w' ⟨rfl, rfl⟩) | (go_at_call 15; refine (rmul_calls _ _ _).mono ?_; rintro e w' ⟨rfl, rfl⟩) | (go_at_call 16; refine (div_calls _ _ _).mono ?_; rintro e w' ⟨rfl, nq, rfl⟩) | (go_at_call 12; refine (ris_calls _ _).mono ?_; rintro e w' ⟨rfl, rfl⟩) | (go_at_call 13; refine (works_calls _).mono ?_; rintro e w' ⟨rfl, nq, rfl⟩))
      go_ret
      exact ⟨rfl, _, rfl⟩
  · have hn : divB a b = false := by
      cases h : divB a b
      · rfl
      · obtain ⟨h1, h2, h3⟩ := divB_iff.1 h
        exact absurd ⟨h1, h2, by have := (isT_iff.1 h2).1; omega⟩ hf
    obtain ⟨f1, f2, f3⟩ := div_none hn
    clear hn
    cases ha : isT a
    · have hc : ¬ mulC a b = 0 := fun h => by have := (mulC_inv h).1; rw [ha] at this; exact absurd this (by decide)
      have h1 : (mulC a b == 0) = false := by simpa using hc
      clear hf
      go_enter Try.func4, Try.ntmps4
      go_wp2_with (first | (go_at_call 14; refine (mul_calls _ _ _).mono ?_; rintro e w' ⟨rfl, rfl⟩) | (go_at_call 15; refine (rmul_calls _ _ _).mono ?_; rintro e w' ⟨rfl, rfl⟩) | (go_at_call 16; refine (div_calls _ _ _).mono ?_; rintro e w' ⟨rfl, nq, rfl⟩) | (go_at_call 12; refine (ris_calls _ _).mono ?_; rintro e w' ⟨rfl, rfl⟩) | (go_at_call 13; refine (works_calls _).mono ?_; rintro e w' ⟨rfl, nq, rfl⟩))
      go_ret
      exact ⟨rfl, _, rfl⟩
    · cases hb : isT b
      · have hc : ¬ mulC a b = 0 := fun h => by have := (mulC_inv h).2.1; rw [hb] at this; exact absurd this (by decide)
        have h1 : (mulC a b == 0) = false := by simpa using hc
        clear hf
        go_enter Try.func4, Try.ntmps4
        go_wp2_with (first | (go_at_call 14; refine (mul_calls _ _ _).mono ?_; rintro e w' ⟨rfl, rfl⟩) | (go_at_call 15; refine (rmul_calls _ _ _).mono ?_; rintro e w' ⟨rfl, rfl⟩) | (go_at_call 16; refine (div_calls _ _ _).mono ?_; rintro e w' ⟨rfl, nq, rfl⟩) | (go_at_call 12; refine (ris_calls _ _).mono ?_; rintro e w' ⟨rfl, rfl⟩) | (go_at_call 13; refine (works_calls _).mono ?_; rintro e w' ⟨rfl, nq, rfl⟩))
        go_ret
        exact ⟨rfl, _, rfl⟩
      · have h0 : ¬ 0 < b := fun h => hf ⟨ha, hb, h⟩
        obtain rfl : b = 0 := by have := (isT_iff.1 hb).1; omega
        have hc : mulC a 0 = 0 := mulC_nought ha hb (by rw [Int.mul_zero]; decide)
        have hv : mulV a 0 = 0 := by rw [mulV_some hc, Int.mul_zero]
        have g1 : divQ 0 0 = 0 := by decide
        have g2 : divR 0 0 = 0 := by decide
        have g3 : divC 0 0 = 1 := by decide
        clear hf h0
        go_enter Try.func4, Try.ntmps4
        go_wp2_with (first | (go_at_call 14; refine (mul_calls _ _ _).mono ?_; rintro e w' ⟨rfl, rfl⟩) | (go_at_call 15; refine (rmul_calls _ _ _).mono ?_; rintro e w' ⟨rfl, rfl⟩) | (go_at_call 16; refine (div_calls _ _ _).mono ?_; rintro e w' ⟨rfl, nq, rfl⟩) | (go_at_call 12; refine (ris_calls _ _).mono ?_; rintro e w' ⟨rfl, rfl⟩) | (go_at_call 13; refine (works_calls _).mono ?_; rintro e w' ⟨rfl, nq, rfl⟩))
        go_ret
        exact ⟨rfl, _, rfl⟩

theorem dbl_next {base n most : Int} (h : dblC base n most = 0) : dblC base (n + 1) most = 0 ∧ dblV base n most ≤ dblV base (n + 1) most ∧ dblV base (n + 1) most ≤ dblV base n most + dblV base n most ∧ dblV base (n + 1) most ≤ most ∧ base ≤ dblV base n most ∧ 0 ≤ dblV base n most ∧ dblV base n most ≤ 1099511627776 ∧ 0 ≤ n := by
  have hB : dblB base n most = true := by
    unfold dblC at h
    split at h
    · assumption
    · omega
  obtain ⟨h1, h2, h3, h4⟩ := dblB_iff.1 hB
  have hB' : dblB base (n + 1) most = true := dblB_iff.2 ⟨h1, h2, h3, by omega⟩
  obtain ⟨a0, a1⟩ := isT_iff.1 h1
  obtain ⟨b0, b1⟩ := isT_iff.1 h2
  have m := dbl_mono base n.toNat most a0 h3
  have s := dbl_succ base n.toNat most a0 b0
  unfold dblV dblC
  rw [if_pos hB, if_pos hB', if_pos hB', show (n + 1).toNat = n.toNat + 1 by omega, s]
  omega

set_option maxHeartbeats 1000000 in
theorem doubles_walk (base n most : Int) (w : World) :
    Calls Try.prog 5 #[.int .i64 base, .int .i64 n, .int .i64 most] w fun e w' => e = .returned (.bool true) ∧ ∃ n, w' = w.drewN n := by
  by_cases hc : dblC base n most = 0
  · obtain ⟨f1, f2, f3, f4, f5, f6, f7, f8⟩ := dbl_next hc
    by_cases hn : n ≤ 1099511627776
    · go_enter Try.func5, Try.ntmps5
      go_wp2_with (first | (go_at_call 17; refine (dbl_calls _ _ _ _).mono ?_; rintro e w' ⟨rfl, rfl⟩) | (go_at_call 18; refine (rdbl_calls _ _ _ _).mono ?_; rintro e w' ⟨rfl, rfl⟩) | (go_at_call 13; refine (works_calls _).mono ?_; rintro e w' ⟨rfl, nq, rfl⟩))
      go_ret
      exact ⟨rfl, _, rfl⟩
    · go_enter Try.func5, Try.ntmps5
      go_wp2_with (first | (go_at_call 17; refine (dbl_calls _ _ _ _).mono ?_; rintro e w' ⟨rfl, rfl⟩) | (go_at_call 18; refine (rdbl_calls _ _ _ _).mono ?_; rintro e w' ⟨rfl, rfl⟩) | (go_at_call 13; refine (works_calls _).mono ?_; rintro e w' ⟨rfl, nq, rfl⟩))
      go_ret
      exact ⟨rfl, _, rfl⟩
  · have h1 : (dblC base n most == 0) = false := by simpa using hc
    go_enter Try.func5, Try.ntmps5
    go_wp2_with (first | (go_at_call 17; refine (dbl_calls _ _ _ _).mono ?_; rintro e w' ⟨rfl, rfl⟩) | (go_at_call 18; refine (rdbl_calls _ _ _ _).mono ?_; rintro e w' ⟨rfl, rfl⟩) | (go_at_call 13; refine (works_calls _).mono ?_; rintro e w' ⟨rfl, nq, rfl⟩))
    go_ret
    exact ⟨rfl, _, rfl⟩

set_option maxHeartbeats 1000000 in
theorem totals_walk (a : Option Addr) (len cap : Nat) (zs : List Int) (low high : Int) (w : World) (hr : IsRow w a len cap zs) :
    Calls Try.prog 6 #[.slice a len cap, .int .i64 low, .int .i64 high] w fun e w' => e = .returned (.bool true) ∧ ∃ n, w' = w.drewN n := by
  have HR := Lib.hid hr
  have HF : Hid (total 0 (zs.take len) = total 0 (zs.take len)) := Lib.hid rfl
  by_cases h200 : len ≤ 200
  · go_enter Try.func6, Try.ntmps6
    go_wp2_with (first | (go_at_call 19; refine (total_calls _ _ _ zs _ HR.out).mono ?_; rintro e w' ⟨rfl, rfl⟩) | (go_at_call 20; refine (rtotal_calls _ _ _ zs _ HR.out).mono ?_; rintro e w' ⟨rfl, rfl⟩))
    go_loop [11] (fun i => ∃ k : Nat, k ≤ len ∧ i = .int .i64 k) (fun i => len - (intOf i).toNat)
    case atStart => exact ⟨0, Nat.zero_le _, rfl⟩
    case round =>
      obtain ⟨k, hk, rfl⟩ := hrel
      by_cases hlt : k < len
      · rcases hr with rfl | ⟨b, off, rfl, hl, hm, hz, hcell, -⟩
        · omega
        · have hc := hcell k (by omega)
          clear hcell
          generalize zs.getD k 0 = x at hc
          by_cases h1 : high < low
          · have hh : hold x low high = low := by unfold hold; rw [if_pos (.inr h1)]
            go_wp2_with (go_at_call 21; refine (hold_calls _ _ _ _).mono ?_; rintro e w' ⟨rfl, rfl⟩)
            go_round
            case rel => exact ⟨k + 1, by omega, by go_num⟩
            case measure => simp [intOf]; omega
          · by_cases h2 : x < low
            · have hh : hold x low high = low := by unfold hold; rw [if_pos (.inl h2)]
              go_wp2_with (go_at_call 21; refine (hold_calls _ _ _ _).mono ?_; rintro e w' ⟨rfl, rfl⟩)
              go_round
              case rel => exact ⟨k + 1, by omega, by go_num⟩
              case measure => simp [intOf]; omega
            · by_cases h3 : high < x
              · have hh : hold x low high = high := by unfold hold; rw [if_neg (by omega), if_pos h3]
                go_wp2_with (go_at_call 21; refine (hold_calls _ _ _ _).mono ?_; rintro e w' ⟨rfl, rfl⟩)
                go_round
                case rel => exact ⟨k + 1, by omega, by go_num⟩
                case measure => simp [intOf]; omega
              · have hh : hold x low high = x := by unfold hold; rw [if_neg (by omega), if_neg h3]
                go_wp2_with (go_at_call 21; refine (hold_calls _ _ _ _).mono ?_; rintro e w' ⟨rfl, rfl⟩)
                go_round
                case rel => exact ⟨k + 1, by omega, by go_num⟩
                case measure => simp [intOf]; omega
      · clear hr
        go_wp2_with (go_at_call 13; refine (works_calls _).mono ?_; rintro e w' ⟨rfl, nq, rfl⟩)
        go_ret
        exact ⟨rfl, _, rfl⟩
  · clear hr
    go_enter Try.func6, Try.ntmps6
    go_wp2_with (go_at_call 13; refine (works_calls _).mono ?_; rintro e w' ⟨rfl, nq, rfl⟩)
    go_ret
    exact ⟨rfl, _, rfl⟩

end Go.Proofs.Ytffdlfkmkbckgaa.Calc
