/-
  Layer 1 (calc): the walks of Mul, Div, Double, Hold, and of the document's own Mul and Double.
-/
import Derived.Test.YtffdlfkmkbckgaaCalcSums
import Derived.Deep.QuietTactic
import Derived.BigQuiet
namespace Go.Proofs.Ytffdlfkmkbckgaa.Calc
open Go.RowKit

theorem ret_three {a b c d e f : Int} (h : a = b) (g : c = d) (i : e = f) : Ending.returned (.tuple #[.int .i64 a, .int .i64 c, .int .i64 e]) = .returned (.tuple #[.int .i64 b, .int .i64 d, .int .i64 f]) := by rw [h, g, i]

theorem mul_calls (a b : Int) (w : World) :
    Calls Try.prog 14 #[.int .i64 a, .int .i64 b] w fun e w' => e = .returned (.tuple #[.int .i64 (mulV a b), .int .i64 (mulC a b)]) ∧ w = w' := by
  cases ha : isT a
  · have hc := mulC_one (a := a) (b := b) (.inl ha)
    have hv := mulV_none (a := a) (b := b) (by omega)
    have H := Lib.hid (And.intro hc hv); clear hc hv
    go_enter Try.func14, Try.ntmps14
    go_wp2_with (go_at_call 11; refine (is_calls _ _).mono ?_; rintro e w' ⟨rfl, rfl⟩)
    go_ret2
    exact ⟨ret_two H.out.2.symm H.out.1.symm, rfl⟩
  · cases hb : isT b
    · have hc := mulC_one (a := a) (b := b) (.inr hb)
      have hv := mulV_none (a := a) (b := b) (by omega)
      have H := Lib.hid (And.intro hc hv); clear hc hv
      go_enter Try.func14, Try.ntmps14
      go_wp2_with (go_at_call 11; refine (is_calls _ _).mono ?_; rintro e w' ⟨rfl, rfl⟩)
      go_ret2
      exact ⟨ret_two H.out.2.symm H.out.1.symm, rfl⟩
    · obtain ⟨a0, a1⟩ := isT_iff.1 ha
      obtain ⟨b0, b1⟩ := isT_iff.1 hb
      have p0 : 0 ≤ a * b := Int.mul_nonneg a0 b0
      by_cases hz : 0 < a
      · have hq : (1099511627776 / a < b) ↔ 1099511627776 < b * a := Int.ediv_lt_iff_lt_mul hz
        rw [Int.mul_comm b a] at hq
        have hd0 : 0 ≤ 1099511627776 / a := Int.ediv_nonneg (by omega) a0
        cases h : isT (a * b)
        · have hc := mulC_two ha hb h
          have hv := mulV_none (a := a) (b := b) (by omega)
          have hg : 1099511627776 / a < b := hq.2 (by have := isT_not.1 h; omega)
          have H := Lib.hid (And.intro hc hv); clear hc hv hq
          go_enter Try.func14, Try.ntmps14
          go_wp2_with (go_at_call 11; refine (is_calls _ _).mono ?_; rintro e w' ⟨rfl, rfl⟩)
          go_ret2
          exact ⟨ret_two H.out.2.symm H.out.1.symm, rfl⟩
        · have hc := mulC_nought ha hb h
          have hv := mulV_some hc
          have p1 : a * b ≤ 1099511627776 := (isT_iff.1 h).2
          have hg : ¬ 1099511627776 / a < b := fun g => by have := hq.1 g; omega
          have H := Lib.hid (And.intro hc hv); clear hc hv hq
          go_enter Try.func14, Try.ntmps14
          go_wp2_with (go_at_call 11; refine (is_calls _ _).mono ?_; rintro e w' ⟨rfl, rfl⟩)
          go_ret2
          exact ⟨ret_two H.out.2.symm H.out.1.symm, rfl⟩
      · obtain rfl : a = 0 := by omega
        have hc := mulC_nought (a := 0) (b := b) ha hb (by rw [Int.zero_mul]; decide)
        have hv := mulV_some hc
        rw [Int.zero_mul] at hv
        have H := Lib.hid (And.intro hc hv); clear hc hv
        go_enter Try.func14, Try.ntmps14
        go_wp2_with (go_at_call 11; refine (is_calls _ _).mono ?_; rintro e w' ⟨rfl, rfl⟩)
        go_ret2
        exact ⟨ret_two H.out.2.symm H.out.1.symm, rfl⟩

theorem div_calls (a b : Int) (w : World) :
    Calls Try.prog 16 #[.int .i64 a, .int .i64 b] w fun e w' => e = .returned (.tuple #[.int .i64 (divQ a b), .int .i64 (divR a b), .int .i64 (divC a b)]) ∧ ∃ n, w' = w.drewN n := by
  cases ha : isT a
  · have H : Hid (divB a b = false) := Lib.hid (by unfold divB; rw [ha]; rfl)
    go_enter Try.func16, Try.ntmps16
    go_wp2_with (go_at_call 11; refine (is_calls _ _).mono ?_; rintro e w' ⟨rfl, rfl⟩)
    go_ret3
    exact ⟨ret_three (by rw [divQ, H.out]; rfl) (by rw [divR, H.out]; rfl) (by rw [divC, H.out]; rfl), 0, rfl⟩
  · cases hb : isT b
    · have H : Hid (divB a b = false) := Lib.hid (by unfold divB; rw [ha, hb]; rfl)
      go_enter Try.func16, Try.ntmps16
      go_wp2_with (go_at_call 11; refine (is_calls _ _).mono ?_; rintro e w' ⟨rfl, rfl⟩)
      go_ret3
      exact ⟨ret_three (by rw [divQ, H.out]; rfl) (by rw [divR, H.out]; rfl) (by rw [divC, H.out]; rfl), 0, rfl⟩
    · obtain ⟨a0, a1⟩ := isT_iff.1 ha
      obtain ⟨b0, b1⟩ := isT_iff.1 hb
      by_cases hz : b = 0
      · subst hz
        have H : Hid (divB a 0 = false) := Lib.hid (by unfold divB; simp)
        go_enter Try.func16, Try.ntmps16
        go_wp2_with (go_at_call 11; refine (is_calls _ _).mono ?_; rintro e w' ⟨rfl, rfl⟩)
        go_ret3
        exact ⟨ret_three (by rw [divQ, H.out]; rfl) (by rw [divR, H.out]; rfl) (by rw [divC, H.out]; rfl), 0, rfl⟩
      · have H : Hid (divB a b = true) := Lib.hid (divB_iff.2 ⟨ha, hb, hz⟩)
        have hpos : 0 < b := by omega
        have hne : (b == 0) = false := by simpa using hz
        clear hz
        have q0 : 0 ≤ a / b := Int.ediv_nonneg a0 b0
        have q1 : a / b ≤ a := Int.ediv_le_self b a0
        have r0 : 0 ≤ a % b := Int.emod_nonneg a (by omega)
        have r1 : a % b < b := Int.emod_lt_of_pos a hpos
        go_enter Try.func16, Try.ntmps16
        go_wp2_with (go_at_call 11; refine (is_calls _ _).mono ?_; rintro e w' ⟨rfl, rfl⟩)
        go_quiet (fail)
        go_wp2
        go_ret3
        exact ⟨ret_three (by rw [divQ, H.out]; rfl) (by rw [divR, H.out]; rfl) (by rw [divC, H.out]; rfl), _, rfl⟩

theorem hold_calls (n low high : Int) (w : World) :
    Calls Try.prog 21 #[.int .i64 n, .int .i64 low, .int .i64 high] w fun e w' => e = .returned (.int .i64 (hold n low high)) ∧ w = w' := by
  by_cases h1 : n < low
  · have H : Hid (hold n low high = low) := Lib.hid (by unfold hold; rw [if_pos (.inl h1)])
    go_enter Try.func21, Try.ntmps21
    go_wp2
    go_ret
    exact ⟨by rw [H.out]; rfl, rfl⟩
  · by_cases h2 : high < low
    · have H : Hid (hold n low high = low) := Lib.hid (by unfold hold; rw [if_pos (.inr h2)])
      go_enter Try.func21, Try.ntmps21
      go_wp2
      go_ret
      exact ⟨by rw [H.out]; rfl, rfl⟩
    · by_cases h3 : high < n
      · have H : Hid (hold n low high = high) := Lib.hid (by unfold hold; rw [if_neg (by omega), if_pos h3])
        go_enter Try.func21, Try.ntmps21
        go_wp2
        go_ret
        exact ⟨by rw [H.out]; rfl, rfl⟩
      · have H : Hid (hold n low high = n) := Lib.hid (by unfold hold; rw [if_neg (by omega), if_neg h3])
        go_enter Try.func21, Try.ntmps21
        go_wp2
        go_ret
        exact ⟨by rw [H.out]; rfl, rfl⟩

theorem dbl_calls (base n most : Int) (w : World) :
    Calls Try.prog 17 #[.int .i64 base, .int .i64 n, .int .i64 most] w fun e w' => e = .returned (.tuple #[.int .i64 (dblV base n most), .int .i64 (dblC base n most)]) ∧ w = w' := by
  cases ha : isT base
  · have H : Hid (dblB base n most = false) := Lib.hid (by unfold dblB; rw [ha]; rfl)
    go_enter Try.func17, Try.ntmps17
    go_wp2_with (go_at_call 11; refine (is_calls _ _).mono ?_; rintro e w' ⟨rfl, rfl⟩)
    go_ret2
    exact ⟨ret_two (by rw [dblV, H.out]; rfl) (by rw [dblC, H.out]; rfl), rfl⟩
  · cases hb : isT most
    · have H : Hid (dblB base n most = false) := Lib.hid (by unfold dblB; rw [ha, hb]; rfl)
      go_enter Try.func17, Try.ntmps17
      go_wp2_with (go_at_call 11; refine (is_calls _ _).mono ?_; rintro e w' ⟨rfl, rfl⟩)
      go_ret2
      exact ⟨ret_two (by rw [dblV, H.out]; rfl) (by rw [dblC, H.out]; rfl), rfl⟩
    · by_cases hm : most < base
      · have H : Hid (dblB base n most = false) := Lib.hid (by unfold dblB; rw [ha, hb, decide_eq_false (by omega)]; rfl)
        go_enter Try.func17, Try.ntmps17
        go_wp2_with (go_at_call 11; refine (is_calls _ _).mono ?_; rintro e w' ⟨rfl, rfl⟩)
        go_ret2
        exact ⟨ret_two (by rw [dblV, H.out]; rfl) (by rw [dblC, H.out]; rfl), rfl⟩
      · by_cases hn : n < 0
        · have H : Hid (dblB base n most = false) := Lib.hid (by unfold dblB; rw [decide_eq_false (p := 0 ≤ n) (by omega)]; simp)
          go_enter Try.func17, Try.ntmps17
          go_wp2_with (go_at_call 11; refine (is_calls _ _).mono ?_; rintro e w' ⟨rfl, rfl⟩)
          go_ret2
          exact ⟨ret_two (by rw [dblV, H.out]; rfl) (by rw [dblC, H.out]; rfl), rfl⟩
        · obtain ⟨a0, a1⟩ := isT_iff.1 ha
          obtain ⟨b0, b1⟩ := isT_iff.1 hb
          have n0 : 0 ≤ n := by omega
          have H : Hid (dblB base n most = true) := Lib.hid (dblB_iff.2 ⟨ha, hb, by omega, n0⟩)
          have HC : Hid (dbl base (min n.toNat 64) most = dbl base n.toNat most) := Lib.hid (dbl_cap base most n a0 (by omega) b1)
          have hq : (most / 2 ^ (min n.toNat 64) < base) ↔ most < base * 2 ^ (min n.toNat 64) := Int.ediv_lt_iff_lt_mul (pow_pos _)
          by_cases hc : most / 2 ^ (min n.toNat 64) < base
          · have HV : Hid (dbl base (min n.toNat 64) most = most) := Lib.hid (by have := hq.1 hc; unfold dbl; omega)
            clear hq
            go_enter Try.func17, Try.ntmps17
            go_wp2_with (go_at_call 11; refine (is_calls _ _).mono ?_; rintro e w' ⟨rfl, rfl⟩)
            go_ret2
            exact ⟨ret_two (by rw [dblV, H.out, ← HC.out, HV.out]; rfl) (by rw [dblC, H.out]; rfl), rfl⟩
          · have HV : Hid (dbl base (min n.toNat 64) most = base * 2 ^ (min n.toNat 64)) := Lib.hid (by have := mt hq.2 hc; unfold dbl; omega)
            have p0 : 0 ≤ base * 2 ^ (min n.toNat 64) := Int.mul_nonneg a0 (by have := pow_pos (min n.toNat 64); omega)
            have p1 : base * 2 ^ (min n.toNat 64) ≤ 1099511627776 := by have := mt hq.2 hc; omega
            clear hq
            go_enter Try.func17, Try.ntmps17
            go_wp2_with (go_at_call 11; refine (is_calls _ _).mono ?_; rintro e w' ⟨rfl, rfl⟩)
            go_ret2
            exact ⟨ret_two (by rw [dblV, H.out, ← HC.out, HV.out]; rfl) (by rw [dblC, H.out]; rfl), rfl⟩

end Go.Proofs.Ytffdlfkmkbckgaa.Calc
