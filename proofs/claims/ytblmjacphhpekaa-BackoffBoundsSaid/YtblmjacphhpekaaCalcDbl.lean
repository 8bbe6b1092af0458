/-
  Layer 1 (calc): the walk of Double.
-/
import Derived.Test.YtblmjacphhpekaaCalcAdd
import Derived.Deep.QuietTactic
import Derived.BigQuiet
namespace Go.Proofs.Ytblmjacphhpekaa.Calc
open Go.RowKit

theorem dbl_calls (base n most : Int) (w : World) :
    Calls Try.prog 20 #[.int .i64 base, .int .i64 n, .int .i64 most] w fun e w' => e = .returned (.tuple #[.int .i64 (dblV base n most), .int .i64 (dblC base n most)]) ∧ w = w' := by
  cases ha : isT base
  · have H : Hid (dblB base n most = false) := Lib.hid (by unfold dblB; rw [ha]; rfl)
    go_enter Try.func20, Try.ntmps20
    go_wp2_with (go_at_call 17; refine (is_calls _ _).mono ?_; rintro e w' ⟨rfl, rfl⟩)
    go_ret2
    exact ⟨ret_two (by rw [dblV, H.out]; rfl) (by rw [dblC, H.out]; rfl), rfl⟩
  · cases hb : isT most
    · have H : Hid (dblB base n most = false) := Lib.hid (by unfold dblB; rw [ha, hb]; rfl)
      go_enter Try.func20, Try.ntmps20
      go_wp2_with (go_at_call 17; refine (is_calls _ _).mono ?_; rintro e w' ⟨rfl, rfl⟩)
      go_ret2
      exact ⟨ret_two (by rw [dblV, H.out]; rfl) (by rw [dblC, H.out]; rfl), rfl⟩
    · by_cases hm : most < base
      · have H : Hid (dblB base n most = false) := Lib.hid (by unfold dblB; rw [ha, hb, decide_eq_false (by omega)]; rfl)
        go_enter Try.func20, Try.ntmps20
        go_wp2_with (go_at_call 17; refine (is_calls _ _).mono ?_; rintro e w' ⟨rfl, rfl⟩)
        go_ret2
        exact ⟨ret_two (by rw [dblV, H.out]; rfl) (by rw [dblC, H.out]; rfl), rfl⟩
      · by_cases hn : n < 0
        · have H : Hid (dblB base n most = false) := Lib.hid (by unfold dblB; rw [decide_eq_false (p := 0 ≤ n) (by omega)]; simp)
          go_enter Try.func20, Try.ntmps20
          go_wp2_with (go_at_call 17; refine (is_calls _ _).mono ?_; rintro e w' ⟨rfl, rfl⟩)
          go_ret2
          exact ⟨ret_two (by rw [dblV, H.out]; rfl) (by rw [dblC, H.out]; rfl), rfl⟩
        · obtain ⟨a0, a1⟩ := isT_iff.1 ha
          obtain ⟨b0, b1⟩ := isT_iff.1 hb
          have n0 : 0 ≤ n := by omega
          have H : Hid (dblB base n most = true) := Lib.hid (dblB_iff.2 ⟨ha, hb, by omega, n0⟩)
          have HC : Hid (dbl base (min n.toNat 64) most = dbl base n.toNat most) := Lib.hid (dbl_cap base most n a0 (by omega) b1)
          have hq : (most / 2 ^ (min n.toNat 64) < base) ↔ most < base * 2 ^ (min n.toNat 64) := Int.ediv_lt_iff_lt_mul (pow_pos _)
          by_cases hc : most / 2 ^ (min n.toNat 64) < base
          · have HV : Hid (dbl base (min n.toNat 64) most = most) := Lib.hid (by have := hq.1 hc; unfold dbl; omega)
            clear hq
            go_enter Try.func20, Try.ntmps20
            go_wp2_with (go_at_call 17; refine (is_calls _ _).mono ?_; rintro e w' ⟨rfl, rfl⟩)
            go_ret2
            exact ⟨ret_two (by rw [dblV, H.out, ← HC.out, HV.out]; rfl) (by rw [dblC, H.out]; rfl), rfl⟩
          · have HV : Hid (dbl base (min n.toNat 64) most = base * 2 ^ (min n.toNat 64)) := Lib.hid (by have := mt hq.2 hc; unfold dbl; omega)
            have p0 : 0 ≤ base * 2 ^ (min n.toNat 64) := Int.mul_nonneg a0 (by have := pow_pos (min n.toNat 64); omega)
            have p1 : base * 2 ^ (min n.toNat 64) ≤ 1099511627776 := by have := mt hq.2 hc; omega
            clear hq
            go_enter Try.func20, Try.ntmps20
            go_wp2_with (go_at_call 17; refine (is_calls _ _).mono ?_; rintro e w' ⟨rfl, rfl⟩)
            go_ret2
            exact ⟨ret_two (by rw [dblV, H.out, ← HC.out, HV.out]; rfl) (by rw [dblC, H.out]; rfl), rfl⟩
end Go.Proofs.Ytblmjacphhpekaa.Calc
