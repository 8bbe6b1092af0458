/-
  Layer 3 (clock): the program's Date, Time and Weekday, walked.
-/
import Derived.Test.YtbjlnaobmgbpfaaDoorClockProg
import Derived.Test.YtbjlnaobmgbpfaaDoorClockRefS
namespace Go.Proofs.YtbjlnaobmgbpfaaDoor.Clock
open Go.RowKit Go.Proofs.YtbjlnaobmgbpfaaDoor.Digit

theorem date_none (n : Int) (h : n < 0 ∨ 252455615999 < n) (w : World) :
    Calls Tryd.prog 41 #[.int .i64 n] w fun e w' => e = .returned (.tuple #[.int .i64 0, .int .i64 0, .int .i64 0]) ∧ w = w' := by
  go_enter Tryd.func41, Tryd.ntmps41
  go_wp2_with (go_at_call 40; refine (has_no _ h _).mono ?_; rintro e w' ⟨rfl, rfl⟩)
  go_ret3
  exact ⟨rfl, rfl⟩
theorem time_none (n : Int) (h : n < 0 ∨ 252455615999 < n) (w : World) :
    Calls Tryd.prog 48 #[.int .i64 n] w fun e w' => e = .returned (.tuple #[.int .i64 0, .int .i64 0, .int .i64 0]) ∧ w = w' := by
  go_enter Tryd.func48, Tryd.ntmps48
  go_wp2_with (go_at_call 40; refine (has_no _ h _).mono ?_; rintro e w' ⟨rfl, rfl⟩)
  go_ret3
  exact ⟨rfl, rfl⟩
theorem time_some (n : Int) (h0 : 0 ≤ n) (h1 : n ≤ 252455615999) (w : World) :
    Calls Tryd.prog 48 #[.int .i64 n] w fun e w' => e = .returned (.tuple #[.int .i64 (n % 86400 / 3600), .int .i64 (n % 3600 / 60), .int .i64 (n % 60)]) ∧ w = w' := by
  go_enter Tryd.func48, Tryd.ntmps48
  go_wp2_with (go_at_call 40; refine (has_yes _ (by omega) (by omega) _).mono ?_; rintro e w' ⟨rfl, rfl⟩)
  go_ret3
  exact ⟨rfl, rfl⟩
theorem dty_guess {k : Int} (h0 : 0 ≤ k) (h1 : k < 2921940) : dty (2000 + k / 366) ≤ k := by
  unfold dty lp; rw [if_neg (by omega)]; omega

set_option maxRecDepth 100000 in
set_option maxHeartbeats 1000000 in
theorem date_some (n y m d : Int) (h0 : 0 ≤ n) (h1 : n ≤ 252455615999) (hd : IsDay (n / 86400) y m d) (w : World) (hM : Months w) :
    Calls Tryd.prog 41 #[.int .i64 n] w fun e w' => e = .returned (.tuple #[.int .i64 y, .int .i64 m, .int .i64 d]) ∧ w = w' := by
  have hy9 := isday_9999 (k := (n / 86400).toNat) (by rwa [show ((n / 86400).toNat : Int) = n / 86400 by omega]) (by omega)
  obtain ⟨y1, y2⟩ := isday_year hd
  obtain ⟨h2000, m1, m2, d1, d2, hk⟩ := hd
  have hg := dty_guess (k := n / 86400) (by omega) (by omega)
  have hgy := year_le hg y2 h2000
  have HM := Lib.hid hM
  have HK := Lib.hid hk
  clear hk hM
  go_enter Tryd.func41, Tryd.ntmps41
  go_wp2_with (go_at_call 40; refine (has_yes _ (by omega) (by omega) _).mono ?_; rintro e w' ⟨rfl, rfl⟩)
  go_loop [6] (fun z => ∃ c : Int, 2000 ≤ c ∧ c ≤ y ∧ z = .int .i64 c) (fun z => (10000 - intOf z).toNat)
  case atStart => exact ⟨_, by omega, hgy, by go_num⟩
  case round =>
    obtain ⟨c, hc1, hc2, rfl⟩ := hrel
    by_cases hlt : c < y
    · have hdc := dty_bd (y := c + 1) (by omega) (by omega)
      have hle : dty (c + 1) ≤ n / 86400 := by
        have := dty_mono (a := c + 1) (b := y) (by omega) (by omega); omega
      go_wp2_with (go_at_call 44; refine (dty_calls _ (by omega) (by omega) _).mono ?_; rintro e w' ⟨rfl, rfl⟩)
      go_round
      case rel => exact ⟨c + 1, by omega, by omega, rfl⟩
      case measure => simp [intOf]; omega
    · obtain rfl : y = c := by omega
      have hdy := dty_bd (y := y) (by omega) (by omega)
      go_wp2_with (go_at_call 44; refine (dty_calls _ (by omega) (by omega) _).mono ?_; rintro e w' ⟨rfl, rfl⟩)
      go_loop [5, 7] (fun x z => ∃ j : Int, 1 ≤ j ∧ j ≤ m ∧ z = .int .i64 j ∧ x = .int .i64 (n / 86400 - dty y - cum y j)) (fun _ z => (12 - intOf z).toNat)
      case atStart => exact ⟨1, by omega, m1, rfl, by rw [cum_1]; go_num⟩
      case round =>
        obtain ⟨j, hj1, hj2, rfl, rfl⟩ := hrel
        have hl3 := lng_bd (y := y) (m := j)
        have hcp := cum_pos y j
        have hcl := cum_lng (y := y) hj1 (by omega)
        have hly := leap_bd y
        by_cases hjm : j < m
        · have hcm := cum_mono (y := y) hj1 hjm m2
          have hge : lng y j ≤ n / 86400 - dty y - cum y j := by have := HK.out; omega
          have HS := Lib.hid (cum_step (y := y) hj1 (by omega))
          go_wp2_with (go_at_call 45; refine (daysOf_calls _ _ (by omega) (by omega) (by omega) (by omega) _ HM.out).mono ?_; rintro e w' ⟨rfl, rfl⟩)
          go_round
          case rel => exact ⟨j + 1, by omega, by omega, rfl, by rw [HS.out]; go_num⟩
          case measure => simp [intOf]; omega
        · obtain rfl : m = j := by omega
          have hge : n / 86400 - dty y - cum y m < lng y m := by have := HK.out; omega
          go_wp2_with (go_at_call 45; refine (daysOf_calls _ _ (by omega) (by omega) (by omega) (by omega) _ HM.out).mono ?_; rintro e w' ⟨rfl, rfl⟩)
          go_ret3
          exact ⟨ret_3 rfl rfl (by have := HK.out; omega), rfl⟩

end Go.Proofs.YtbjlnaobmgbpfaaDoor.Clock
