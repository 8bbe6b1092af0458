/-
  Layer 3 (clock): the document's own Time and Stamp, walked.
-/
import Derived.Test.YtbjlnaobmgbpfaaDoorClockRef
import Derived.Deep.QuietTactic
import Derived.BigQuiet
namespace Go.Proofs.YtbjlnaobmgbpfaaDoor.Clock
open Go.RowKit Go.Proofs.YtbjlnaobmgbpfaaDoor.Digit

theorem rdate_none (n : Int) (h : n < 0 ∨ 252455615999 < n) (w : World) :
    Calls Tryd.prog 30 #[.int .i64 n] w fun e w' => e = .returned (.tuple #[.int .i64 0, .int .i64 0, .int .i64 0]) ∧ w = w' := by
  rcases h with h | h
  all_goals
    go_enter Tryd.func30, Tryd.ntmps30
    go_wp2_with fail
    go_ret3
    exact ⟨rfl, rfl⟩

theorem rtime_none (n : Int) (h : n < 0 ∨ 252455615999 < n) (w : World) :
    Calls Tryd.prog 31 #[.int .i64 n] w fun e w' => e = .returned (.tuple #[.int .i64 0, .int .i64 0, .int .i64 0]) ∧ w = w' := by
  rcases h with h | h
  all_goals
    go_enter Tryd.func31, Tryd.ntmps31
    go_wp2_with fail
    go_ret3
    exact ⟨rfl, rfl⟩

theorem rtime_some (n : Int) (h0 : 0 ≤ n) (h1 : n ≤ 252455615999) (w : World) :
    Calls Tryd.prog 31 #[.int .i64 n] w fun e w' => e = .returned (.tuple #[.int .i64 (n % 86400 / 3600), .int .i64 (n % 3600 / 60), .int .i64 (n % 60)]) ∧ w = w' := by
  go_enter Tryd.func31, Tryd.ntmps31
  go_wp2_with fail
  go_ret3
  exact ⟨ret_3 (by omega) (by omega) (by omega), rfl⟩

theorem d2_len (x : Int) : (d2 x).length ≤ 2 := Nat.le_refl _
theorem rpad2_calls (x : Int) (h0 : 0 ≤ x) (h1 : x < 100) (w : World) :
    Calls Tryd.prog 33 #[.int .i64 x, .int .i64 2] w fun e w' => e = .returned (.string ⟨(d2 x).toArray⟩) ∧ w = w' := by
  rw [← pad_2 h0 h1]; exact rpad_calls x 2 (by omega) (by omega) w

/-- hours, minutes and seconds of a tick -/
theorem clk_day (n : Int) : clk (n % 86400) = d2 (n % 86400 / 3600) ++ [58] ++ d2 (n % 3600 / 60) ++ [58] ++ d2 (n % 60) := by
  rw [clk, show n % 86400 % 3600 = n % 3600 by omega, show n % 86400 % 60 = n % 60 by omega]

theorem rstamp_none (n : Int) (h : n < 0 ∨ 252455615999 < n) (w : World) :
    Calls Tryd.prog 24 #[.int .i64 n] w fun e w' => e = .returned (.string ⟨(stmp n).toArray⟩) ∧ w = w' := by
  have H := Lib.hid (stmp_none h)
  rcases h with h | h
  all_goals
    go_enter Tryd.func24, Tryd.ntmps24
    go_wp2_with fail
    go_ret
    exact ⟨ret_string (by rw [H.out]), rfl⟩

set_option maxRecDepth 100000 in
set_option maxHeartbeats 1000000 in
theorem rstamp_some (n : Int) (h0 : 0 ≤ n) (h1 : n ≤ 252455615999) (w : World) :
    Calls Tryd.prog 24 #[.int .i64 n] w fun e w' => e = .returned (.string ⟨(stmp n).toArray⟩) ∧ w = w' := by
  obtain ⟨y, m, d, hd, hy⟩ := has_day h0 h1
  have H := Lib.hid (stmp_some h0 h1 hd)
  have HD := Lib.hid hd
  have hd31 := isday_d hd
  obtain ⟨h2000, m1, m2, d1, -, -⟩ := hd
  have H4 := Lib.hid (dec_4 (x := y) (by omega) (by omega))
  have l0 := dec_len (n := y) (by omega) (by omega)
  have l1 := d2_len m
  have l2 := d2_len d
  have l3 := d2_len (n % 86400 / 3600)
  have l4 := d2_len (n % 3600 / 60)
  have l5 := d2_len (n % 60)
  have HC := Lib.hid (clk_day n)
  go_enter Tryd.func24, Tryd.ntmps24
  go_wp2_with (first | (go_at_call 30; refine (rdate_some _ y m d (by omega) (by omega) HD.out _).mono ?_; rintro e w' ⟨rfl, rfl⟩) | (go_at_call 31; refine (rtime_some _ (by omega) (by omega) _).mono ?_; rintro e w' ⟨rfl, rfl⟩) | (go_at_call 32; refine (rput_calls _ (by omega) (by omega) _).mono ?_; rintro e w' ⟨rfl, rfl⟩) | (go_at_call 33; refine (rpad2_calls _ (by omega) (by omega) _).mono ?_; rintro e w' ⟨rfl, rfl⟩))
  go_ret
  exact ⟨ret_string (by rw [H.out, H4.out]; simp only [bytes_add]; simp [stm, day, HC.out]), rfl⟩

theorem rstamp_calls (n : Int) (w : World) :
    Calls Tryd.prog 24 #[.int .i64 n] w fun e w' => e = .returned (.string ⟨(stmp n).toArray⟩) ∧ w = w' := by
  by_cases h : n < 0 ∨ 252455615999 < n
  · exact rstamp_none n h w
  · exact rstamp_some n (by omega) (by omega) w

end Go.Proofs.YtbjlnaobmgbpfaaDoor.Clock
