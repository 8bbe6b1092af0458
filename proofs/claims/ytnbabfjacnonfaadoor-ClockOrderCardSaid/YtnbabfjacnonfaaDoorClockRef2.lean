/-
  Layer 3 (clock): the document's own Time, Weekday, Stamp, Span and Read, walked.
-/
import Derived.Test.YtnbabfjacnonfaaDoorClockRef
import Derived.Deep.QuietTactic
import Derived.BigQuiet
namespace Go.Proofs.YtnbabfjacnonfaaDoor.Clock
open Go.RowKit Go.Proofs.YtnbabfjacnonfaaDoor.Digit

theorem rdate_none (n : Int) (h : n < 0 ∨ 252455615999 < n) (w : World) :
    Calls Tryd.prog 8 #[.int .i64 n] w fun e w' => e = .returned (.tuple #[.int .i64 0, .int .i64 0, .int .i64 0]) ∧ w = w' := by
  rcases h with h | h
  all_goals
    go_enter Tryd.func8, Tryd.ntmps8
    go_wp2_with fail
    go_ret3
    exact ⟨rfl, rfl⟩

theorem rtime_none (n : Int) (h : n < 0 ∨ 252455615999 < n) (w : World) :
    Calls Tryd.prog 10 #[.int .i64 n] w fun e w' => e = .returned (.tuple #[.int .i64 0, .int .i64 0, .int .i64 0]) ∧ w = w' := by
  rcases h with h | h
  all_goals
    go_enter Tryd.func10, Tryd.ntmps10
    go_wp2_with fail
    go_ret3
    exact ⟨rfl, rfl⟩

theorem rtime_some (n : Int) (h0 : 0 ≤ n) (h1 : n ≤ 252455615999) (w : World) :
    Calls Tryd.prog 10 #[.int .i64 n] w fun e w' => e = .returned (.tuple #[.int .i64 (n % 86400 / 3600), .int .i64 (n % 3600 / 60), .int .i64 (n % 60)]) ∧ w = w' := by
  go_enter Tryd.func10, Tryd.ntmps10
  go_wp2_with fail
  go_ret3
  exact ⟨ret_3 (by omega) (by omega) (by omega), rfl⟩

/-- the day of the week -/
def wkd (n : Int) : Int := (n / 86400 + 5) % 7 + 1

theorem rweekday_none (n : Int) (h : n < 0 ∨ 252455615999 < n) (w : World) :
    Calls Tryd.prog 12 #[.int .i64 n] w fun e w' => e = .returned (.int .i64 0) ∧ w = w' := by
  rcases h with h | h
  all_goals
    go_enter Tryd.func12, Tryd.ntmps12
    go_wp2_with fail
    go_ret
    exact ⟨rfl, rfl⟩

set_option maxHeartbeats 400000 in
theorem rweekday_some (n : Int) (h0 : 0 ≤ n) (h1 : n ≤ 252455615999) (w : World) :
    Calls Tryd.prog 12 #[.int .i64 n] w fun e w' => e = .returned (.int .i64 (wkd n)) ∧ w = w' := by
  go_enter Tryd.func12, Tryd.ntmps12
  go_wp2_with fail
  go_loop [3, 4] (fun x i => ∃ k : Int, 0 ≤ k ∧ k ≤ n / 86400 % 7 ∧ i = .int .i64 k ∧ x = .int .i64 ((k + 5) % 7 + 1)) (fun _ i => (7 - intOf i).toNat)
  case atStart => exact ⟨0, by omega, by omega, rfl, rfl⟩
  case round =>
    obtain ⟨k, hk0, hk, rfl, rfl⟩ := hrel
    by_cases hlt : k < n / 86400 % 7
    · by_cases h7 : 7 < (k + 5) % 7 + 1 + 1
      · go_wp2_with fail
        go_round
        case rel => exact ⟨k + 1, by omega, by omega, rfl, by rw [show (k + 1 + 5) % 7 + 1 = 1 by omega]⟩
        case measure => simp [intOf]; omega
      · go_wp2_with fail
        go_round
        case rel => exact ⟨k + 1, by omega, by omega, rfl, by rw [show (k + 1 + 5) % 7 = (k + 5) % 7 + 1 by omega]⟩
        case measure => simp [intOf]; omega
    · go_wp2_with fail
      go_ret
      exact ⟨ret_i64 (by unfold wkd; omega), rfl⟩

theorem d2_len (x : Int) : (d2 x).length ≤ 2 := Nat.le_refl _
theorem rpad2_calls (x : Int) (h0 : 0 ≤ x) (h1 : x < 100) (w : World) :
    Calls Tryd.prog 27 #[.int .i64 x, .int .i64 2] w fun e w' => e = .returned (.string ⟨(d2 x).toArray⟩) ∧ w = w' := by
  rw [← pad_2 h0 h1]; exact rpad_calls x 2 (by omega) (by omega) w

/-- hours, minutes and seconds of a tick -/
theorem clk_day (n : Int) : clk (n % 86400) = d2 (n % 86400 / 3600) ++ [58] ++ d2 (n % 3600 / 60) ++ [58] ++ d2 (n % 60) := by
  rw [clk, show n % 86400 % 3600 = n % 3600 by omega, show n % 86400 % 60 = n % 60 by omega]

theorem rstamp_none (n : Int) (h : n < 0 ∨ 252455615999 < n) (w : World) :
    Calls Tryd.prog 14 #[.int .i64 n] w fun e w' => e = .returned (.string ⟨(stmp n).toArray⟩) ∧ w = w' := by
  have H := Lib.hid (stmp_none h)
  rcases h with h | h
  all_goals
    go_enter Tryd.func14, Tryd.ntmps14
    go_wp2_with fail
    go_ret
    exact ⟨ret_string (by rw [H.out]), rfl⟩

set_option maxRecDepth 100000 in
set_option maxHeartbeats 1000000 in
theorem rstamp_some (n : Int) (h0 : 0 ≤ n) (h1 : n ≤ 252455615999) (w : World) :
    Calls Tryd.prog 14 #[.int .i64 n] w fun e w' => e = .returned (.string ⟨(stmp n).toArray⟩) ∧ w = w' := by
  obtain ⟨y, m, d, hd, hy⟩ := has_day h0 h1
  have H := Lib.hid (stmp_some h0 h1 hd)
  have HD := Lib.hid hd
  have hd31 := isday_d hd
  obtain ⟨h2000, m1, m2, d1, -, -⟩ := hd
  have H4 := Lib.hid (dec_4 (x := y) (by omega) (by omega))
  have l0 := dec_len (n := y) (by omega) (by omega)
  have l1 := d2_len m
  have l2 := d2_len d
  have l3 := d2_len (n % 86400 / 3600)
  have l4 := d2_len (n % 3600 / 60)
  have l5 := d2_len (n % 60)
  have HC := Lib.hid (clk_day n)
  go_enter Tryd.func14, Tryd.ntmps14
  go_wp2_with (first | (go_at_call 8; refine (rdate_some _ y m d (by omega) (by omega) HD.out _).mono ?_; rintro e w' ⟨rfl, rfl⟩) | (go_at_call 10; refine (rtime_some _ (by omega) (by omega) _).mono ?_; rintro e w' ⟨rfl, rfl⟩) | (go_at_call 26; refine (rput_calls _ (by omega) (by omega) _).mono ?_; rintro e w' ⟨rfl, rfl⟩) | (go_at_call 27; refine (rpad2_calls _ (by omega) (by omega) _).mono ?_; rintro e w' ⟨rfl, rfl⟩))
  go_ret
  exact ⟨ret_string (by rw [H.out, H4.out]; simp only [bytes_add]; simp [stm, day, HC.out]), rfl⟩

theorem rstamp_calls (n : Int) (w : World) :
    Calls Tryd.prog 14 #[.int .i64 n] w fun e w' => e = .returned (.string ⟨(stmp n).toArray⟩) ∧ w = w' := by
  by_cases h : n < 0 ∨ 252455615999 < n
  · exact rstamp_none n h w
  · exact rstamp_some n (by omega) (by omega) w

/-- how long so many ticks are -/
def spn (n : Int) : List UInt8 := if n < 0 ∨ 1099511627776 < n then [] else (if 0 < n / 86400 then dec (n / 86400) ++ [100, 32] else []) ++ clk (n % 86400)
theorem spn_none {n : Int} (h : n < 0 ∨ 1099511627776 < n) : spn n = [] := if_pos h
theorem spn_short {n : Int} (h : 0 ≤ n ∧ n ≤ 1099511627776) (h2 : ¬ 0 < n / 86400) : spn n = clk (n % 86400) := by
  rw [spn, if_neg (by omega), if_neg h2]; rfl
theorem spn_long {n : Int} (h : 0 ≤ n ∧ n ≤ 1099511627776) (h2 : 0 < n / 86400) : spn n = dec (n / 86400) ++ [100, 32] ++ clk (n % 86400) := by
  rw [spn, if_neg (by omega), if_pos h2]

set_option maxRecDepth 100000 in
set_option maxHeartbeats 1000000 in
theorem rspan_calls (n : Int) (w : World) :
    Calls Tryd.prog 19 #[.int .i64 n] w fun e w' => e = .returned (.string ⟨(spn n).toArray⟩) ∧ w = w' := by
  by_cases h : n < 0 ∨ 1099511627776 < n
  · have H := Lib.hid (spn_none h)
    rcases h with h | h
    all_goals
      go_enter Tryd.func19, Tryd.ntmps19
      go_wp2_with fail
      go_ret
      exact ⟨ret_string (by rw [H.out]), rfl⟩
  · obtain ⟨h0, h1⟩ : 0 ≤ n ∧ n ≤ 1099511627776 := by omega
    have l0 := dec_len (n := n / 86400) (by omega) (by omega)
    have l3 := d2_len (n % 86400 / 3600)
    have l4 := d2_len (n % 3600 / 60)
    have l5 := d2_len (n % 86400 % 60)
    have l6 := d2_len (n % 60)
    have HC := Lib.hid (clk_day n)
    clear h
    by_cases hl : 0 < n / 86400
    · have H := Lib.hid (spn_long ⟨h0, h1⟩ hl)
      go_enter Tryd.func19, Tryd.ntmps19
      go_wp2_with (first | (go_at_call 26; refine (rput_calls _ (by omega) (by omega) _).mono ?_; rintro e w' ⟨rfl, rfl⟩) | (go_at_call 27; refine (rpad2_calls _ (by omega) (by omega) _).mono ?_; rintro e w' ⟨rfl, rfl⟩))
      go_ret
      exact ⟨ret_string (by rw [H.out]; rw [HC.out]; simp only [bytes_add]; try simp), rfl⟩
    · have H := Lib.hid (spn_short ⟨h0, h1⟩ hl)
      go_enter Tryd.func19, Tryd.ntmps19
      go_wp2_with (first | (go_at_call 26; refine (rput_calls _ (by omega) (by omega) _).mono ?_; rintro e w' ⟨rfl, rfl⟩) | (go_at_call 27; refine (rpad2_calls _ (by omega) (by omega) _).mono ?_; rintro e w' ⟨rfl, rfl⟩))
      go_ret
      exact ⟨ret_string (by rw [H.out]; rw [HC.out]; simp only [bytes_add]; try simp), rfl⟩

end Go.Proofs.YtnbabfjacnonfaaDoor.Clock
