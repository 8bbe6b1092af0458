/-
  Layer 3 (clock): the program's Stamp and Span, walked.
-/
import Derived.Test.YtbjlnaobmgbpfaaDoorClockDateS
import Derived.Test.YtbjlnaobmgbpfaaDoorNumPut
namespace Go.Proofs.YtbjlnaobmgbpfaaDoor.Clock
open Go.RowKit Go.Proofs.YtbjlnaobmgbpfaaDoor.Digit

theorem pad2_calls (x : Int) (h0 : 0 ≤ x) (h1 : x < 100) (w : World) :
    Calls Tryd.prog 42 #[.int .i64 x, .int .i64 2] w fun e w' => e = .returned (.string ⟨(d2 x).toArray⟩) ∧ Below w.heap.size w w' := by
  rw [← pad_2 h0 h1]; exact pad_calls x 2 (by omega) (by omega) w
def d4 (y : Int) : List UInt8 := d2 (y / 100) ++ d2 (y % 100)
theorem d4_len (y : Int) : (d4 y).length ≤ 4 := Nat.le_refl _
theorem pad4_calls (x : Int) (h0 : 1000 ≤ x) (h1 : x ≤ 9999) (w : World) :
    Calls Tryd.prog 42 #[.int .i64 x, .int .i64 4] w fun e w' => e = .returned (.string ⟨(d4 x).toArray⟩) ∧ Below w.heap.size w w' := by
  rw [d4, ← pad_4 h0 h1]; exact pad_calls x 4 (by omega) (by omega) w

set_option maxHeartbeats 400000 in
theorem timeText_calls (n : Int) (h0 : 0 ≤ n) (h1 : n ≤ 252455615999) (w : World) :
    Calls Tryd.prog 43 #[.int .i64 n] w fun e w' => e = .returned (.string ⟨(clk (n % 86400)).toArray⟩) ∧ Below w.heap.size w w' := by
  have hB := Below.refl w.heap.size w
  have l3 := d2_len (n % 86400 / 3600)
  have l4 := d2_len (n % 3600 / 60)
  have l5 := d2_len (n % 60)
  have HC := Lib.hid (clk_day n)
  go_enter Tryd.func43, Tryd.ntmps43
  go_wp2_with (first | (go_at_call 48; refine (time_some _ (by omega) (by omega) _).mono ?_; rintro e w' ⟨rfl, rfl⟩) | (go_at_call 42; refine (pad2_calls _ (by omega) (by omega) _).mono ?_; rintro e w' ⟨rfl, hb⟩; replace hB := hB.trans (hb.mono hB.size); clear hb))
  go_ret
  exact ⟨ret_string (by rw [HC.out]; simp only [bytes_add]), hB⟩

theorem stamp_none (n : Int) (h : n < 0 ∨ 252455615999 < n) (w : World) :
    Calls Tryd.prog 36 #[.int .i64 n] w fun e w' => e = .returned (.string ⟨(stmp n).toArray⟩) ∧ Below w.heap.size w w' := by
  have H := Lib.hid (stmp_none h)
  go_enter Tryd.func36, Tryd.ntmps36
  go_wp2_with (go_at_call 40; refine (has_no _ h _).mono ?_; rintro e w' ⟨rfl, rfl⟩)
  go_ret
  exact ⟨ret_string (by rw [H.out]), Below.refl _ _⟩

set_option maxRecDepth 100000 in
set_option maxHeartbeats 1000000 in
theorem stamp_some (n : Int) (h0 : 0 ≤ n) (h1 : n ≤ 252455615999) (w : World) (hM : Months w) :
    Calls Tryd.prog 36 #[.int .i64 n] w fun e w' => e = .returned (.string ⟨(stmp n).toArray⟩) ∧ Below w.heap.size w w' := by
  have hB := Below.refl w.heap.size w
  obtain ⟨y, m, d, hd, hy⟩ := has_day h0 h1
  have H := Lib.hid (stmp_some h0 h1 hd)
  have HD := Lib.hid hd
  have HM := Lib.hid hM
  have hd31 := isday_d hd
  obtain ⟨h2000, m1, m2, d1, -, -⟩ := hd
  have l0 := d4_len y
  have l1 := d2_len m
  have l2 := d2_len d
  have l3 : (clk (n % 86400)).length ≤ 8 := Nat.le_refl _
  clear hM
  go_enter Tryd.func36, Tryd.ntmps36
  go_wp2_with (first | (go_at_call 40; refine (has_yes _ (by omega) (by omega) _).mono ?_; rintro e w' ⟨rfl, rfl⟩) | (go_at_call 41; refine (date_some _ y m d (by omega) (by omega) HD.out _ HM.out).mono ?_; rintro e w' ⟨rfl, rfl⟩) | (go_at_call 42; (with_reducible refine (pad2_calls _ (by omega) (by omega) _).mono ?_); rintro e w' ⟨rfl, hb⟩; replace hB := hB.trans (hb.mono hB.size); clear hb) | (go_at_call 42; (with_reducible refine (pad4_calls _ (by omega) (by omega) _).mono ?_); rintro e w' ⟨rfl, hb⟩; replace hB := hB.trans (hb.mono hB.size); clear hb) | (go_at_call 43; refine (timeText_calls _ (by omega) (by omega) _).mono ?_; rintro e w' ⟨rfl, hb⟩; replace hB := hB.trans (hb.mono hB.size); clear hb))
  go_ret
  exact ⟨ret_string (by rw [H.out]; simp only [bytes_add]; simp [stm, day, d4]), hB⟩

theorem stamp_calls (n : Int) (w : World) (hM : Months w) :
    Calls Tryd.prog 36 #[.int .i64 n] w fun e w' => e = .returned (.string ⟨(stmp n).toArray⟩) ∧ Below w.heap.size w w' := by
  by_cases h : n < 0 ∨ 252455615999 < n
  · exact stamp_none n h w
  · exact stamp_some n (by omega) (by omega) w hM

end Go.Proofs.YtbjlnaobmgbpfaaDoor.Clock
