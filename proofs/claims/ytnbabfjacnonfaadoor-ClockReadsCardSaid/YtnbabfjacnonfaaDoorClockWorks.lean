/-
  Layer 3 (clock): the walk of 'works': some answers by example.
-/
import Derived.Test.YtnbabfjacnonfaaDoorClockRd
import Derived.Test.YtnbabfjacnonfaaDoorClockRead
namespace Go.Proofs.YtnbabfjacnonfaaDoor.Clock
open Go.RowKit Go.Proofs.YtnbabfjacnonfaaDoor.Digit

theorem day_leap : IsDay 8825 2024 2 29 := by refine ⟨?_, ?_, ?_, ?_, ?_, ?_⟩ <;> decide
theorem day_march : IsDay 8826 2024 3 1 := by refine ⟨?_, ?_, ?_, ?_, ?_, ?_⟩ <;> decide
theorem day_23 : IsDay 8460 2023 3 1 := by refine ⟨?_, ?_, ?_, ?_, ?_, ?_⟩ <;> decide
theorem day_first : IsDay 0 2000 1 1 := by refine ⟨?_, ?_, ?_, ?_, ?_, ?_⟩ <;> decide
theorem day_last : IsDay 2921939 9999 12 31 := by refine ⟨?_, ?_, ?_, ?_, ?_, ?_⟩ <;> decide
theorem st_leap : stmp 762566399 = [50, 48, 50, 52, 45, 48, 50, 45, 50, 57, 32, 50, 51, 58, 53, 57, 58, 53, 57] := (stmp_some (by decide) (by decide) day_leap).trans (by decide)
theorem st_march : stmp 762566400 = [50, 48, 50, 52, 45, 48, 51, 45, 48, 49, 32, 48, 48, 58, 48, 48, 58, 48, 48] := (stmp_some (by decide) (by decide) day_march).trans (by decide)
theorem st_first : stmp 0 = [50, 48, 48, 48, 45, 48, 49, 45, 48, 49, 32, 48, 48, 58, 48, 48, 58, 48, 48] := (stmp_some (by decide) (by decide) day_first).trans (by decide)
theorem st_last : stmp 252455615999 = [57, 57, 57, 57, 45, 49, 50, 45, 51, 49, 32, 50, 51, 58, 53, 57, 58, 53, 57] := (stmp_some (by decide) (by decide) day_last).trans (by decide)
theorem st_over : stmp 252455616000 = [] := stmp_none (.inr (by decide))
theorem st_23 : stmp 730944000 = [50, 48, 50, 51, 45, 48, 51, 45, 48, 49, 32, 48, 48, 58, 48, 48, 58, 48, 48] := (stmp_some (by decide) (by decide) day_23).trans (by decide)
theorem is_leap : IsStamp [50, 48, 50, 52, 45, 48, 50, 45, 50, 57, 32, 50, 51, 58, 53, 57, 58, 53, 57] 762566399 := ⟨by decide, by decide, st_leap⟩
theorem is_none : ¬ ∃ t, IsStamp [50, 48, 50, 51, 45, 48, 50, 45, 50, 57, 32, 48, 48, 58, 48, 48, 58, 48, 48] t := by
  rintro ⟨t, h⟩
  have e := (tickR_stamp h).2
  have e2 : tickR [50, 48, 50, 51, 45, 48, 50, 45, 50, 57, 32, 48, 48, 58, 48, 48, 58, 48, 48] = 730944000 := by decide
  rw [e2] at e
  subst e
  have := st_23.symm.trans h.2.2
  revert this; decide
theorem sp_day : spn 90061 = [49, 100, 32, 48, 49, 58, 48, 49, 58, 48, 49] := by
  rw [spn_long (by decide) (by decide), show (90061 : Int) / 86400 = 1 from by decide, dec_lt (by decide) (by decide)]; decide
theorem sp_59 : spn 59 = [48, 48, 58, 48, 48, 58, 53, 57] := by
  rw [spn_short (by decide) (by decide)]; decide

theorem read_leap (w : World) (hM : Months w) :
    Calls Tryd.prog 16 #[.string ⟨#[50, 48, 50, 52, 45, 48, 50, 45, 50, 57, 32, 50, 51, 58, 53, 57, 58, 53, 57]⟩] w fun e w' => e = .returned (.tuple #[.int .i64 762566399, .int .i64 0]) ∧ Below w.heap.size w w' := read_stamp _ _ is_leap w hM
theorem read_23 (w : World) (hM : Months w) :
    Calls Tryd.prog 16 #[.string ⟨#[50, 48, 50, 51, 45, 48, 50, 45, 50, 57, 32, 48, 48, 58, 48, 48, 58, 48, 48]⟩] w fun e w' => e = .returned (.tuple #[.int .i64 0, .int .i64 3]) ∧ Below w.heap.size w w' := read_none _ is_none w hM
theorem date_leap (w : World) (hM : Months w) :
    Calls Tryd.prog 7 #[.int .i64 762566399] w fun e w' => e = .returned (.tuple #[.int .i64 2024, .int .i64 2, .int .i64 29]) ∧ w = w' := date_some _ _ _ _ (by decide) (by decide) day_leap w hM
theorem week_first (w : World) :
    Calls Tryd.prog 11 #[.int .i64 0] w fun e w' => e = .returned (.int .i64 6) ∧ w = w' := weekday_some 0 (by decide) (by decide) w

set_option maxRecDepth 100000 in
set_option maxHeartbeats 1000000 in
theorem works_calls (w : World) (hM : Months w) :
    Calls Tryd.prog 15 #[] w fun e w' => e = .returned (.bool true) ∧ Below w.heap.size w w' := by
  have a1 := st_march
  have a2 := st_first
  have a3 := st_last
  have a4 := st_over
  have a5 := sp_day
  have a6 := sp_59
  replace hM := Lib.hid hM
  have hB := Below.refl w.heap.size w
  go_enter Tryd.func15, Tryd.ntmps15
  go_wp2_with (first | (go_at_call 16; (with_reducible refine (read_leap _ hM.out).mono ?_); rintro e w' ⟨rfl, hb⟩; replace hM := Lib.hid (hM.out.below hb); replace hB := hB.trans (hb.mono hB.size); clear hb) | (go_at_call 16; (with_reducible refine (read_23 _ hM.out).mono ?_); rintro e w' ⟨rfl, hb⟩; replace hM := Lib.hid (hM.out.below hb); replace hB := hB.trans (hb.mono hB.size); clear hb) | (go_at_call 7; refine (date_leap _ hM.out).mono ?_; rintro e w' ⟨rfl, rfl⟩) | (go_at_call 11; refine (week_first _).mono ?_; rintro e w' ⟨rfl, rfl⟩) | (go_at_call 13; refine (stamp_calls _ _ hM.out).mono ?_; rintro e w' ⟨rfl, hb⟩; replace hM := Lib.hid (hM.out.below hb); replace hB := hB.trans (hb.mono hB.size); clear hb) | (go_at_call 18; refine (span_calls _ _).mono ?_; rintro e w' ⟨rfl, hb⟩; replace hM := Lib.hid (hM.out.below hb); replace hB := hB.trans (hb.mono hB.size); clear hb))
  go_ret
  exact ⟨rfl, hB⟩

end Go.Proofs.YtnbabfjacnonfaaDoor.Clock
