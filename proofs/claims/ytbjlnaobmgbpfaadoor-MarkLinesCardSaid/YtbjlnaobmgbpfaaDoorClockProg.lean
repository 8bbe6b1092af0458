/-
  Layer 3 (clock): the program's Date, Time and Weekday, walked.
-/
import Derived.Test.YtbjlnaobmgbpfaaDoorNumRef
import Derived.Test.YtbjlnaobmgbpfaaDoorClockPlain
import Derived.OwnWalk
namespace Go.Proofs.YtbjlnaobmgbpfaaDoor.Clock
open Go.RowKit Go.Proofs.YtbjlnaobmgbpfaaDoor.Digit

theorem ret_int {a b : Int} (h : a = b) : Ending.returned (.int .i64 a) = .returned (.int .i64 b) := by rw [h]
theorem ret_ymd {a b c a' b' c' : Int} (h : a = a') (g : b = b') (i : c = c') : Ending.returned (.tuple #[.int .i64 a, .int .i64 b, .int .i64 c]) = .returned (.tuple #[.int .i64 a', .int .i64 b', .int .i64 c']) := by rw [h, g, i]

/-- the months' lengths stand in the table -/
def mdL : List Int := [31, 28, 31, 30, 31, 30, 31, 31, 30, 31, 30, 31]
def Months (w : World) : Prop := ∀ i, i < 12 → w.cell? ⟨0, i, none⟩ = some (.int .i64 (mdL.getD i 0))
theorem Months.below {w w' : World} (h : Months w) (hb : Below w.heap.size w w') : Months w' := fun i hi => by
  have hc := h i hi
  have hlt : 0 < w.heap.size := by
    by_cases e : 0 < w.heap.size
    · exact e
    · have : w.heap[0]? = none := Array.getElem?_eq_none (by omega)
      simp [World.cell?, this] at hc
  rw [hb.cell (p := ⟨0, i, none⟩) hlt]; exact hc

theorem has_yes (n : Int) (h0 : 0 ≤ n) (h1 : n ≤ 252455615999) (w : World) :
    Calls Tryd.prog 40 #[.int .i64 n] w fun e w' => e = .returned (.bool true) ∧ w = w' := by
  go_enter Tryd.func40, Tryd.ntmps40
  go_wp2_with fail
  go_ret
  exact ⟨rfl, rfl⟩
theorem has_no (n : Int) (h : n < 0 ∨ 252455615999 < n) (w : World) :
    Calls Tryd.prog 40 #[.int .i64 n] w fun e w' => e = .returned (.bool false) ∧ w = w' := by
  by_cases h0 : n < 0
  · clear h
    go_enter Tryd.func40, Tryd.ntmps40
    go_wp2_with fail
    go_ret
    exact ⟨rfl, rfl⟩
  · have h1 : 252455615999 < n := by omega
    have h2 : decide (n ≤ 252455615999) = false := decide_eq_false (by omega)
    clear h
    go_enter Tryd.func40, Tryd.ntmps40
    go_wp2_with fail
    go_ret
    exact ⟨rfl, rfl⟩

theorem leaps_calls (y : Int) (h0 : -1 ≤ y) (h1 : y ≤ 300000) (w : World) :
    Calls Tryd.prog 49 #[.int .i64 y] w fun e w' => e = .returned (.int .i64 (lp y)) ∧ w = w' := by
  by_cases h : y = -1
  · subst h
    go_enter Tryd.func49, Tryd.ntmps49
    go_wp2_with fail
    go_ret
    exact ⟨rfl, rfl⟩
  · have h2 : 0 ≤ y := by omega
    clear h h0
    go_enter Tryd.func49, Tryd.ntmps49
    go_wp2_with fail
    go_ret
    exact ⟨ret_int (by rw [lp, if_neg (by omega)]), rfl⟩

theorem lp_1999 : lp 1999 = 484 := by decide
theorem dty_calls (y : Int) (h0 : 0 ≤ y) (h1 : y ≤ 300000) (w : World) :
    Calls Tryd.prog 44 #[.int .i64 y] w fun e w' => e = .returned (.int .i64 (dty y)) ∧ w = w' := by
  have b1 := lp_bd (y := y - 1) (by omega) (by omega)
  have b2 := lp_bd (y := 1999) (by omega) (by omega)
  go_enter Tryd.func44, Tryd.ntmps44
  go_wp2_with (go_at_call 49; refine (leaps_calls _ (by omega) (by omega) _).mono ?_; rintro e w' ⟨rfl, rfl⟩)
  go_ret
  exact ⟨ret_int (by rw [lp_1999]; rfl), rfl⟩

/-- how long a month is, by the program's reckoning -/
def dof (y m : Int) : Int := mdt m + if m = 2 then lp y - lp (y - 1) else 0
theorem dof_lng {y m : Int} (h : 1 ≤ y) : dof y m = lng y m := by rw [dof, lng, lp_step h]
theorem dof_bd {y m : Int} (h : 0 ≤ y) : 28 ≤ dof y m ∧ dof y m ≤ 31 := by
  by_cases h1 : 1 ≤ y
  · rw [dof_lng h1]; exact lng_bd
  · obtain rfl : y = 0 := by omega
    have : lp 0 - lp (0 - 1) = 0 := by decide
    unfold dof mdt; rw [this]; repeat' split
    all_goals omega

set_option maxHeartbeats 1000000 in
theorem daysOf_any (y m : Int) (h0 : 0 ≤ y) (h1 : y ≤ 300000) (m1 : 1 ≤ m) (m2 : m ≤ 12) (w : World) (hM : Months w) :
    Calls Tryd.prog 45 #[.int .i64 y, .int .i64 m] w fun e w' => e = .returned (.int .i64 (dof y m)) ∧ w = w' := by
  have b1 := lp_bd (y := y) (by omega) (by omega)
  have b2 := lp_bd (y := y - 1) (by omega) (by omega)
  have h : m = 1 ∨ m = 2 ∨ m = 3 ∨ m = 4 ∨ m = 5 ∨ m = 6 ∨ m = 7 ∨ m = 8 ∨ m = 9 ∨ m = 10 ∨ m = 11 ∨ m = 12 := by omega
  have c0 : w.cell? ⟨0, 0, none⟩ = some (.int .i64 31) := hM 0 (by omega)
  have c1 : w.cell? ⟨0, 1, none⟩ = some (.int .i64 28) := hM 1 (by omega)
  have c2 : w.cell? ⟨0, 2, none⟩ = some (.int .i64 31) := hM 2 (by omega)
  have c3 : w.cell? ⟨0, 3, none⟩ = some (.int .i64 30) := hM 3 (by omega)
  have c4 : w.cell? ⟨0, 4, none⟩ = some (.int .i64 31) := hM 4 (by omega)
  have c5 : w.cell? ⟨0, 5, none⟩ = some (.int .i64 30) := hM 5 (by omega)
  have c6 : w.cell? ⟨0, 6, none⟩ = some (.int .i64 31) := hM 6 (by omega)
  have c7 : w.cell? ⟨0, 7, none⟩ = some (.int .i64 31) := hM 7 (by omega)
  have c8 : w.cell? ⟨0, 8, none⟩ = some (.int .i64 30) := hM 8 (by omega)
  have c9 : w.cell? ⟨0, 9, none⟩ = some (.int .i64 31) := hM 9 (by omega)
  have c10 : w.cell? ⟨0, 10, none⟩ = some (.int .i64 30) := hM 10 (by omega)
  have c11 : w.cell? ⟨0, 11, none⟩ = some (.int .i64 31) := hM 11 (by omega)
  clear hM
  rcases h with rfl | rfl | rfl | rfl | rfl | rfl | rfl | rfl | rfl | rfl | rfl | rfl
  all_goals
    go_enter Tryd.func45, Tryd.ntmps45
    go_wp2_with (go_at_call 49; refine (leaps_calls _ (by omega) (by omega) _).mono ?_; rintro e w' ⟨rfl, rfl⟩)
    go_ret
    exact ⟨by first | rfl | exact ret_int (by simp [dof, mdt]), rfl⟩
theorem daysOf_calls (y m : Int) (h0 : 1 ≤ y) (h1 : y ≤ 300000) (m1 : 1 ≤ m) (m2 : m ≤ 12) (w : World) (hM : Months w) :
    Calls Tryd.prog 45 #[.int .i64 y, .int .i64 m] w fun e w' => e = .returned (.int .i64 (lng y m)) ∧ w = w' := by
  rw [← dof_lng h0]; exact daysOf_any y m (by omega) h1 m1 m2 w hM

end Go.Proofs.YtbjlnaobmgbpfaaDoor.Clock
