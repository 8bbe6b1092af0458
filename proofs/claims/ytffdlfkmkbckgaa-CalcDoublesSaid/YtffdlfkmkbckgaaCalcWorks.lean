/-
  Layer 1 (calc): the walk of 'works': some answers by example.
-/
import Derived.Test.YtffdlfkmkbckgaaCalcRest
namespace Go.Proofs.Ytffdlfkmkbckgaa.Calc
open Go.RowKit

theorem works_calls (w : World) :
    Calls Try.prog 13 #[] w fun e w' => e = .returned (.bool true) ∧ ∃ n, w' = w.drewN n := by
  have a1 : addV 1099511627776 0 = 1099511627776 := by decide
  have a2 : addC 1099511627776 0 = 0 := by decide
  have a3 : addC 1099511627776 1 = 2 := by decide
  have a4 : addC (-1) 1 = 1 := by decide
  have a5 : mulV 1048576 1048576 = 1099511627776 := by decide
  have a6 : mulC 1048576 1048576 = 0 := by decide
  have a7 : mulC 1048577 1048576 = 2 := by decide
  have a8 : dblV 3 4 40 = 40 := by decide
  have a9 : dblC 3 4 40 = 0 := by decide
  have b1 : divQ 7 2 = 3 := by decide
  have b2 : divR 7 2 = 1 := by decide
  have b3 : divC 7 2 = 0 := by decide
  have b4 : hold 5 1 3 = 3 := by decide
  go_enter Try.func13, Try.ntmps13
  go_wp2_with (first | (go_at_call 7; refine (add_calls _ _ _).mono ?_; rintro e w' ⟨rfl, rfl⟩) | (go_at_call 14; refine (mul_calls _ _ _).mono ?_; rintro e w' ⟨rfl, rfl⟩) | (go_at_call 17; refine (dbl_calls _ _ _ _).mono ?_; rintro e w' ⟨rfl, rfl⟩) | (go_at_call 16; refine (div_calls _ _ _).mono ?_; rintro e w' ⟨rfl, nq, rfl⟩) | (go_at_call 21; refine (hold_calls _ _ _ _).mono ?_; rintro e w' ⟨rfl, rfl⟩))
  go_ret
  exact ⟨rfl, _, rfl⟩

end Go.Proofs.Ytffdlfkmkbckgaa.Calc
