/-
  Layer 3 (clock): what the listed table gives the walks: its twelve cells.
-/
import Derived.Test.YtbjlnaobmgbpfaaDoorRows
import Derived.Test.YtbjlnaobmgbpfaaDoorClockProg
import Derived.ProofKit
import Derived.LaidMore
import Derived.OpenShut
import Derived.FnData
namespace Go.Proofs.YtbjlnaobmgbpfaaDoor.Clock
open Go.ChangeShapes Go.WideShapes Go.ChangeAt Go.RowKit

theorem tMonths : (Tryd.prog.globals[0]?).map (·.type) = some 64 := by kernel_rfl
theorem cInt : Tryd.prog.cellsOf 3 = 1 := by kernel_rfl

/-- the list of what the table holds -/
def laidL : List (String × DataW Unit) := Rows.markTellsRow.laid

/-- the door's own heap meets the condition -/
theorem door_met (os : Os) (args : Array Value) : laidMetH Tryd.prog laidL ((World.doorLaid Tryd.prog 400 os).forCall (fun _ _ => 0) ⟨#[], args, []⟩).memory :=
  laidMetH_of_parts3 (fuel := 8) (laidMet_of_run' 8 (by kernel_rfl) (by kernel_rfl)) (by kernel_rfl) (by kernel_rfl)

theorem months_of {W : World} (h : laidMetH Tryd.prog laidL W) : Months W := by
  rw [MakeChecks.laidMetH_plain _ _ _ (by kernel_rfl)] at h
  obtain ⟨ps, ⟨g0, t0, cs0, f0, p0, q0, hg0, ht0, hv0, hd0, _, _⟩, _, _⟩ := h
  obtain rfl : 0 = g0 := Option.some.inj ((by kernel_rfl : some 0 = _).trans hg0)
  obtain rfl := Option.some.inj (tMonths.symm.trans ht0)
  obtain ⟨xs, m1, rfl, hx, hlen, hn, hel⟩ := DataW.trod_array Tryd.underlying64 hd0
  have hx1 : xs.map (·.1) = mdL.map fun n => DataW.lit (.int .i64 n) := by
    simp only [Prod.mk.injEq] at hx
    exact (DataW.agg.inj hx.1).symm
  intro i hi
  rw [World.var?_cell hg0 hv0 i]
  have he := hel i hi
  rw [cInt] at he
  have hxi : i < xs.length := by omega
  rw [List.getElem?_eq_getElem hxi] at he
  obtain ⟨k, e1, e2, _⟩ := DataW.trod_int Tryd.underlying3 he
  have e3 : (xs.map (·.1))[i]? = some (.lit (.int .i64 k)) := by
    rw [List.getElem?_map, List.getElem?_eq_getElem hxi, e2]; rfl
  rw [hx1, List.getElem?_map] at e3
  have hk : mdL.getD i 0 = k := by
    have hm : i < mdL.length := hi
    rw [List.getElem?_eq_getElem hm] at e3
    simp only [Option.map_some, Option.some.injEq, DataW.lit.injEq, Lit.int.injEq, true_and] at e3
    rw [List.getD_eq_getElem?_getD, List.getElem?_eq_getElem hm]; exact e3
  rw [hk]
  have e4 : (cs0.toList.drop (i * 1))[0]? = some (.int .i64 k) := by
    have := congrArg (·[0]?) e1
    simpa using this
  rw [List.getElem?_drop] at e4
  simpa using e4

end Go.Proofs.YtbjlnaobmgbpfaaDoor.Clock
