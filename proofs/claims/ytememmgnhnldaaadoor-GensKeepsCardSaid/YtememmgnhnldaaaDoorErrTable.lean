/-
  Layer 9 (fault), for a seat without words: what the listed handle gives the walks: the type of errors.
-/
import Derived.Test.YtememmgnhnldaaaDoorRows
import Derived.Test.YtememmgnhnldaaaDoorErrPlain
import Derived.ProofKit
import Derived.LaidMore
import Derived.LaidHandle
import Derived.OpenShut
import Derived.FnData
namespace Go.Proofs.YtememmgnhnldaaaDoor.Flt
open Go.ChangeShapes Go.WideShapes Go.ChangeAt Go.RowKit

/-- the list of what the table holds -/
def laidL : List (String × DataW Unit) := Rows.gensKeepsRow.laid
/-- the door's own heap meets the condition -/
theorem door_met (os : Os) (args : Array Value) : laidMetH Tryd.prog laidL ((World.doorLaid Tryd.prog 400 os).forCall (fun _ _ => 0) ⟨#[], args, []⟩).memory :=
  laidMetH_of_parts3 (fuel := 8) (laidMet_of_run' 8 (by kernel_rfl) (by kernel_rfl)) (by kernel_rfl) (by kernel_rfl)
theorem rt : (Tryd.prog.cutTypes.find? (·.1 == "internal/reflectlite.rtype")).map (·.2) = some 97 := by kernel_rfl
theorem oneRow : ((List.range 144).filter fun t => Tryd.prog.rowNamed t [101, 114, 114, 111, 114]) = [36] := by kernel_rfl
theorem sizeT : Tryd.prog.types.size = 144 := by kernel_rfl
theorem met_parts {W : World} (h : laidMetH Tryd.prog laidL W) : laidMet Tryd.prog [] W ∧ handlesMet Tryd.prog [Rows.gensKeepsRow.laid[0]] W := h

theorem et_of {W : World} (h : laidMetH Tryd.prog laidL W) : W.cell? ⟨0, 0, none⟩ = some (.iface 97 (.agg #[.pointer (some ⟨1, 36, none⟩)])) := by
  obtain ⟨name, u, ty, e1, e2, e3, e4, e5⟩ := (met_parts h).2 _ (List.mem_singleton.2 rfl)
  have en : name = [101, 114, 114, 111, 114] := (Option.some.inj e1).symm
  subst en
  obtain rfl := Option.some.inj (rt.symm.trans e2)
  have hm : ty ∈ (List.range 144).filter fun t => Tryd.prog.rowNamed t [101, 114, 114, 111, 114] := List.mem_filter.2 ⟨List.mem_range.2 (by rw [← sizeT]; exact e3), e4⟩
  rw [oneRow] at hm
  obtain rfl := List.mem_singleton.1 hm
  have hh : typeHandle Tryd.prog 36 = .pointer (some ⟨1, 36, none⟩) := by kernel_rfl
  rw [hh] at e5
  have et : Tryd.prog.globalNamed (Rows.gensKeepsRow.laid[0]).1 = some 0 := by kernel_rfl
  simpa using World.var?_cell et e5 0
theorem tab_of {W : World} (h : laidMetH Tryd.prog laidL W) : Tab W := ⟨et_of h⟩
end Go.Proofs.YtememmgnhnldaaaDoor.Flt
