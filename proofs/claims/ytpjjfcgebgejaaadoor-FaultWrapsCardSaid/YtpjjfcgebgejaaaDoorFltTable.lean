/-
  Layer 9 (fault): what the listed tables give the walks: the sixteen words, and the type of errors.
-/
import Derived.Test.YtpjjfcgebgejaaaDoorRows
import Derived.Test.YtpjjfcgebgejaaaDoorFltPlain
import Derived.ProofKit
import Derived.LaidMore
import Derived.LaidHandle
import Derived.OpenShut
import Derived.FnData
namespace Go.Proofs.YtpjjfcgebgejaaaDoor.Flt
open Go.ChangeShapes Go.WideShapes Go.ChangeAt Go.RowKit

theorem tWords : (Tryd.prog.globals[0]?).map (·.type) = some 60 := by kernel_rfl
theorem cString : Tryd.prog.cellsOf 9 = 1 := by kernel_rfl

set_option maxRecDepth 100000 in
theorem cLayer : Tryd.prog.cellsOf 26 = 3 := by kernel_rfl
set_option maxRecDepth 100000 in
theorem cCode : Tryd.prog.cellsOf 22 = 1 := by kernel_rfl
theorem cInt : Tryd.prog.cellsOf 3 = 1 := by kernel_rfl

/-- the list of what the tables hold -/
def laidL : List (String × DataW Unit) := Rows.faultWordsRow.laid

/-- the door's own heap meets the condition -/
theorem door_met (os : Os) (args : Array Value) : laidMetH Tryd.prog laidL ((World.doorLaid Tryd.prog 400 os).forCall (fun _ _ => 0) ⟨#[], args, []⟩).memory :=
  laidMetH_of_parts3 (fuel := 8) (laidMet_of_run' 8 (by kernel_rfl) (by kernel_rfl)) (by kernel_rfl) (by kernel_rfl)

theorem rt : (Tryd.prog.cutTypes.find? (·.1 == "internal/reflectlite.rtype")).map (·.2) = some 82 := by kernel_rfl
theorem oneRow : ((List.range 133).filter fun t => Tryd.prog.rowNamed t [101, 114, 114, 111, 114]) = [28] := by kernel_rfl
theorem sizeT : Tryd.prog.types.size = 133 := by kernel_rfl
theorem met_parts {W : World} (h : laidMetH Tryd.prog laidL W) : laidMet Tryd.prog [Rows.faultWordsRow.laid[1]] W ∧ handlesMet Tryd.prog [Rows.faultWordsRow.laid[0]] W := h

theorem et_of {W : World} (h : laidMetH Tryd.prog laidL W) : W.cell? ⟨1, 0, none⟩ = some (.iface 82 (.agg #[.pointer (some ⟨3, 28, none⟩)])) := by
  obtain ⟨name, u, ty, e1, e2, e3, e4, e5⟩ := (met_parts h).2 _ (List.mem_singleton.2 rfl)
  have en : name = [101, 114, 114, 111, 114] := (Option.some.inj e1).symm
  subst en
  obtain rfl := Option.some.inj (rt.symm.trans e2)
  have hm : ty ∈ (List.range 133).filter fun t => Tryd.prog.rowNamed t [101, 114, 114, 111, 114] := List.mem_filter.2 ⟨List.mem_range.2 (by rw [← sizeT]; exact e3), e4⟩
  rw [oneRow] at hm
  obtain rfl := List.mem_singleton.1 hm
  have hh : typeHandle Tryd.prog 28 = .pointer (some ⟨3, 28, none⟩) := by kernel_rfl
  rw [hh] at e5
  have et : Tryd.prog.globalNamed (Rows.faultWordsRow.laid[0]).1 = some 1 := by kernel_rfl
  simpa using World.var?_cell et e5 0

theorem words_of {W : World} (h : laidMetH Tryd.prog laidL W) : ∀ i, i < 16 → W.cell? ⟨0, i, none⟩ = some (.string ⟨(wordsL.getD i []).toArray⟩) := by
  obtain ⟨ps, ⟨g0, t0, cs0, f0, p0, q0, hg0, ht0, hv0, hd0, _, _⟩, _, _⟩ := (met_parts h).1
  obtain rfl : 0 = g0 := Option.some.inj ((by kernel_rfl : some 0 = _).trans hg0)
  obtain rfl := Option.some.inj (tWords.symm.trans ht0)
  obtain ⟨xs, m1, rfl, hx, hlen, hn, hel⟩ := DataW.trod_array Tryd.underlying60 hd0
  have hx1 : xs.map (·.1) = wordsL.map fun s => DataW.lit (.string s) := by
    simp only [Prod.mk.injEq] at hx
    exact (DataW.agg.inj hx.1).symm
  intro i hi
  rw [World.var?_cell hg0 hv0 i]
  have he := hel i hi
  rw [cString] at he
  have hxi : i < xs.length := by omega
  rw [List.getElem?_eq_getElem hxi] at he
  obtain ⟨s, e1, e2, _⟩ := DataW.trod_string Tryd.underlying9 he
  have e3 : (xs.map (·.1))[i]? = some (.lit (.string s.data.toList)) := by
    rw [List.getElem?_map, List.getElem?_eq_getElem hxi, e2]; rfl
  rw [hx1, List.getElem?_map] at e3
  have hk : wordsL.getD i [] = s.data.toList := by
    have hm : i < wordsL.length := hi
    rw [List.getElem?_eq_getElem hm] at e3
    simp only [Option.map_some, Option.some.injEq, DataW.lit.injEq, Lit.string.injEq] at e3
    rw [List.getD_eq_getElem?_getD, List.getElem?_eq_getElem hm]; exact e3
  rw [hk]
  have e4 : (cs0.toList.drop (i * 1))[0]? = some (.string s) := by
    have := congrArg (·[0]?) e1
    simpa using this
  rw [List.getElem?_drop] at e4
  simpa using e4
theorem tab_of {W : World} (h : laidMetH Tryd.prog laidL W) : Tab W := ⟨words_of h, et_of h⟩
end Go.Proofs.YtpjjfcgebgejaaaDoor.Flt
