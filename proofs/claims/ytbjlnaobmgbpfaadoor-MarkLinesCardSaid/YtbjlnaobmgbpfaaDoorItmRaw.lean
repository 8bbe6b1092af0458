/-
  A slice of items that came in.
-/
import Derived.Test.YtbjlnaobmgbpfaaDoorItm
namespace Go.Proofs.YtbjlnaobmgbpfaaDoor.Rec
open Go.RowKit Go.Proofs.YtbjlnaobmgbpfaaDoor.Own
section
open Go.ChangeShapes Go.WideShapes Go.Deep
variable {H : Type} {enc : TypeId × Value → H} {w : World} {spare : Nat → Bool} {held : Bool}
/-- a slice of items that came in, as it is handed -/
theorem its_open {v : Value} {d : DataW H} {p : List MemPlace} {base b0 : Nat} {r : Reach} (ho : Value.okWide Tryd.prog w r b0 22 v) (h : DataW.Trod enc Tryd.prog w base spare held 22 v d p) :
    ∃ xs q c, v = .slice q (List.length xs) c ∧ Its w xs q c := by
  obtain ⟨a, len, cap, rfl⟩ := okWide_slice Tryd.underlying22 ho
  obtain ⟨n, E, hrow, mm, hE⟩ := Own.args_slice Tryd.underlying22 (size := 3) (by kernel_rfl) (by omega) h ⟨_, _, _, rfl⟩
  exact its_arg hrow fun i hi => by
    obtain ⟨y, hy⟩ := hE i hi
    obtain ⟨m0, y0, h0⟩ := Own.leaf_field Tryd.underlying28 hy 0 _ rfl 0 1 rfl (by kernel_rfl) (by omega)
    obtain ⟨m1, y1, h1⟩ := Own.leaf_field Tryd.underlying28 hy 1 _ rfl 1 1 rfl (by kernel_rfl) (by omega)
    obtain ⟨m2, y2, h2⟩ := Own.leaf_field Tryd.underlying28 hy 2 _ rfl 2 1 rfl (by kernel_rfl) (by omega)
    obtain ⟨k, e0, _⟩ := Own.leaf_int Tryd.underlying3 h0
    obtain ⟨m, e1, _⟩ := Own.leaf_int Tryd.underlying3 h1
    obtain ⟨s, e2, _⟩ := Own.leaf_string Tryd.underlying9 h2
    exact ⟨k, m, s, by simpa using e0, by simpa using e1, by simpa using e2⟩
end
end Go.Proofs.YtbjlnaobmgbpfaaDoor.Rec
