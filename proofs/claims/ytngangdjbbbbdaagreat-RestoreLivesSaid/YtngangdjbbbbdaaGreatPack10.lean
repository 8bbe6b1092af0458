/-
A slice of items that came in.
-/
import Derived.Test.YtngangdjbbbbdaaGreatPack9
section
namespace Go.Proofs.YtngangdjbbbbdaaGreat.Rec
open Go.RowKit Go.Proofs.YtngangdjbbbbdaaGreat.Own
section
open Go.ChangeShapes Go.WideShapes Go.Deep
variable {H : Type} {enc : TypeId × Value → H} {w : World} {spare : Nat → Bool} {held : Bool}
set_option maxRecDepth 100000 in
/-- a slice of items that came in, as it is handed -/
theorem its_open {v : Value} {d : DataW H} {p : List MemPlace} {base b0 : Nat} {r : Reach} (ho : Value.okWide Tryz.prog w r b0 29 v) (h : DataW.Trod enc Tryz.prog w base spare held 29 v d p) :
    ∃ xs q c, v = .slice q (List.length xs) c ∧ Its w xs q c := by
  obtain ⟨a, len, cap, rfl⟩ := okWide_slice Tryz.underlying29 ho
  obtain ⟨n, E, hrow, mm, hE⟩ := Own.args_slice Tryz.underlying29 (size := 3) (by kernel_rfl) (by omega) h ⟨_, _, _, rfl⟩
  exact its_arg hrow fun i hi => by
    obtain ⟨y, hy⟩ := hE i hi
    obtain ⟨m0, y0, h0⟩ := Own.leaf_field Tryz.underlying42 hy 0 _ rfl 0 1 rfl (by kernel_rfl) (by omega)
    obtain ⟨m1, y1, h1⟩ := Own.leaf_field Tryz.underlying42 hy 1 _ rfl 1 1 rfl (by kernel_rfl) (by omega)
    obtain ⟨m2, y2, h2⟩ := Own.leaf_field Tryz.underlying42 hy 2 _ rfl 2 1 rfl (by kernel_rfl) (by omega)
    obtain ⟨k, e0, _⟩ := Own.leaf_int Tryz.underlying3 h0
    obtain ⟨m, e1, _⟩ := Own.leaf_int Tryz.underlying3 h1
    obtain ⟨s, e2, _⟩ := Own.leaf_string Tryz.underlying9 h2
    exact ⟨k, m, s, by simpa using e0, by simpa using e1, by simpa using e2⟩
end
end Go.Proofs.YtngangdjbbbbdaaGreat.Rec
end

