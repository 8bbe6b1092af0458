/-
  Layer 12 (lex): parts that came in, out of their readings.
-/
import Derived.Test.YtijnijlekidhcaaDoorLexBack
import Derived.Test.YtijnijlekidhcaaDoorErfTable
namespace Go.Proofs.YtijnijlekidhcaaDoor.Lex
open Go.RowKit Go.ChangeShapes Go.WideShapes Go.Deep Go.Proofs.YtijnijlekidhcaaDoor.Own

section
variable {H : Type} {enc : TypeId × Value → H} {w : World} {base : Nat} {spare : Nat → Bool} {held : Bool}
theorem cPart : Tryd.prog.cellsOf 44 = 3 := by kernel_rfl
theorem part_leaf {E : Nat → Value} {m : Nat} {y : DataW H × List MemPlace} (h : DataW.trod enc Tryd.prog w base spare held m 44 ((List.range 3).map E) = some y) :
    ∃ x : Prt, (0 ≤ x.g ∧ x.g ≤ 255 ∧ x.t.size ≤ maxLen) ∧ ∀ j, j < 3 → E j = x.cell j := by
  obtain ⟨m0, y0, h0⟩ := leaf_field Tryd.underlying44 h 0 _ rfl 0 1 rfl (by kernel_rfl) (by omega)
  obtain ⟨m1, y1, h1⟩ := leaf_field Tryd.underlying44 h 1 _ rfl 1 1 rfl (by kernel_rfl) (by omega)
  obtain ⟨m2, y2, h2⟩ := leaf_field Tryd.underlying44 h 2 _ rfl 2 1 rfl (by kernel_rfl) (by omega)
  obtain ⟨k, e0, _⟩ := leaf_int Tryd.underlying3 h0
  obtain ⟨s, e1, hs⟩ := leaf_string Tryd.underlying9 h1
  obtain ⟨g, e2, wg⟩ := leaf_int Tryd.underlying5 h2
  have hg := wf8 wg
  refine ⟨⟨k, s, g⟩, ⟨hg.1, hg.2, hs⟩, fun j hj => ?_⟩
  match j, hj with
  | 0, _ => exact e0
  | 1, _ => exact e1
  | 2, _ => exact e2
set_option maxRecDepth 100000 in
theorem parts_open {v : Value} (t : ∃ d p, DataW.Trod enc Tryd.prog w base spare held 42 v d p) {r : Reach} (o : ∃ base, Value.okWide Tryd.prog w r base 42 v) :
    ∃ p n cap, ∃ o : Nat → Prt, v = .slice p n cap ∧ PIn w (.slice p n cap) n o := by
  obtain ⟨d, p, t⟩ := t
  obtain ⟨b0, o⟩ := o
  obtain ⟨a, len, cap, rfl⟩ := okWide_slice Tryd.underlying42 o
  obtain ⟨n, E, hrow, m, hE⟩ := args_slice Tryd.underlying42 (size := 3) cPart (by omega) t ⟨_, _, _, rfl⟩
  have hz : ∀ i, ∃ x : Prt, i < n → (0 ≤ x.g ∧ x.g ≤ 255 ∧ x.t.size ≤ maxLen) ∧ ∀ j, j < 3 → E i j = x.cell j := fun i => by
    by_cases hi : i < n
    · obtain ⟨y, hy⟩ := hE i hi
      obtain ⟨x, h⟩ := part_leaf hy
      exact ⟨x, fun _ => h⟩
    · exact ⟨⟨0, ByteArray.empty, 0⟩, fun h => absurd h hi⟩
  obtain ⟨a2, cap2, e, h1, h2, h3⟩ := hrow
  cases e
  refine ⟨a, len, cap, fun i => (hz i).choose, rfl, ⟨⟨_, _, rfl, h1, h2, h3.imp id ?_⟩, fun i hi => ((hz i).choose_spec hi).1⟩⟩
  rintro ⟨g, off, e, hl, hc⟩
  exact ⟨g, off, e, hl, fun i j hi hj => by rw [hc i j hi hj, ((hz i).choose_spec hi).2 j hj]⟩
end
end Go.Proofs.YtijnijlekidhcaaDoor.Lex
