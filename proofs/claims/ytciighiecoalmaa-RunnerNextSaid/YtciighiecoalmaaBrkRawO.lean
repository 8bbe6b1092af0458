/-
  Layer 14 (brk): ops that came in, out of their readings.
-/
import Derived.Test.YtciighiecoalmaaBrkOps
import Derived.Test.YtciighiecoalmaaArgs
namespace Go.Proofs.Ytciighiecoalmaa.Brk
open Go.RowKit Go.ChangeShapes Go.WideShapes Go.Deep Go.Proofs.Ytciighiecoalmaa.Own

section
variable {H : Type} {enc : TypeId × Value → H} {w : World} {base : Nat} {spare : Nat → Bool} {held : Bool}
theorem cOp : Try.prog.cellsOf 42 = 3 := by kernel_rfl
theorem op_leaf {E : Nat → Value} {m : Nat} {y : DataW H × List MemPlace} (h : DataW.trod enc Try.prog w base spare held m 42 ((List.range 3).map E) = some y) :
    ∃ x : Op, (x.n ≤ 9223372036854775807 ∧ x.s.length ≤ 9223372036854775807) ∧ E 0 = .int .i64 x.k ∧ E 1 = .string ⟨x.s.toArray⟩ ∧ E 2 = .int .i64 x.n := by
  obtain ⟨m0, y0, h0⟩ := leaf_field Try.underlying42 h 0 _ rfl 0 1 rfl (by kernel_rfl) (by omega)
  obtain ⟨m1, y1, h1⟩ := leaf_field Try.underlying42 h 1 _ rfl 1 1 rfl (by kernel_rfl) (by omega)
  obtain ⟨m2, y2, h2⟩ := leaf_field Try.underlying42 h 2 _ rfl 2 1 rfl (by kernel_rfl) (by omega)
  obtain ⟨k, e0, _⟩ := leaf_int Try.underlying3 h0
  obtain ⟨s, e1, hs⟩ := leaf_string Try.underlying9 h1
  obtain ⟨n, e2, wn⟩ := leaf_int Try.underlying3 h2
  obtain ⟨l, rfl, hl⟩ : ∃ l : List UInt8, s = ⟨l.toArray⟩ ∧ l.length = s.size := ⟨s.data.toList, by simp, by simp⟩
  have := wf64 wn
  unfold maxLen at hs
  refine ⟨⟨k, l, n⟩, ⟨this.2, ?_⟩, by simpa using e0, by simpa using e1, by simpa using e2⟩
  show l.length ≤ _
  omega
set_option maxRecDepth 100000 in
theorem ops_open {v : Value} (t : ∃ d p, DataW.Trod enc Try.prog w base spare held 22 v d p) {r : Reach} (o : ∃ base, Value.okWide Try.prog w r base 22 v) :
    ∃ L p n c, v = .slice p n c ∧ L.length = n ∧ Ops w L p c ∧ ∀ x ∈ L, x.n ≤ 9223372036854775807 ∧ x.s.length ≤ 9223372036854775807 := by
  obtain ⟨d, p, t⟩ := t
  obtain ⟨b0, o⟩ := o
  obtain ⟨a, len, cap, rfl⟩ := okWide_slice Try.underlying22 o
  obtain ⟨n, E, hrow, m, hE⟩ := args_slice Try.underlying22 (size := 3) cOp (by omega) t ⟨_, _, _, rfl⟩
  have hz : ∀ i, ∃ x : Op, i < n → (x.n ≤ 9223372036854775807 ∧ x.s.length ≤ 9223372036854775807) ∧ E i 0 = .int .i64 x.k ∧ E i 1 = .string ⟨x.s.toArray⟩ ∧ E i 2 = .int .i64 x.n := fun i => by
    by_cases hi : i < n
    · obtain ⟨y, hy⟩ := hE i hi
      obtain ⟨x, h⟩ := op_leaf hy
      exact ⟨x, fun _ => h⟩
    · exact ⟨⟨0, [], 0⟩, fun h => absurd h hi⟩
  obtain ⟨a2, cap2, e, h1, h2, h3⟩ := hrow
  cases e
  refine ⟨(List.range len).map fun i => (hz i).choose, a, len, cap, rfl, by simp, ⟨by simpa using h1, h2, ?_⟩, fun x hx => ?_⟩
  · rcases h3 with rfl | ⟨g, off, rfl, hl, hc⟩
    · exact .inl rfl
    · refine .inr ⟨g, off, rfl, hl, fun i hi => ?_⟩
      have hi' : i < len := by simpa using hi
      obtain ⟨_, e0, e1, e2⟩ := (hz i).choose_spec hi'
      have c0 := hc i 0 hi' (by omega)
      have c1 := hc i 1 hi' (by omega)
      have c2 := hc i 2 hi' (by omega)
      simp only [List.getElem_map, List.getElem_range]
      rw [e0] at c0
      rw [e1] at c1
      rw [e2] at c2
      exact ⟨c0, c1, c2⟩
  · simp only [List.mem_map, List.mem_range] at hx
    obtain ⟨i, hi, rfl⟩ := hx
    exact ((hz i).choose_spec hi).1
end
end Go.Proofs.Ytciighiecoalmaa.Brk
