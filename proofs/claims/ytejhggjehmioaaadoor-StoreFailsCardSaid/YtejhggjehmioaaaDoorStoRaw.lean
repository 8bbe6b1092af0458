/-
  Layer 11 (store): acts that came in, opened.
-/
import Derived.Test.YtejhggjehmioaaaDoorStoPlays
import Derived.Test.YtejhggjehmioaaaDoorStoSure
import Derived.Test.YtejhggjehmioaaaDoorErrTable
namespace Go.Proofs.YtejhggjehmioaaaDoor.Sto
open Go.RowKit Go.Proofs.YtejhggjehmioaaaDoor.Own Go.ChangeShapes Go.WideShapes Go.Deep
open Go.Proofs.YtejhggjehmioaaaDoor.Rw (str strs Row1)

def toI : Value → Int
  | .int _ n => n
  | _ => 0
section
variable {H : Type} {enc : TypeId × Value → H} {w : World} {base : Nat} {spare : Nat → Bool} {held : Bool}
theorem cInt : Tryd.prog.cellsOf 3 = 1 := by kernel_rfl
theorem cU8 : Tryd.prog.cellsOf 5 = 1 := by kernel_rfl
theorem cStr : Tryd.prog.cellsOf 9 = 1 := by kernel_rfl
theorem cInts : Tryd.prog.cellsOf 34 = 1 := by kernel_rfl
theorem cOp : Tryd.prog.cellsOf 36 = 6 := by kernel_rfl

/-- a slice of numbers -/
theorem ints_arg {v : Value} {d : DataW H} {p : List MemPlace} (h : DataW.Trod enc Tryd.prog w base spare held 34 v d p) (hv : ∃ a n cap, v = .slice a n cap) :
    ∃ q K cq ks, v = .slice q K cq ∧ ks.length = K ∧ Row1 w q cq (iv ks) ∧ ∀ k ∈ ks, -9223372036854775808 ≤ k ∧ k ≤ 9223372036854775807 := by
  obtain ⟨n, E, ⟨a, cap, rfl, h1, h2, h3⟩, m, hE⟩ := args_slice Tryd.underlying34 (size := 1) cInt (by omega) h hv
  have hz : ∀ i, i < n → ∃ x, E i 0 = .int .i64 x ∧ -9223372036854775808 ≤ x ∧ x ≤ 9223372036854775807 := fun i hi => by
    obtain ⟨y, hy⟩ := hE i hi
    obtain ⟨x, ex, hw⟩ := leaf_int Tryd.underlying3 hy
    exact ⟨x, ex, wf64 hw⟩
  refine ⟨a, n, cap, (List.range n).map fun i => toI (E i 0), rfl, by simp, ⟨by simpa [iv] using h1, h2, ?_⟩, fun k hk => ?_⟩
  · rcases h3 with h0 | ⟨g, off, rfl, hl, hc⟩
    · left; subst h0; rfl
    · refine .inr ⟨g, off, rfl, hl, fun i x hx => ?_⟩
      have hi : i < n := by
        have := (List.getElem?_eq_some_iff.1 hx).1
        simpa [iv] using this
      obtain ⟨z, ez, _⟩ := hz i hi
      have hc0 := hc i 0 hi (by omega)
      rw [Nat.mul_one, Nat.add_zero] at hc0
      rw [hc0, ez]
      simp [iv, hi, ez, toI] at hx
      rw [← hx]
  · simp only [List.mem_map, List.mem_range] at hk
    obtain ⟨i, hi, rfl⟩ := hk
    obtain ⟨z, ez, hz2⟩ := hz i hi
    rw [ez]
    exact hz2
theorem leaf_ints {m : Nat} {y : DataW H × List MemPlace} {E : Nat → Value} (h : DataW.trod enc Tryd.prog w base spare held m 34 ((List.range 1).map E) = some y) :
    ∃ q K cq ks, E 0 = .slice q K cq ∧ ks.length = K ∧ Row1 w q cq (iv ks) ∧ ∀ k ∈ ks, -9223372036854775808 ≤ k ∧ k ≤ 9223372036854775807 := by
  have hv : ∃ a n cap, E 0 = .slice a n cap := by
    rcases open_slice Tryd.underlying34 h with ⟨hcs, _⟩ | ⟨x, l, c, _, _, _, _, hcs, _⟩
    · exact ⟨_, _, _, by simpa using hcs⟩
    · exact ⟨_, _, _, by simpa using hcs⟩
  have ht : DataW.Trod enc Tryd.prog w base spare held 34 (E 0) y.1 y.2 := by
    refine ⟨m, ?_⟩
    obtain ⟨a, n, cap, e⟩ := hv
    have e2 : (E 0).cells.toList = (List.range 1).map E := by rw [e]; simp [Value.cells, e]
    rw [e2, h]
  exact ints_arg ht hv
/-- an act -/
theorem ac_leaf {m : Nat} {y : DataW H × List MemPlace} {E : Nat → Value} (hy : DataW.trod enc Tryd.prog w base spare held m 36 ((List.range 6).map E) = some y) : ∃ o : Ac, OkA w o ∧ ∀ j, j < 6 → E j = o.cells.getD j undef := by
  obtain ⟨m0, y0, h0⟩ := leaf_field Tryd.underlying36 hy 0 _ rfl 0 1 rfl cU8 (by omega)
  obtain ⟨m1, y1, h1⟩ := leaf_field Tryd.underlying36 hy 1 _ rfl 1 1 rfl cStr (by omega)
  obtain ⟨m2, y2, h2⟩ := leaf_field Tryd.underlying36 hy 2 _ rfl 2 1 rfl cStr (by omega)
  obtain ⟨m3, y3, h3⟩ := leaf_field Tryd.underlying36 hy 3 _ rfl 3 1 rfl cStr (by omega)
  obtain ⟨m4, y4, h4⟩ := leaf_field Tryd.underlying36 hy 4 _ rfl 4 1 rfl cInt (by omega)
  obtain ⟨m5, y5, h5⟩ := leaf_field Tryd.underlying36 hy 5 _ rfl 5 1 rfl cInts (by omega)
  obtain ⟨k, e0, w8⟩ := leaf_int Tryd.underlying5 h0
  obtain ⟨a, e1, _⟩ := leaf_string Tryd.underlying9 h1
  obtain ⟨d, e2, _⟩ := leaf_string Tryd.underlying9 h2
  obtain ⟨s, e3, _⟩ := leaf_string Tryd.underlying9 h3
  obtain ⟨n, e4, w64⟩ := leaf_int Tryd.underlying3 h4
  obtain ⟨q, K, cq, ks, e5, hK, hr, hg⟩ := leaf_ints h5
  refine ⟨⟨k, a, d, s, n, q, K, cq, ks⟩, ⟨(wf8 w8).1, (wf8 w8).2, wf64 w64, hK, hr, hg⟩, fun j hj => ?_⟩
  rcases (show j = 0 ∨ j = 1 ∨ j = 2 ∨ j = 3 ∨ j = 4 ∨ j = 5 by omega) with rfl | rfl | rfl | rfl | rfl | rfl
  · exact e0
  · exact e1
  · exact e2
  · exact e3
  · exact e4
  · exact e5
set_option maxRecDepth 100000 in
theorem acs_open {v : Value} (t : ∃ d p, DataW.Trod enc Tryd.prog w base spare held 22 v d p) {r : Reach} (o : ∃ base, Value.okWide Tryd.prog w r base 22 v) :
    ∃ p n cap, ∃ o : Nat → Ac, v = .slice p n cap ∧ Row w (.slice p n cap) n 6 (fun i j => (o i).cells.getD j undef) ∧ ∀ i, i < n → OkA w (o i) := by
  obtain ⟨d, p, t⟩ := t
  obtain ⟨b0, o⟩ := o
  obtain ⟨a, len, cap, rfl⟩ := okWide_slice Tryd.underlying22 o
  obtain ⟨n, E, hrow, m, hE⟩ := args_slice Tryd.underlying22 (size := 6) cOp (by omega) t ⟨_, _, _, rfl⟩
  have hz : ∀ i, ∃ o : Ac, i < n → OkA w o ∧ ∀ j, j < 6 → E i j = o.cells.getD j undef := fun i => by
    by_cases hi : i < n
    · obtain ⟨y, hy⟩ := hE i hi
      obtain ⟨o, h⟩ := ac_leaf hy
      exact ⟨o, fun _ => h⟩
    · exact ⟨⟨0, ByteArray.empty, ByteArray.empty, ByteArray.empty, 0, none, 0, 0, []⟩, fun h => absurd h hi⟩
  refine ⟨a, len, cap, fun i => (hz i).choose, rfl, ?_, fun i hi => ?_⟩
  all_goals obtain ⟨a2, cap2, e, h1, h2, h3⟩ := hrow
  all_goals cases e
  · refine ⟨_, _, rfl, h1, h2, h3.imp id ?_⟩
    rintro ⟨g, off, e, hl, hc⟩
    exact ⟨g, off, e, hl, fun i j hi hj => by rw [hc i j hi hj, ((hz i).choose_spec hi).2 j hj]⟩
  · exact ((hz i).choose_spec hi).1
set_option maxRecDepth 100000 in
theorem ac_open {v : Value} (t : ∃ d p, DataW.Trod enc Tryd.prog w base spare held 36 v d p) {r : Reach} (o : ∃ base, Value.okWide Tryd.prog w r base 36 v) :
    ∃ z : Ac, v = .agg z.cells ∧ OkA w z := by
  obtain ⟨d, p, fuel, t⟩ := t
  obtain ⟨b0, o⟩ := o
  obtain ⟨cs, rfl, hs⟩ := okWide_struct Tryd.underlying36 o
  rw [cOp] at hs
  have e : (Value.agg cs).cells.toList = (List.range 6).map fun j => cs.getD j undef := by
    apply List.ext_getElem
    · simp [Value.cells, hs]
    · intro i h1 h2
      have hi : i < cs.size := by simpa using (by simpa using h2 : i < 6) |> fun h => (by omega : i < cs.size)
      simp [Value.cells, hi]
  rw [e] at t
  obtain ⟨z, hz, hc⟩ := ac_leaf t
  refine ⟨z, ?_, hz⟩
  congr 1
  apply Array.ext
  · rw [hs]; rfl
  · intro i h1 h2
    have := hc i (by omega)
    simpa [h1, h2] using this
set_option maxRecDepth 100000 in
theorem ints_open {v : Value} (t : ∃ d p, DataW.Trod enc Tryd.prog w base spare held 34 v d p) {r : Reach} (o : ∃ base, Value.okWide Tryd.prog w r base 34 v) :
    ∃ q K cq ks, v = .slice q K cq ∧ ks.length = K ∧ Row1 w q cq (iv ks) ∧ ∀ k ∈ ks, -9223372036854775808 ≤ k ∧ k ≤ 9223372036854775807 := by
  obtain ⟨d, p, t⟩ := t
  obtain ⟨b0, o⟩ := o
  exact ints_arg t (okWide_slice Tryd.underlying34 o)
end
end Go.Proofs.YtejhggjehmioaaaDoor.Sto
