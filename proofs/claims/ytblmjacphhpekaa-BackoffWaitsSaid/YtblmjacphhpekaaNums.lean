/-
  Numbers that came in, out of their readings: a slice that holds numbers of a kind.
-/
import Derived.Test.YtblmjacphhpekaaProg
import Derived.Test.YtblmjacphhpekaaOwn
import Derived.Test.YtblmjacphhpekaaArgs
namespace Go.Proofs.Ytblmjacphhpekaa.Run
open Go.RowKit Go.ChangeShapes Go.WideShapes Go.Deep Go.Proofs.Ytblmjacphhpekaa.Own

/-- a slice that holds numbers of a kind -/
structure Nums (w : World) (k : IntKind) (xs : List Int) (p : Option Addr) (c : Nat) : Prop where
  cap : xs.length ≤ c
  max : c ≤ maxLen
  cells : xs = [] ∨ ∃ b o, p = some ⟨b, o, none⟩ ∧ b < w.heap.size ∧ ∀ i (hi : i < xs.length), w.cell? ⟨b, o + i, none⟩ = some (.int k xs[i])
theorem Nums.below {w w' : World} {k : IntKind} {xs : List Int} {p : Option Addr} {c : Nat} (h : Nums w k xs p c) (hb : Below w.heap.size w w') : Nums w' k xs p c :=
  ⟨h.cap, h.max, h.cells.imp id fun ⟨b, o, e, hl, hc⟩ => ⟨b, o, e, Nat.lt_of_lt_of_le hl hb.size, fun i hi => (hb.cell (p := ⟨b, _, none⟩) hl).trans (hc i hi)⟩⟩
section
variable {H : Type} {enc : TypeId × Value → H} {w : World} {base : Nat} {spare : Nat → Bool} {held : Bool}
set_option maxRecDepth 100000 in
theorem nums_open {T E : TypeId} {k : IntKind} (hT : Try.prog.underlying T = some (.slice E)) (hE : Try.prog.underlying E = some (.int k)) (hC : Try.prog.cellsOf E = 1) {v : Value} (t : ∃ d p, DataW.Trod enc Try.prog w base spare held T v d p) {r : Reach} (o : ∃ base, Value.okWide Try.prog w r base T v) :
    ∃ xs p n c, v = .slice p n c ∧ xs.length = n ∧ Nums w k xs p c ∧ ∀ x ∈ xs, (Lit.int k x).wf = true := by
  obtain ⟨d, p, t⟩ := t
  obtain ⟨b0, o⟩ := o
  obtain ⟨a, len, cap, rfl⟩ := okWide_slice hT o
  obtain ⟨n, F, hrow, m, hF⟩ := args_slice hT (size := 1) hC (by omega) t ⟨_, _, _, rfl⟩
  have hz : ∀ i, ∃ x : Int, i < n → F i 0 = .int k x ∧ (Lit.int k x).wf = true := fun i => by
    by_cases hi : i < n
    · obtain ⟨y, hy⟩ := hF i hi
      obtain ⟨x, h⟩ := leaf_int hE hy
      exact ⟨x, fun _ => h⟩
    · exact ⟨0, fun h => absurd h hi⟩
  obtain ⟨a2, cap2, e, h1, h2, h3⟩ := hrow
  cases e
  refine ⟨(List.range len).map fun i => (hz i).choose, a, len, cap, rfl, by simp, ⟨by simpa using h1, h2, ?_⟩, fun x hx => ?_⟩
  · rcases h3 with rfl | ⟨g, off, rfl, hl, hc⟩
    · exact .inl rfl
    · refine .inr ⟨g, off, rfl, hl, fun i hi => ?_⟩
      have hi' : i < len := by simpa using hi
      obtain ⟨e0, _⟩ := (hz i).choose_spec hi'
      have c0 := hc i 0 hi' (by omega)
      simp only [List.getElem_map, List.getElem_range]
      rw [e0, Nat.mul_one, Nat.add_zero] at c0
      exact c0
  · simp only [List.mem_map, List.mem_range] at hx
    obtain ⟨i, hi, rfl⟩ := hx
    exact ((hz i).choose_spec hi).2
end
end Go.Proofs.Ytblmjacphhpekaa.Run
