/-
  Layer 21 (gens): a slice of files that came in.
-/
import Derived.Test.YtememmgnhnldaaaDoorGenLow
import Derived.Test.YtememmgnhnldaaaDoorArgs
namespace Go.Proofs.YtememmgnhnldaaaDoor.Gen
open Go.RowKit Go.Proofs.YtememmgnhnldaaaDoor.Own

structure Fi where
  k : Int
  s : ByteArray
  q : Bool
/-- a slice of files, as it lies in memory -/
structure FRow (w : World) (p : Option Addr) (c n : Nat) (f : Nat → Fi) : Prop where
  cap : n ≤ c
  max : c ≤ maxLen
  cells : n = 0 ∨ ∃ g o, p = some ⟨g, o, none⟩ ∧ g < w.heap.size ∧ ∀ i, i < n → w.cell? ⟨g, o + i * 3, none⟩ = some (.int .u8 (f i).k) ∧ w.cell? ⟨g, o + i * 3 + 1, none⟩ = some (.string (f i).s) ∧ w.cell? ⟨g, o + i * 3 + 2, none⟩ = some (.bool (f i).q)
  ok : ∀ i, i < n → 0 ≤ (f i).k ∧ (f i).k ≤ 255
theorem FRow.below {w w' : World} {p : Option Addr} {cap n : Nat} {f : Nat → Fi} (h : FRow w p cap n f) (hb : Below w.heap.size w w') : FRow w' p cap n f :=
  ⟨h.cap, h.max, h.cells.imp id fun ⟨g, o, e, hl, k⟩ => ⟨g, o, e, Nat.lt_of_lt_of_le hl hb.size, fun i hi => ⟨(hb.cell (p := ⟨g, _, none⟩) hl).trans (k i hi).1, (hb.cell (p := ⟨g, _, none⟩) hl).trans (k i hi).2.1, (hb.cell (p := ⟨g, _, none⟩) hl).trans (k i hi).2.2⟩⟩, h.ok⟩
section
open Go.ChangeShapes Go.WideShapes Go.Deep
variable {H : Type} {enc : TypeId × Value → H} {w : World} {spare : Nat → Bool} {held : Bool}
set_option maxRecDepth 100000 in
theorem files_open {v : Value} {d : DataW H} {p : List MemPlace} {base b0 : Nat} {r : Reach} (ho : Value.okWide Tryd.prog w r b0 22 v) (h : DataW.Trod enc Tryd.prog w base spare held 22 v d p) :
    ∃ q n c f, v = .slice q n c ∧ FRow w q c n f := by
  obtain ⟨a, len, cap, rfl⟩ := okWide_slice Tryd.underlying22 ho
  obtain ⟨n, E, hrow, mm, hE⟩ := Own.args_slice Tryd.underlying22 (size := 3) (by kernel_rfl) (by omega) h ⟨_, _, _, rfl⟩
  have hz : ∀ i, ∃ f : Fi, i < n → (0 ≤ f.k ∧ f.k ≤ 255) ∧ E i 0 = .int .u8 f.k ∧ E i 1 = .string f.s ∧ E i 2 = .bool f.q := fun i => by
    by_cases hi : i < n
    · obtain ⟨y, hy⟩ := hE i hi
      obtain ⟨m0, y0, h0⟩ := Own.leaf_field Tryd.underlying49 hy 0 _ rfl 0 1 rfl (by kernel_rfl) (by omega)
      obtain ⟨m1, y1, h1⟩ := Own.leaf_field Tryd.underlying49 hy 1 _ rfl 1 1 rfl (by kernel_rfl) (by omega)
      obtain ⟨m2, y2, h2⟩ := Own.leaf_field Tryd.underlying49 hy 2 _ rfl 2 1 rfl (by kernel_rfl) (by omega)
      obtain ⟨k, e0, hw⟩ := Own.leaf_int Tryd.underlying5 h0
      obtain ⟨s, e1, _⟩ := Own.leaf_string Tryd.underlying9 h1
      obtain ⟨q, e2⟩ := Own.leaf_bool Tryd.underlying4 h2
      exact ⟨⟨k, s, q⟩, fun _ => ⟨Own.wf8 hw, by simpa using e0, by simpa using e1, by simpa using e2⟩⟩
    · exact ⟨⟨0, ByteArray.empty, false⟩, fun h => absurd h hi⟩
  obtain ⟨a2, cap2, e, h1, h2, h3⟩ := hrow
  cases e
  refine ⟨a, len, cap, fun i => (hz i).choose, rfl, h1, h2, ?_, fun i hi => ((hz i).choose_spec hi).1⟩
  refine h3.imp id ?_
  rintro ⟨g, off, e, hl, hc⟩
  refine ⟨g, off, e, hl, fun i hi => ?_⟩
  obtain ⟨_, e0, e1, e2⟩ := (hz i).choose_spec hi
  have c0 := hc i 0 hi (by omega)
  have c1 := hc i 1 hi (by omega)
  have c2 := hc i 2 hi (by omega)
  rw [e0] at c0
  rw [e1] at c1
  rw [e2] at c2
  exact ⟨by simpa using c0, c1, c2⟩
end
end Go.Proofs.YtememmgnhnldaaaDoor.Gen
