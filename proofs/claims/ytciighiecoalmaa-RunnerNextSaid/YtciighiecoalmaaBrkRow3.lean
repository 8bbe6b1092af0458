/-
  Rows of three cells.
-/
import Derived.Test.YtciighiecoalmaaOwn
namespace Go.Proofs.Ytciighiecoalmaa.Brk
open Go.RowKit Go.Proofs.Ytciighiecoalmaa.Own

theorem row3 {w : World} {b : Nat} {x y z : Value} {T : TypeId} {fr : Nat × Nat} (h : w.heap[b]? = some (.cells #[x, y, z] T fr)) :
    w.cell? ⟨b, 0, none⟩ = some x ∧ w.cell? ⟨b, 1, none⟩ = some y ∧ w.cell? ⟨b, 2, none⟩ = some z := ⟨at_cell h 0, at_cell h 1, at_cell h 2⟩
theorem frz3 {w : World} {b : Nat} {c : Array Value} {T : TypeId} (h : w.heap[b]? = some (.cells c T (0, 0))) :
    w.frozen? ⟨b, 0, none⟩ = false ∧ w.frozen? ⟨b, 1, none⟩ = false ∧ w.frozen? ⟨b, 2, none⟩ = false := ⟨at_frozen h 0, at_frozen h 1, at_frozen h 2⟩
theorem below_drew {B : Nat} {w w' : World} {m : Nat} (h : Below B w w') : Below B w (w'.drewN m) := ⟨h.os, h.tape, h.output, h.size, h.block⟩
end Go.Proofs.Ytciighiecoalmaa.Brk
