/-
  Layer 9 (fault), for a seat without words: errors in memory.
-/
import Derived.Test.YtememmgnhnldaaaDoorOwn
import Derived.WalkKit
namespace Go.Proofs.YtememmgnhnldaaaDoor.Flt
open Go.RowKit Go.Proofs.YtememmgnhnldaaaDoor.Own

structure Lay where
  blk : Nat
  line : Int
  what : List UInt8
def hasB (c a : Int) : Bool := a != 0 && c == a
/-- an error in memory: faults, one around the other, and at the end a Kind -/
def Err (w : World) : Nat → Value → List Lay → Int → Prop
  | _, v, [], c => v = .iface 77 (.int .i64 c)
  | N, v, x :: r, c => v = .iface 110 (.pointer (some ⟨x.blk, 0, none⟩)) ∧ x.blk < N ∧ ∃ u, w.heap[x.blk]? = some (.cells #[.int .i64 x.line, .string ⟨x.what.toArray⟩, u] 112 (0, 0)) ∧ Err w x.blk u r c
theorem Err.same {w w' : World} : ∀ {l : List Lay} {N : Nat} {v : Value} {c : Int}, Err w N v l c → (∀ k o, k < N → w.heap[k]? = some o → w'.heap[k]? = some o) → Err w' N v l c
  | [], _, _, _, h, _ => h
  | _ :: _, _, _, _, ⟨h1, h2, u, h3, h4⟩, hs => ⟨h1, h2, u, hs _ _ h2 h3, Err.same h4 fun k o hk => hs k o (by omega)⟩
theorem Err.more {w : World} : ∀ {l : List Lay} {N N' : Nat} {v : Value} {c : Int}, Err w N v l c → N ≤ N' → Err w N' v l c
  | [], _, _, _, _, h, _ => h
  | _ :: _, _, _, _, _, ⟨h1, h2, u, h3, h4⟩, hs => ⟨h1, Nat.lt_of_lt_of_le h2 hs, u, h3, h4⟩
theorem Err.below {w w' : World} {B N : Nat} {v : Value} {l : List Lay} {c : Int} (h : Err w N v l c) (hb : Below B w w') (hN : N ≤ B) : Err w' N v l c :=
  h.same fun k o hk ho => (hb.block k (by omega)).trans ho
theorem Err.out {w w' : World} {S : Nat → Prop} {N : Nat} {v : Value} {l : List Lay} {c : Int} (h : Err w N v l c) (hb : Out S w w') (hN : ∀ i, S i → N ≤ i) : Err w' N v l c :=
  h.same fun k o hk ho => hb.at_ ho fun hs => by have := hN k hs; omega
/-- how deep an error lies -/
def deep : Value → Nat
  | .iface _ (.pointer (some a)) => a.block + 1
  | _ => 0

/-- what the handle of the package errors holds -/
structure Tab (w : World) : Prop where
  et : w.cell? ⟨0, 0, none⟩ = some (.iface 97 (.agg #[.pointer (some ⟨1, 36, none⟩)]))
theorem Tab.lt {w : World} (h : Tab w) : 0 < w.heap.size := World.block_lt_of_cell? w _ h.et
theorem Tab.below {w w' : World} (h : Tab w) (hb : Below w.heap.size w w') : Tab w' := ⟨(hb.cell (p := ⟨_, 0, none⟩) h.lt).trans h.et⟩
theorem Tab.out {w w' : World} {S : Nat → Prop} (h : Tab w) (hb : Out S w w') (h2 : ¬ S 0) : Tab w' := ⟨(hb.cell (p := ⟨_, 0, none⟩) h.lt h2).trans h.et⟩
end Go.Proofs.YtememmgnhnldaaaDoor.Flt
