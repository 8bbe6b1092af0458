/-
  Layer 12 (lex): pieces in memory.
-/
import Derived.Test.YtabpkpeonbdinaaDoorLexPlain
import Derived.Test.YtabpkpeonbdinaaDoorOwnRow
namespace Go.Proofs.YtabpkpeonbdinaaDoor.Lex
open Go.RowKit Go.Proofs.YtabpkpeonbdinaaDoor.Own

/-- a slice that holds pieces -/
structure Pcs (w : World) (xs : List Pc) (p : Option Addr) (c : Nat) : Prop where
  cap : xs.length ≤ c
  max : c ≤ maxLen
  cells : xs = [] ∨ ∃ b, p = some ⟨b, 0, none⟩ ∧ b < w.heap.size ∧ ∀ i (hi : i < xs.length), w.cell? ⟨b, i * 3, none⟩ = some (.int .i64 xs[i].kind) ∧ w.cell? ⟨b, i * 3 + 1, none⟩ = some (.string ⟨xs[i].text.toArray⟩) ∧ w.cell? ⟨b, i * 3 + 2, none⟩ = some (.int .i64 xs[i].line)
theorem Pcs.kept {w w' : World} {xs : List Pc} {p : Option Addr} {c : Nat} (h : Pcs w xs p c) (hb : Below w.heap.size w w') : Pcs w' xs p c :=
  ⟨h.cap, h.max, h.cells.imp id fun ⟨b, e, hl, k⟩ => ⟨b, e, Nat.lt_of_lt_of_le hl hb.size, fun i hi => by
    obtain ⟨k0, k1, k2⟩ := k i hi
    exact ⟨(hb.cell (p := ⟨b, _, none⟩) hl).trans k0, (hb.cell (p := ⟨b, _, none⟩) hl).trans k1, (hb.cell (p := ⟨b, _, none⟩) hl).trans k2⟩⟩⟩
theorem Pcs.out {w w' : World} {xs : List Pc} {p : Option Addr} {c : Nat} {S : Nat → Prop} (h : Pcs w xs p c) (hb : Out S w w') (hS : ∀ a, p = some a → ¬ S a.block) : Pcs w' xs p c :=
  ⟨h.cap, h.max, h.cells.imp id fun ⟨b, e, hl, k⟩ => ⟨b, e, Nat.lt_of_lt_of_le hl hb.size, fun i hi => by
    obtain ⟨k0, k1, k2⟩ := k i hi
    have hn : ¬ S b := hS _ e
    exact ⟨(hb.cell (p := ⟨b, _, none⟩) hl hn).trans k0, (hb.cell (p := ⟨b, _, none⟩) hl hn).trans k1, (hb.cell (p := ⟨b, _, none⟩) hl hn).trans k2⟩⟩⟩
end Go.Proofs.YtabpkpeonbdinaaDoor.Lex
