/-
  Layer 12 (lex): pieces that were read, in memory.
-/
import Derived.Test.YtabpkpeonbdinaaDoorLexRead
import Derived.Test.YtabpkpeonbdinaaDoorLexPcs
namespace Go.Proofs.YtabpkpeonbdinaaDoor.Lex
open Go.RowKit Go.Proofs.YtabpkpeonbdinaaDoor.Own

theorem own_pcs {w : World} {B : Nat} {e : TypeId} {v : Value} {n : Nat} {xs : List Pc} (h : w.ownsRow B e 3 v n (pv xs)) (hn : n = xs.length) : ∃ p c, v = .slice p n c ∧ Pcs w xs p c := by
  have hc := @World.ownsRow.cells _ _ _ _ _ _ _ h
  rcases h.2 with ⟨rfl, h0⟩ | ⟨g, cap, cur, rfl, _, hh, h3, h4, _⟩
  · obtain rfl : n = 0 := h0
    exact ⟨none, 0, rfl, by omega, by unfold maxLen; omega, .inl (List.eq_nil_of_length_eq_zero hn.symm)⟩
  · refine ⟨_, cap, rfl, by omega, h4, .inr ⟨g, rfl, at_lt hh, fun i hi => ?_⟩⟩
    obtain ⟨e0, e1, e2⟩ := pv_get hi
    have a0 := hc (g := g) rfl (i * 3) _ e0
    have a1 := hc (g := g) rfl (i * 3 + 1) _ e1
    have a2 := hc (g := g) rfl (i * 3 + 2) _ e2
    rw [add0] at a0 a1 a2
    exact ⟨a0, a1, a2⟩
end Go.Proofs.YtabpkpeonbdinaaDoor.Lex
