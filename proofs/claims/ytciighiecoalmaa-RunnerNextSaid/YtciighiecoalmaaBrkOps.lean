/-
  Layer 14 (brk): ops in memory.
-/
import Derived.Test.YtciighiecoalmaaProg
import Derived.Test.YtciighiecoalmaaBrkOpP
import Derived.Test.YtciighiecoalmaaBrkRow3
import Derived.Test.YtciighiecoalmaaOwnRow
import Derived.Laws.OwnMore
namespace Go.Proofs.Ytciighiecoalmaa.Brk
open Go.RowKit Go.Proofs.Ytciighiecoalmaa.Own

def ov1 (x : Op) : List Value := [.int .i64 x.k, .string ⟨x.s.toArray⟩, .int .i64 x.n]
def ov (L : List Op) : List Value := L.flatMap ov1
theorem ov_len (L : List Op) : (ov L).length = L.length * 3 := by
  induction L with
  | nil => rfl
  | cons x r ih =>
    have : ov (x :: r) = ov1 x ++ ov r := rfl
    rw [this, List.length_append, ih]
    simp [ov1]; omega
theorem ov_app (L M : List Op) : ov (L ++ M) = ov L ++ ov M := by simp [ov]
theorem ov_one (x : Op) : ov [x] = ov1 x := by simp [ov]
theorem ov_get {L : List Op} {i : Nat} (h : i < L.length) (j : Nat) (hj : j < 3) : (ov L)[i * 3 + j]? = (ov1 L[i])[j]? := by
  induction L generalizing i with
  | nil => simp at h
  | cons x r ih =>
    have e : ov (x :: r) = ov1 x ++ ov r := rfl
    have l3 : (ov1 x).length = 3 := rfl
    rw [e]
    cases i with
    | zero => rw [List.getElem?_append_left (by omega)]; simp
    | succ i =>
      rw [List.getElem?_append_right (by omega), show (i + 1) * 3 + j - (ov1 x).length = i * 3 + j by omega]
      exact ih (by simpa using h)
theorem ov_last (L : List Op) (y : Op) : (ov (L ++ [y]))[L.length * 3]? = some (.int .i64 y.k) ∧ (ov (L ++ [y]))[L.length * 3 + 1]? = some (.string ⟨y.s.toArray⟩) ∧ (ov (L ++ [y]))[L.length * 3 + 2]? = some (.int .i64 y.n) := by
  have h : L.length < (L ++ [y]).length := by simp
  have e : (L ++ [y])[L.length] = y := by simp
  have h0 := ov_get h 0 (by omega)
  have h1 := ov_get h 1 (by omega)
  have h2 := ov_get h 2 (by omega)
  rw [e] at h0 h1 h2
  exact ⟨h0, h1, h2⟩
theorem ov_set1 (L : List Op) (y : Op) (s : List UInt8) : (ov (L ++ [y])).set (L.length * 3 + 1) (.string ⟨s.toArray⟩) = ov (L ++ [⟨y.k, s, y.n⟩]) := by
  rw [ov_app, ov_app, ov_one, ov_one, List.set_append_right _ _ (by rw [ov_len]; omega), ov_len, show L.length * 3 + 1 - L.length * 3 = 1 by omega]
  rfl
theorem ov_set2 (L : List Op) (y : Op) (n : Int) : (ov (L ++ [y])).set (L.length * 3 + 2) (.int .i64 n) = ov (L ++ [⟨y.k, y.s, n⟩]) := by
  rw [ov_app, ov_app, ov_one, ov_one, List.set_append_right _ _ (by rw [ov_len]; omega), ov_len, show L.length * 3 + 2 - L.length * 3 = 2 by omega]
  rfl
theorem ov_set0 (L : List Op) (y : Op) (k : Int) : (ov (L ++ [y])).set (L.length * 3) (.int .i64 k) = ov (L ++ [⟨k, y.s, y.n⟩]) := by
  rw [ov_app, ov_app, ov_one, ov_one, List.set_append_right _ _ (by rw [ov_len]; omega), ov_len, show L.length * 3 - L.length * 3 = 0 by omega]
  rfl
theorem info_op : (Try.prog.info? 42).map (fun i => (i.zero, i.size, i.bytes)) = some (some (.agg #[.int .i64 0, .string ⟨#[]⟩, .int .i64 0]), 3, 32) := by kernel_rfl

/-- ops in an array of the call's own -/
abbrev Mine (w : World) (B : Nat) (v : Value) (L : List Op) : Prop := w.ownsRow B 42 3 v L.length (ov L)
theorem mine_form {w : World} {B : Nat} {v : Value} {L : List Op} (h : Mine w B v L) : ∃ p c, v = .slice p L.length c ∧ L.length ≤ c ∧ c ≤ maxLen := by
  rcases h.2 with ⟨rfl, h0⟩ | ⟨g, cap, cur, rfl, _, hh, h3, h4, _⟩
  · exact ⟨none, 0, by rw [h0], by omega, by unfold maxLen; omega⟩
  · exact ⟨_, cap, rfl, h3, h4⟩
theorem mine_last {w : World} {B : Nat} {v : Value} {L : List Op} {y : Op} (h : Mine w B v (L ++ [y])) :
    ∃ g c, v = .slice (some ⟨g, 0, none⟩) (L.length + 1) c ∧ B ≤ g ∧ g < w.heap.size ∧ L.length + 1 ≤ c ∧ c ≤ maxLen ∧
      w.cell? ⟨g, L.length * 3, none⟩ = some (.int .i64 y.k) ∧ w.cell? ⟨g, L.length * 3 + 1, none⟩ = some (.string ⟨y.s.toArray⟩) ∧ w.cell? ⟨g, L.length * 3 + 2, none⟩ = some (.int .i64 y.n) ∧
      w.frozen? ⟨g, L.length * 3, none⟩ = false ∧ w.frozen? ⟨g, L.length * 3 + 1, none⟩ = false ∧ w.frozen? ⟨g, L.length * 3 + 2, none⟩ = false := by
  have hl : (L ++ [y]).length = L.length + 1 := by simp
  obtain ⟨c0, c1, c2⟩ := ov_last L y
  have hc := @World.ownsRow.cells _ _ _ _ _ _ _ h
  rcases h.2 with ⟨rfl, h0⟩ | ⟨g, cap, cur, rfl, hB, hh, h3, h4, _⟩
  · rw [hl] at h0; omega
  · rw [hl] at h3
    have a0 := hc (g := g) rfl _ _ c0
    have a1 := hc (g := g) rfl _ _ c1
    have a2 := hc (g := g) rfl _ _ c2
    rw [add0] at a0 a1 a2
    exact ⟨g, cap, by rw [hl], hB, at_lt hh, h3, h4, a0, a1, a2, at_frozen hh _, at_frozen hh _, at_frozen hh _⟩
theorem mine_set {w : World} {B g c n : Nat} {L M : List Op} (h : Mine w B (.slice (some ⟨g, 0, none⟩) n c) L) (hn : n = L.length) (j : Nat) (u : Value) (e : (ov L).set j u = ov M) (hM : M.length = L.length) : Mine (w.setCell ⟨g, j, none⟩ u) B (.slice (some ⟨g, 0, none⟩) n c) M := by
  subst hn
  have := (World.ownsRow.stored h j u).1
  rw [e] at this
  unfold Mine
  rw [hM]
  exact this
theorem mine_below {w w' : World} {B : Nat} {v : Value} {L : List Op} (h : Mine w B v L) (hb : Below w.heap.size w w') : Mine w' B v L := own_below h hb
theorem mine_more {w : World} {B n : Nat} {v : Value} {L : List Op} {x : Op} (h : w.ownsRow B 42 3 v (n + 1) (ov L ++ [.int .i64 x.k, .string ⟨x.s.toArray⟩, .int .i64 x.n])) (hn : n = L.length) : Mine w B v (L ++ [x]) := by
  subst hn
  unfold Mine
  rw [List.length_append, ov_app, ov_one]
  exact h

/-- a slice that holds ops -/
structure Ops (w : World) (L : List Op) (p : Option Addr) (c : Nat) : Prop where
  cap : L.length ≤ c
  max : c ≤ maxLen
  cells : L = [] ∨ ∃ b o, p = some ⟨b, o, none⟩ ∧ b < w.heap.size ∧ ∀ i (hi : i < L.length), w.cell? ⟨b, o + i * 3, none⟩ = some (.int .i64 L[i].k) ∧ w.cell? ⟨b, o + i * 3 + 1, none⟩ = some (.string ⟨L[i].s.toArray⟩) ∧ w.cell? ⟨b, o + i * 3 + 2, none⟩ = some (.int .i64 L[i].n)
theorem Ops.below {w w' : World} {L : List Op} {p : Option Addr} {c : Nat} (h : Ops w L p c) (hb : Below w.heap.size w w') : Ops w' L p c :=
  ⟨h.cap, h.max, h.cells.imp id fun ⟨b, o, e, hl, k⟩ => ⟨b, o, e, Nat.lt_of_lt_of_le hl hb.size, fun i hi => by
    obtain ⟨k0, k1, k2⟩ := k i hi
    exact ⟨(hb.cell (p := ⟨b, _, none⟩) hl).trans k0, (hb.cell (p := ⟨b, _, none⟩) hl).trans k1, (hb.cell (p := ⟨b, _, none⟩) hl).trans k2⟩⟩⟩
theorem Mine.ops {w : World} {B : Nat} {v : Value} {L : List Op} (h : Mine w B v L) : ∃ p c, v = .slice p L.length c ∧ Ops w L p c := by
  have hc := @World.ownsRow.cells _ _ _ _ _ _ _ h
  rcases h.2 with ⟨rfl, h0⟩ | ⟨g, cap, cur, rfl, _, hh, h3, h4, _⟩
  · exact ⟨none, 0, by rw [h0], by omega, by unfold maxLen; omega, .inl (List.eq_nil_of_length_eq_zero h0)⟩
  · refine ⟨_, cap, rfl, h3, h4, .inr ⟨g, 0, rfl, at_lt hh, fun i hi => ?_⟩⟩
    have e0 := ov_get hi 0 (by omega)
    have e1 := ov_get hi 1 (by omega)
    have e2 := ov_get hi 2 (by omega)
    have a0 := hc (g := g) rfl _ _ (e0.trans rfl)
    have a1 := hc (g := g) rfl _ _ (e1.trans rfl)
    have a2 := hc (g := g) rfl _ _ (e2.trans rfl)
    rw [add0] at a0 a1 a2
    rw [Nat.zero_add]
    exact ⟨a0, a1, a2⟩
end Go.Proofs.Ytciighiecoalmaa.Brk
