/-
  Slices of one-cell values: rows of texts, rows of bools; what a call's own row tells.
-/
import Derived.Test.YtememmgnhnldaaaDoorOwnRow
import Derived.Test.YtememmgnhnldaaaDoorArgs
import Derived.Deep.DeepCutAuto
import Derived.Deep.QuietTactic
import Derived.BigQuiet
import Derived.WalkKit
import Derived.Lib.Hide
namespace Go.Proofs.YtememmgnhnldaaaDoor.Rw
open Go.RowKit Go.Proofs.YtememmgnhnldaaaDoor.Own

/-- a slice of one-cell values -/
structure Row1 (w : World) (p : Option Addr) (c : Nat) (xs : List Value) : Prop where
  cap : xs.length ≤ c
  max : c ≤ maxLen
  cells : xs = [] ∨ ∃ b o, p = some ⟨b, o, none⟩ ∧ b < w.heap.size ∧ ∀ i x, xs[i]? = some x → w.cell? ⟨b, o + i, none⟩ = some x
theorem Row1.below {w w' : World} {p : Option Addr} {c : Nat} {xs : List Value} (h : Row1 w p c xs) (hb : Below w.heap.size w w') : Row1 w' p c xs :=
  ⟨h.cap, h.max, h.cells.imp id fun ⟨b, o, e, hl, k⟩ => ⟨b, o, e, Nat.lt_of_lt_of_le hl hb.size, fun i x hx => (hb.cell (p := ⟨b, o + i, none⟩) hl).trans (k i x hx)⟩⟩
theorem own_cell {w : World} {B : Nat} {e : TypeId} {v : Value} {n g c : Nat} {xs : List Value} (h : w.ownsRow B e 1 v n xs) (hv : v = .slice (some ⟨g, 0, none⟩) n c) {i : Nat} {x : Value} (hx : xs[i]? = some x) : w.cell? ⟨g, i, none⟩ = some x := by
  have hc := @World.ownsRow.cells _ _ _ _ _ _ _ h
  have := hc (g := g) (by rw [hv]; rfl) i x hx
  rwa [add0] at this
theorem own_shape {w : World} {B : Nat} {e : TypeId} {v : Value} {n : Nat} {xs : List Value} (h : w.ownsRow B e 1 v n xs) (hn : 0 < n) : ∃ g c, v = .slice (some ⟨g, 0, none⟩) n c ∧ B ≤ g ∧ g < w.heap.size ∧ n ≤ c ∧ c ≤ maxLen := by
  rcases h.2 with ⟨rfl, h0⟩ | ⟨g, cap, cur, rfl, hb, hh, h3, h4, _⟩
  · omega
  · exact ⟨g, cap, rfl, hb, at_lt hh, h3, h4⟩
theorem owns_row {w : World} {B : Nat} {e : TypeId} {v : Value} {n : Nat} {xs : List Value} (h : w.ownsRow B e 1 v n xs) (hn : n = xs.length) : ∃ p c, v = .slice p n c ∧ Row1 w p c xs := by
  rcases h.2 with ⟨rfl, h0⟩ | ⟨g, cap, cur, rfl, _, hh, h3, h4, _⟩
  · obtain rfl : n = 0 := h0
    exact ⟨none, 0, rfl, by omega, by unfold maxLen; omega, .inl (List.eq_nil_of_length_eq_zero hn.symm)⟩
  · refine ⟨_, cap, rfl, by omega, h4, .inr ⟨g, 0, rfl, at_lt hh, fun i x hx => ?_⟩⟩
    rw [Nat.zero_add]
    exact own_cell h rfl hx
theorem own_base {w : World} {B B' e size n : Nat} {v : Value} {xs : List Value} (h : w.ownsRow B' e size v n xs) (hb : B ≤ B') : w.ownsRow B e size v n xs := by
  refine ⟨h.1, h.2.imp id fun ⟨g, cap, cur, hv, hg, r⟩ => ⟨g, cap, cur, hv, by omega, r⟩⟩
theorem own_new (w : World) (xs : List Value) (e : TypeId) (g : Nat) (hg : g = w.heap.size) (hl : xs.length ≤ maxLen) : (w.alloc (.cells xs.toArray e (0, 0))).ownsRow w.heap.size e 1 (.slice (some ⟨g, 0, none⟩) xs.length xs.length) xs.length xs := by
  subst hg
  exact ⟨by omega, .inr ⟨_, _, xs.toArray, rfl, Nat.le_refl _, at_new w _, Nat.le_refl _, hl, by simp, by simp⟩⟩
theorem one_new (w : World) (x : Value) (T : TypeId) (g : Nat) (hg : g = w.heap.size) : ∀ ad, some (⟨g, 0, none⟩ : Addr) = some ad → ∀ j u, [x][j]? = some u → (w.alloc (.cells #[x] T (0, 0))).cell? (ad.add j) = some u := by
  subst hg
  rintro ad ⟨⟩ j u hu
  rw [add0, at_cell (at_new w _)]
  simpa using hu
theorem below_drew {B : Nat} {a w : World} (h : Below B a w) {q : Nat} : Below B a (w.drewN q) := ⟨h.os, h.tape, h.output, h.size, h.block⟩

/-! ### rows of texts -/
def str (l : List UInt8) : Value := .string ⟨l.toArray⟩
def strs (ts : List (List UInt8)) : List Value := ts.map str
theorem strs_len (ts : List (List UInt8)) : (strs ts).length = ts.length := by simp [strs]
theorem strs_app (ts us : List (List UInt8)) : strs (ts ++ us) = strs ts ++ strs us := by simp [strs]
theorem strs_at {ts : List (List UInt8)} {i : Nat} (h : i < ts.length) : (strs ts)[i]? = some (str ts[i]) := by simp [strs, h]
structure Texts (w : World) (p : Option Addr) (c : Nat) (ts : List (List UInt8)) : Prop where
  row : Row1 w p c (strs ts)
theorem Texts.below {w w' : World} {p : Option Addr} {c : Nat} {ts : List (List UInt8)} (h : Texts w p c ts) (hb : Below w.heap.size w w') : Texts w' p c ts := ⟨h.row.below hb⟩
theorem Texts.cap {w : World} {p : Option Addr} {c : Nat} {ts : List (List UInt8)} (h : Texts w p c ts) : ts.length ≤ c ∧ c ≤ maxLen := ⟨by have := h.row.cap; rwa [strs_len] at this, h.row.max⟩
theorem Texts.cells {w : World} {p : Option Addr} {c : Nat} {ts : List (List UInt8)} (h : Texts w p c ts) : ts = [] ∨ ∃ b o, p = some ⟨b, o, none⟩ ∧ b < w.heap.size ∧ ∀ i (hi : i < ts.length), w.cell? ⟨b, o + i, none⟩ = some (str ts[i]) := by
  rcases h.row.cells with h0 | ⟨b, o, e, hl, k⟩
  · exact .inl (by simpa [strs] using h0)
  · exact .inr ⟨b, o, e, hl, fun i hi => k i _ (strs_at hi)⟩
theorem texts_own {w : World} {B n : Nat} {e : TypeId} {v : Value} {ts : List (List UInt8)} (h : w.ownsRow B e 1 v n (strs ts)) (hn : n = ts.length) : ∃ p c, v = .slice p n c ∧ Texts w p c ts := by
  obtain ⟨p, c, e, hr⟩ := owns_row h (by rw [strs_len]; exact hn)
  exact ⟨p, c, e, ⟨hr⟩⟩
theorem texts_nil (w : World) : Texts w none 0 [] := ⟨⟨Nat.le_refl _, by unfold maxLen; omega, .inl rfl⟩⟩
theorem str_eq (s : ByteArray) : .string s = str s.data.toList := rfl

end Go.Proofs.YtememmgnhnldaaaDoor.Rw
