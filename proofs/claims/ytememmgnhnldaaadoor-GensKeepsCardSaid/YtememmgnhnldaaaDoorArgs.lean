/-
  What came in: slices of strings, of structs of one-cell fields, out of their readings.
-/
import Derived.Test.YtememmgnhnldaaaDoorOwn
import Derived.SliceStrings
import Derived.Deep.Slices
import Derived.Deep.Fields
import Derived.ChangeSame
import Derived.WideShapes
namespace Go.Proofs.YtememmgnhnldaaaDoor.Own
open Go.RowKit Go.ChangeShapes Go.WideShapes Go.Deep

/-- a slice that came in: n elements of so many cells each -/
def Row (w : World) (v : Value) (n size : Nat) (E : Nat → Nat → Value) : Prop :=
  ∃ a cap, v = .slice a n cap ∧ n ≤ cap ∧ cap ≤ maxLen ∧ (n = 0 ∨ ∃ b off, a = some ⟨b, off, none⟩ ∧ b < w.heap.size ∧ ∀ i j, i < n → j < size → w.cell? ⟨b, off + i * size + j, none⟩ = some (E i j))

theorem Row.below {w w' : World} {v : Value} {n size : Nat} {E : Nat → Nat → Value} (h : Row w v n size E) (hb : Below w.heap.size w w') : Row w' v n size E := by
  obtain ⟨a, cap, rfl, h1, h2, h3⟩ := h
  refine ⟨a, cap, rfl, h1, h2, h3.imp id ?_⟩
  rintro ⟨b, off, rfl, h4, h5⟩
  exact ⟨b, off, rfl, Nat.lt_of_lt_of_le h4 hb.size, fun i j hi hj => by rw [hb.cell h4]; exact h5 i j hi hj⟩

section
variable {H : Type} {enc : TypeId × Value → H} {P : Program} {w : World} {base : Nat} {spare : Nat → Bool} {held : Bool}

theorem args_slice {t e : TypeId} {v : Value} {d : DataW H} {p : List MemPlace} {size : Nat} (ht : P.underlying t = some (.slice e)) (hC : P.cellsOf e = size) (h0 : 0 < size) (h : DataW.Trod enc P w base spare held t v d p) (hv : ∃ a n cap, v = .slice a n cap) :
    ∃ n E, Row w v n size E ∧ ∃ m, ∀ i, i < n → ∃ y, DataW.trod enc P w base spare held m e ((List.range size).map (E i)) = some y := by
  obtain ⟨a, n, cap, rfl⟩ := hv
  obtain ⟨fuel, hf⟩ := h
  rcases open_slice ht hf with ⟨hcs, _⟩ | ⟨x, l, c, m, k, D, Pl, hcs, hb, hl, hm, hmm, hx, hi⟩
  · simp [Value.cells] at hcs
    obtain ⟨rfl, rfl, rfl⟩ := hcs
    exact ⟨0, fun _ _ => undef, ⟨none, 0, rfl, Nat.le_refl _, Nat.zero_le _, .inl rfl⟩, 0, fun i hi => absurd hi (by omega)⟩
  · simp [Value.cells] at hcs
    obtain ⟨rfl, rfl, rfl⟩ := hcs
    rw [hC] at hi
    have hnm : n ≤ m := by rw [hmm]; split <;> omega
    refine ⟨n, fun i j => (w.cell? (x.add (i * size + j))).getD undef, ⟨some x, cap, rfl, hl, hm, ?_⟩, k, ?_⟩
    · by_cases hn : n = 0
      · exact .inl hn
      · right
        obtain ⟨b, off, spot⟩ := x
        obtain ⟨cs0, hc0, _⟩ := hi 0 (by omega)
        obtain ⟨_, _, hat0⟩ := World.cells?_some hc0
        have h00 := hat0 0 h0
        obtain ⟨_, hcl0, _⟩ := World.cells?_some hc0
        have hsp : spot = none := by
          have e : cs0[0]? = some (cs0[0]'(by omega)) := List.getElem?_eq_getElem (by omega)
          rw [e] at h00
          simpa [Addr.add] using World.cell?_spot h00
        subst hsp
        have hadd : ∀ o k, (⟨b, o, none⟩ : Addr).add k = ⟨b, o + k, none⟩ := fun o k => by unfold Addr.add; split <;> simp_all
        refine ⟨b, off, rfl, ?_, ?_⟩
        · have e : cs0[0]? = some (cs0[0]'(by omega)) := List.getElem?_eq_getElem (by omega)
          rw [e] at h00
          have := World.block_lt_of_cell? w _ h00
          simpa [hadd] using this
        · intro i j hin hj
          obtain ⟨cs, hc, _⟩ := hi i (by omega)
          obtain ⟨_, hcl, hat⟩ := World.cells?_some hc
          have hcell := hat j hj
          have e : cs[j]? = some (cs[j]'(by omega)) := List.getElem?_eq_getElem (by omega)
          rw [e] at hcell
          simp only [hadd] at hcell ⊢
          rw [← Nat.add_assoc, hcell]; simp
    · intro i hin
      obtain ⟨cs, hc, ht'⟩ := hi i (by omega)
      obtain ⟨_, hcl, hat⟩ := World.cells?_some hc
      refine ⟨(D i, Pl i), ?_⟩
      rw [← ht']
      congr 1
      apply List.ext_getElem?
      intro j
      by_cases hj : j < size
      · have hcell := hat j hj
        have e : cs[j]? = some (cs[j]'(by omega)) := List.getElem?_eq_getElem (by omega)
        rw [Go.Deep.add_add] at hcell
        rw [List.getElem?_map, List.getElem?_range hj, e]
        rw [e] at hcell
        simp [hcell]
      · rw [List.getElem?_eq_none (by simp; omega), List.getElem?_eq_none (by omega)]

variable {m : Nat} {y : DataW H × List MemPlace}
/-- a field of a struct -/
theorem leaf_field {e : TypeId} {fs : Array Field} {size : Nat} {E : Nat → Value} (he : P.underlying e = some (.struct fs)) (h : DataW.trod enc P w base spare held m e ((List.range size).map E) = some y)
    (j : Nat) (f : Field) (hf : fs[j]? = some f) (o c : Nat) (ho : f.offset = o) (hc : P.cellsOf f.type = c) (hs : o + c ≤ size) : ∃ m' y', DataW.trod enc P w base spare held m' f.type ((List.range c).map fun k => E (o + k)) = some y' := by
  obtain ⟨xs, n, _, _, _, hlen, hyl⟩ := DataW.trod_struct he h
  have hj : j < fs.size := (Array.getElem?_eq_some_iff.1 hf).1
  refine ⟨n, xs[j]'(by omega), ?_⟩
  have := hyl j f hf
  rw [ho, hc, List.getElem?_eq_getElem (by omega)] at this
  rw [← this]
  congr 1
  apply List.ext_getElem?
  intro k
  by_cases hk : k < c
  · rw [List.getElem?_map, List.getElem?_range hk, List.getElem?_take, if_pos hk, List.getElem?_drop, List.getElem?_map, List.getElem?_range (by omega)]; rfl
  · rw [List.getElem?_eq_none (by simp; omega), List.getElem?_eq_none (by simp; omega)]
theorem leaf_int {t : TypeId} {k : IntKind} {E : Nat → Value} (ht : P.underlying t = some (.int k)) (h : DataW.trod enc P w base spare held m t ((List.range 1).map E) = some y) : ∃ n, E 0 = .int k n ∧ (Lit.int k n).wf = true := by
  obtain ⟨n, hn, _, hw⟩ := DataW.trod_int ht h
  exact ⟨n, by simpa using hn, hw⟩
theorem leaf_string {t : TypeId} {E : Nat → Value} (ht : P.underlying t = some .string) (h : DataW.trod enc P w base spare held m t ((List.range 1).map E) = some y) : ∃ s, E 0 = .string s ∧ s.size ≤ maxLen := by
  obtain ⟨n, hn, _, hw⟩ := DataW.trod_string ht h
  exact ⟨n, by simpa using hn, hw⟩
theorem leaf_bool {t : TypeId} {E : Nat → Value} (ht : P.underlying t = some .bool) (h : DataW.trod enc P w base spare held m t ((List.range 1).map E) = some y) : ∃ b, E 0 = .bool b := by
  obtain ⟨n, hn, _⟩ := DataW.trod_bool ht h
  exact ⟨n, by simpa using hn⟩
theorem wf64 {n : Int} (h : (Lit.int .i64 n).wf = true) : -9223372036854775808 ≤ n ∧ n ≤ 9223372036854775807 := by
  simpa [Lit.wf, IntKind.min, IntKind.max, IntKind.bits, IntKind.signed] using h
theorem wf8 {n : Int} (h : (Lit.int .u8 n).wf = true) : 0 ≤ n ∧ n ≤ 255 := by
  simpa [Lit.wf, IntKind.min, IntKind.max, IntKind.bits, IntKind.signed] using h
theorem wf16 {n : Int} (h : (Lit.int .u16 n).wf = true) : 0 ≤ n ∧ n ≤ 65535 := by
  simpa [Lit.wf, IntKind.min, IntKind.max, IntKind.bits, IntKind.signed] using h

/-- a slice of strings that came in -/
theorem args_strings {t e : TypeId} {v : Value} {d : DataW H} {p : List MemPlace} (ht : P.underlying t = some (.slice e)) (he : P.underlying e = some .string) (hC : P.cellsOf e = 1) (h : DataW.Trod enc P w base spare held t v d p) (hv : ∃ a n cap, v = .slice a n cap) :
    ∃ n E, Row w v n 1 E ∧ ∀ i, i < n → ∃ s, E i 0 = .string s ∧ s.size ≤ maxLen := by
  obtain ⟨n, E, hr, m, hm⟩ := args_slice ht hC (by omega) h hv
  refine ⟨n, E, hr, fun i hi => ?_⟩
  obtain ⟨y, hy⟩ := hm i hi
  exact leaf_string he hy
end
end Go.Proofs.YtememmgnhnldaaaDoor.Own
