/-
What came in: slices of strings, of structs of one-cell fields, out of their readings.
Slices of one-cell values: rows of texts, rows of bools; what a call's own row tells.
Bytes in a block known whole: append where there is room, make.
Layer 11 (store): a store in memory: the box, the map, the rows of bytes.
Layer 9 (fault), for a seat without words: errors in memory.
Layer 9 (fault): New, Wrap, walked.
Layer 11 (store): names, errors, and what comes ahead of each call that writes.
Layer 11 (store): New, Fail, Read.
Layer 11 (store): drop, Append, Sync where they go on.
Layer 11 (store): Append that is full; Sync, Remove, Rename behind what is told ahead of each.
-/
import Derived.Test.YtngangdjbbbbdaaGreatDoorPack1
import Derived.SliceStrings
import Derived.Deep.Slices
import Derived.Deep.Fields
import Derived.ChangeSame
import Derived.WideShapes
import Derived.Deep.DeepCutAuto
import Derived.Deep.QuietTactic
import Derived.BigQuiet
import Derived.WalkKit
import Derived.Lib.Hide
import Derived.Test.YtngangdjbbbbdaaGreatDoorProg
import Derived.WalkSpells
import Derived.OwnWalk
import Derived.Lib.AppendStr
import Derived.StringKeys
import Derived.StillTailTactics
import Derived.Maps.OwnSet
import Derived.Maps.OwnOps
section
namespace Go.Proofs.YtngangdjbbbbdaaGreatDoor.Own
open Go.RowKit Go.ChangeShapes Go.WideShapes Go.Deep

/-- a slice that came in: n elements of so many cells each -/
def Row (w : World) (v : Value) (n size : Nat) (E : Nat → Nat → Value) : Prop :=
  ∃ a cap, v = .slice a n cap ∧ n ≤ cap ∧ cap ≤ maxLen ∧ (n = 0 ∨ ∃ b off, a = some ⟨b, off, none⟩ ∧ b < w.heap.size ∧ ∀ i j, i < n → j < size → w.cell? ⟨b, off + i * size + j, none⟩ = some (E i j))

theorem Row.below {w w' : World} {v : Value} {n size : Nat} {E : Nat → Nat → Value} (h : Row w v n size E) (hb : Below w.heap.size w w') : Row w' v n size E := by
  obtain ⟨a, cap, rfl, h1, h2, h3⟩ := h
  refine ⟨a, cap, rfl, h1, h2, h3.imp id ?_⟩
  rintro ⟨b, off, rfl, h4, h5⟩
  exact ⟨b, off, rfl, Nat.lt_of_lt_of_le h4 hb.size, fun i j hi hj => by rw [hb.cell h4]; exact h5 i j hi hj⟩

section
variable {H : Type} {enc : TypeId × Value → H} {P : Program} {w : World} {base : Nat} {spare : Nat → Bool} {held : Bool}

theorem args_slice {t e : TypeId} {v : Value} {d : DataW H} {p : List MemPlace} {size : Nat} (ht : P.underlying t = some (.slice e)) (hC : P.cellsOf e = size) (h0 : 0 < size) (h : DataW.Trod enc P w base spare held t v d p) (hv : ∃ a n cap, v = .slice a n cap) :
    ∃ n E, Row w v n size E ∧ ∃ m, ∀ i, i < n → ∃ y, DataW.trod enc P w base spare held m e ((List.range size).map (E i)) = some y := by
  obtain ⟨a, n, cap, rfl⟩ := hv
  obtain ⟨fuel, hf⟩ := h
  rcases open_slice ht hf with ⟨hcs, _⟩ | ⟨x, l, c, m, k, D, Pl, hcs, hb, hl, hm, hmm, hx, hi⟩
  · simp [Value.cells] at hcs
    obtain ⟨rfl, rfl, rfl⟩ := hcs
    exact ⟨0, fun _ _ => undef, ⟨none, 0, rfl, Nat.le_refl _, Nat.zero_le _, .inl rfl⟩, 0, fun i hi => absurd hi (by omega)⟩
  · simp [Value.cells] at hcs
    obtain ⟨rfl, rfl, rfl⟩ := hcs
    rw [hC] at hi
    have hnm : n ≤ m := by rw [hmm]; split <;> omega
    refine ⟨n, fun i j => (w.cell? (x.add (i * size + j))).getD undef, ⟨some x, cap, rfl, hl, hm, ?_⟩, k, ?_⟩
    · by_cases hn : n = 0
      · exact .inl hn
      · right
        obtain ⟨b, off, spot⟩ := x
        obtain ⟨cs0, hc0, _⟩ := hi 0 (by omega)
        obtain ⟨_, _, hat0⟩ := World.cells?_some hc0
        have h00 := hat0 0 h0
        obtain ⟨_, hcl0, _⟩ := World.cells?_some hc0
        have hsp : spot = none := by
          have e : cs0[0]? = some (cs0[0]'(by omega)) := List.getElem?_eq_getElem (by omega)
          rw [e] at h00
          simpa [Addr.add] using World.cell?_spot h00
        subst hsp
        have hadd : ∀ o k, (⟨b, o, none⟩ : Addr).add k = ⟨b, o + k, none⟩ := fun o k => by unfold Addr.add; split <;> simp_all
        refine ⟨b, off, rfl, ?_, ?_⟩
        · have e : cs0[0]? = some (cs0[0]'(by omega)) := List.getElem?_eq_getElem (by omega)
          rw [e] at h00
          have := World.block_lt_of_cell? w _ h00
          simpa [hadd] using this
        · intro i j hin hj
          obtain ⟨cs, hc, _⟩ := hi i (by omega)
          obtain ⟨_, hcl, hat⟩ := World.cells?_some hc
          have hcell := hat j hj
          have e : cs[j]? = some (cs[j]'(by omega)) := List.getElem?_eq_getElem (by omega)
          rw [e] at hcell
          simp only [hadd] at hcell ⊢
          rw [← Nat.add_assoc, hcell]; simp
    · intro i hin
      obtain ⟨cs, hc, ht'⟩ := hi i (by omega)
      obtain ⟨_, hcl, hat⟩ := World.cells?_some hc
      refine ⟨(D i, Pl i), ?_⟩
      rw [← ht']
      congr 1
      apply List.ext_getElem?
      intro j
      by_cases hj : j < size
      · have hcell := hat j hj
        have e : cs[j]? = some (cs[j]'(by omega)) := List.getElem?_eq_getElem (by omega)
        rw [Go.Deep.add_add] at hcell
        rw [List.getElem?_map, List.getElem?_range hj, e]
        rw [e] at hcell
        simp [hcell]
      · rw [List.getElem?_eq_none (by simp; omega), List.getElem?_eq_none (by omega)]

variable {m : Nat} {y : DataW H × List MemPlace}
/-- a field of a struct -/
theorem leaf_field {e : TypeId} {fs : Array Field} {size : Nat} {E : Nat → Value} (he : P.underlying e = some (.struct fs)) (h : DataW.trod enc P w base spare held m e ((List.range size).map E) = some y)
    (j : Nat) (f : Field) (hf : fs[j]? = some f) (o c : Nat) (ho : f.offset = o) (hc : P.cellsOf f.type = c) (hs : o + c ≤ size) : ∃ m' y', DataW.trod enc P w base spare held m' f.type ((List.range c).map fun k => E (o + k)) = some y' := by
  obtain ⟨xs, n, _, _, _, hlen, hyl⟩ := DataW.trod_struct he h
  have hj : j < fs.size := (Array.getElem?_eq_some_iff.1 hf).1
  refine ⟨n, xs[j]'(by omega), ?_⟩
  have := hyl j f hf
  rw [ho, hc, List.getElem?_eq_getElem (by omega)] at this
  rw [← this]
  congr 1
  apply List.ext_getElem?
  intro k
  by_cases hk : k < c
  · rw [List.getElem?_map, List.getElem?_range hk, List.getElem?_take, if_pos hk, List.getElem?_drop, List.getElem?_map, List.getElem?_range (by omega)]; rfl
  · rw [List.getElem?_eq_none (by simp; omega), List.getElem?_eq_none (by simp; omega)]
theorem leaf_int {t : TypeId} {k : IntKind} {E : Nat → Value} (ht : P.underlying t = some (.int k)) (h : DataW.trod enc P w base spare held m t ((List.range 1).map E) = some y) : ∃ n, E 0 = .int k n ∧ (Lit.int k n).wf = true := by
  obtain ⟨n, hn, _, hw⟩ := DataW.trod_int ht h
  exact ⟨n, by simpa using hn, hw⟩
theorem leaf_string {t : TypeId} {E : Nat → Value} (ht : P.underlying t = some .string) (h : DataW.trod enc P w base spare held m t ((List.range 1).map E) = some y) : ∃ s, E 0 = .string s ∧ s.size ≤ maxLen := by
  obtain ⟨n, hn, _, hw⟩ := DataW.trod_string ht h
  exact ⟨n, by simpa using hn, hw⟩
theorem leaf_bool {t : TypeId} {E : Nat → Value} (ht : P.underlying t = some .bool) (h : DataW.trod enc P w base spare held m t ((List.range 1).map E) = some y) : ∃ b, E 0 = .bool b := by
  obtain ⟨n, hn, _⟩ := DataW.trod_bool ht h
  exact ⟨n, by simpa using hn⟩
theorem wf64 {n : Int} (h : (Lit.int .i64 n).wf = true) : -9223372036854775808 ≤ n ∧ n ≤ 9223372036854775807 := by
  simpa [Lit.wf, IntKind.min, IntKind.max, IntKind.bits, IntKind.signed] using h
theorem wf8 {n : Int} (h : (Lit.int .u8 n).wf = true) : 0 ≤ n ∧ n ≤ 255 := by
  simpa [Lit.wf, IntKind.min, IntKind.max, IntKind.bits, IntKind.signed] using h
theorem wf16 {n : Int} (h : (Lit.int .u16 n).wf = true) : 0 ≤ n ∧ n ≤ 65535 := by
  simpa [Lit.wf, IntKind.min, IntKind.max, IntKind.bits, IntKind.signed] using h

/-- a slice of strings that came in -/
theorem args_strings {t e : TypeId} {v : Value} {d : DataW H} {p : List MemPlace} (ht : P.underlying t = some (.slice e)) (he : P.underlying e = some .string) (hC : P.cellsOf e = 1) (h : DataW.Trod enc P w base spare held t v d p) (hv : ∃ a n cap, v = .slice a n cap) :
    ∃ n E, Row w v n 1 E ∧ ∀ i, i < n → ∃ s, E i 0 = .string s ∧ s.size ≤ maxLen := by
  obtain ⟨n, E, hr, m, hm⟩ := args_slice ht hC (by omega) h hv
  refine ⟨n, E, hr, fun i hi => ?_⟩
  obtain ⟨y, hy⟩ := hm i hi
  exact leaf_string he hy
end
end Go.Proofs.YtngangdjbbbbdaaGreatDoor.Own
end

section
namespace Go.Proofs.YtngangdjbbbbdaaGreatDoor.Rw
open Go.RowKit Go.Proofs.YtngangdjbbbbdaaGreatDoor.Own

/-- a slice of one-cell values -/
structure Row1 (w : World) (p : Option Addr) (c : Nat) (xs : List Value) : Prop where
  cap : xs.length ≤ c
  max : c ≤ maxLen
  cells : xs = [] ∨ ∃ b o, p = some ⟨b, o, none⟩ ∧ b < w.heap.size ∧ ∀ i x, xs[i]? = some x → w.cell? ⟨b, o + i, none⟩ = some x
theorem Row1.below {w w' : World} {p : Option Addr} {c : Nat} {xs : List Value} (h : Row1 w p c xs) (hb : Below w.heap.size w w') : Row1 w' p c xs :=
  ⟨h.cap, h.max, h.cells.imp id fun ⟨b, o, e, hl, k⟩ => ⟨b, o, e, Nat.lt_of_lt_of_le hl hb.size, fun i x hx => (hb.cell (p := ⟨b, o + i, none⟩) hl).trans (k i x hx)⟩⟩
theorem own_cell {w : World} {B : Nat} {e : TypeId} {v : Value} {n g c : Nat} {xs : List Value} (h : w.ownsRow B e 1 v n xs) (hv : v = .slice (some ⟨g, 0, none⟩) n c) {i : Nat} {x : Value} (hx : xs[i]? = some x) : w.cell? ⟨g, i, none⟩ = some x := by
  have hc := @World.ownsRow.cells _ _ _ _ _ _ _ h
  have := hc (g := g) (by rw [hv]; rfl) i x hx
  rwa [add0] at this
theorem own_shape {w : World} {B : Nat} {e : TypeId} {v : Value} {n : Nat} {xs : List Value} (h : w.ownsRow B e 1 v n xs) (hn : 0 < n) : ∃ g c, v = .slice (some ⟨g, 0, none⟩) n c ∧ B ≤ g ∧ g < w.heap.size ∧ n ≤ c ∧ c ≤ maxLen := by
  rcases h.2 with ⟨rfl, h0⟩ | ⟨g, cap, cur, rfl, hb, hh, h3, h4, _⟩
  · omega
  · exact ⟨g, cap, rfl, hb, at_lt hh, h3, h4⟩
theorem owns_row {w : World} {B : Nat} {e : TypeId} {v : Value} {n : Nat} {xs : List Value} (h : w.ownsRow B e 1 v n xs) (hn : n = xs.length) : ∃ p c, v = .slice p n c ∧ Row1 w p c xs := by
  rcases h.2 with ⟨rfl, h0⟩ | ⟨g, cap, cur, rfl, _, hh, h3, h4, _⟩
  · obtain rfl : n = 0 := h0
    exact ⟨none, 0, rfl, by omega, by unfold maxLen; omega, .inl (List.eq_nil_of_length_eq_zero hn.symm)⟩
  · refine ⟨_, cap, rfl, by omega, h4, .inr ⟨g, 0, rfl, at_lt hh, fun i x hx => ?_⟩⟩
    rw [Nat.zero_add]
    exact own_cell h rfl hx
theorem own_base {w : World} {B B' e size n : Nat} {v : Value} {xs : List Value} (h : w.ownsRow B' e size v n xs) (hb : B ≤ B') : w.ownsRow B e size v n xs := by
  refine ⟨h.1, h.2.imp id fun ⟨g, cap, cur, hv, hg, r⟩ => ⟨g, cap, cur, hv, by omega, r⟩⟩
theorem own_new (w : World) (xs : List Value) (e : TypeId) (g : Nat) (hg : g = w.heap.size) (hl : xs.length ≤ maxLen) : (w.alloc (.cells xs.toArray e (0, 0))).ownsRow w.heap.size e 1 (.slice (some ⟨g, 0, none⟩) xs.length xs.length) xs.length xs := by
  subst hg
  exact ⟨by omega, .inr ⟨_, _, xs.toArray, rfl, Nat.le_refl _, at_new w _, Nat.le_refl _, hl, by simp, by simp⟩⟩
theorem one_new (w : World) (x : Value) (T : TypeId) (g : Nat) (hg : g = w.heap.size) : ∀ ad, some (⟨g, 0, none⟩ : Addr) = some ad → ∀ j u, [x][j]? = some u → (w.alloc (.cells #[x] T (0, 0))).cell? (ad.add j) = some u := by
  subst hg
  rintro ad ⟨⟩ j u hu
  rw [add0, at_cell (at_new w _)]
  simpa using hu
theorem below_drew {B : Nat} {a w : World} (h : Below B a w) {q : Nat} : Below B a (w.drewN q) := ⟨h.os, h.tape, h.output, h.size, h.block⟩

/-! ### rows of texts -/
def str (l : List UInt8) : Value := .string ⟨l.toArray⟩
def strs (ts : List (List UInt8)) : List Value := ts.map str
theorem strs_len (ts : List (List UInt8)) : (strs ts).length = ts.length := by simp [strs]
theorem strs_app (ts us : List (List UInt8)) : strs (ts ++ us) = strs ts ++ strs us := by simp [strs]
theorem strs_at {ts : List (List UInt8)} {i : Nat} (h : i < ts.length) : (strs ts)[i]? = some (str ts[i]) := by simp [strs, h]
structure Texts (w : World) (p : Option Addr) (c : Nat) (ts : List (List UInt8)) : Prop where
  row : Row1 w p c (strs ts)
theorem Texts.below {w w' : World} {p : Option Addr} {c : Nat} {ts : List (List UInt8)} (h : Texts w p c ts) (hb : Below w.heap.size w w') : Texts w' p c ts := ⟨h.row.below hb⟩
theorem Texts.cap {w : World} {p : Option Addr} {c : Nat} {ts : List (List UInt8)} (h : Texts w p c ts) : ts.length ≤ c ∧ c ≤ maxLen := ⟨by have := h.row.cap; rwa [strs_len] at this, h.row.max⟩
theorem Texts.cells {w : World} {p : Option Addr} {c : Nat} {ts : List (List UInt8)} (h : Texts w p c ts) : ts = [] ∨ ∃ b o, p = some ⟨b, o, none⟩ ∧ b < w.heap.size ∧ ∀ i (hi : i < ts.length), w.cell? ⟨b, o + i, none⟩ = some (str ts[i]) := by
  rcases h.row.cells with h0 | ⟨b, o, e, hl, k⟩
  · exact .inl (by simpa [strs] using h0)
  · exact .inr ⟨b, o, e, hl, fun i hi => k i _ (strs_at hi)⟩
theorem texts_own {w : World} {B n : Nat} {e : TypeId} {v : Value} {ts : List (List UInt8)} (h : w.ownsRow B e 1 v n (strs ts)) (hn : n = ts.length) : ∃ p c, v = .slice p n c ∧ Texts w p c ts := by
  obtain ⟨p, c, e, hr⟩ := owns_row h (by rw [strs_len]; exact hn)
  exact ⟨p, c, e, ⟨hr⟩⟩
theorem texts_nil (w : World) : Texts w none 0 [] := ⟨⟨Nat.le_refl _, by unfold maxLen; omega, .inl rfl⟩⟩
theorem str_eq (s : ByteArray) : .string s = str s.data.toList := rfl

end Go.Proofs.YtngangdjbbbbdaaGreatDoor.Rw
end

section
namespace Go.Proofs.YtngangdjbbbbdaaGreatDoor.Own
open Go.RowKit

theorem splice_nil {α : Type} (L : List α) (o : Nat) : splice L o [] = L := by simp [splice]
theorem splice_two {α : Type} (L x y : List α) (o : Nat) (h : o + x.length ≤ L.length) : splice (splice L o x) (o + x.length) y = splice L o (x ++ y) := by
  have e : (L.take o ++ x).length = o + x.length := by rw [List.length_append, List.length_take]; omega
  unfold splice
  rw [← List.append_assoc (L.take o) x, List.take_left' e, List.drop_append, e, show o + x.length + y.length - (o + x.length) = y.length by omega, List.drop_drop, List.drop_of_length_le (by omega), List.nil_append, List.length_append, List.append_assoc, List.append_assoc, show o + x.length + y.length = o + (x.length + y.length) by omega]
theorem splice_at {α : Type} (L x : List α) (o i : Nat) (h : o ≤ L.length) (hi : i < x.length) : (splice L o x)[o + i]? = x[i]? := by
  have e : (L.take o).length = o := by rw [List.length_take]; omega
  unfold splice
  rw [List.getElem?_append_right (by omega), e, show o + i - o = i by omega, List.getElem?_append_left hi]
theorem splice_whole {α : Type} (L x : List α) (h : x.length = L.length) : splice L 0 x = x := by
  unfold splice
  rw [Nat.zero_add, h, List.drop_of_length_le (Nat.le_refl _)]
  simp

section
variable {P : Program} (w : World)
theorem add_at (g o n : Nat) : (⟨g, o, none⟩ : Addr).add n = ⟨g, o + n, none⟩ := by unfold Addr.add; split <;> simp_all
theorem run_append_here (t ty e : TypeId) (i : TypeInfo) (ht : P.underlying t = some (.slice e)) (hi : P.info? e = some i) (hs1 : i.size = 1)
    (g o sLen sCap : Nat) (cur : List Value) (T : TypeId) (hg : w.heap[g]? = some (.cells cur.toArray T (0, 0)))
    (a : Addr) (m c : Nat) (news : List Value) (hl : news.length = m) (hnews : ∀ j u, news[j]? = some u → w.cell? (a.add j) = some u) (h1 : ∀ u ∈ news, u.oneCell' = true)
    (hroom : sLen + m ≤ sCap) (hfit : o + sLen + m ≤ cur.length) :
    (Builtin.append_ #[t, t] ty #[.slice (some ⟨g, o, none⟩) sLen sCap, .slice (some a) m c]).run P w =
      .ok (.slice (some ⟨g, o, none⟩) (sLen + m) sCap) (w.setRow g (splice cur (o + sLen) news).toArray) := by
  have hf := run_firstCells_some (P := P) w 1 m a m c news (by omega) hnews
  have hst := run_storeCells_at P g (o + sLen) T news 0 cur.toArray w hg (by simp; omega) h1
  simp only [Nat.add_zero] at hst
  simp [Builtin.append_, run_underlying ht, sizeOf, typeInfo, hi, hs1, Builtin.lenOf, hroom, hf, add_at, hst, splice]
theorem run_append_here_text (t u ty e : TypeId) (i : TypeInfo) (ht : P.underlying t = some (.slice e)) (hu : P.underlying u = some .string) (hi : P.info? e = some i) (hs1 : i.size = 1)
    (g o sLen sCap : Nat) (cur : List Value) (T : TypeId) (hg : w.heap[g]? = some (.cells cur.toArray T (0, 0))) (s : ByteArray)
    (hroom : sLen + s.size ≤ sCap) (hfit : o + sLen + s.size ≤ cur.length) :
    (Builtin.append_ #[t, u] ty #[.slice (some ⟨g, o, none⟩) sLen sCap, .string s]).run P w =
      .ok (.slice (some ⟨g, o, none⟩) (sLen + s.size) sCap) (w.setRow g (splice cur (o + sLen) (bv s.data.toList)).toArray) := by
  have hb : (bv s.data.toList).length = s.size := by rw [bv_len]; rfl
  have hf : (Builtin.firstCells 1 s.size (.string s)).run P w = .ok (bv s.data.toList).toArray w := Lib.run_firstCells_string w 1 s
  have hst := run_storeCells_at P g (o + sLen) T (bv s.data.toList) 0 cur.toArray w hg (by simp [hb]; omega) (bv_one _)
  simp only [Nat.add_zero] at hst
  simp [Builtin.append_, run_underlying ht, run_underlying hu, sizeOf, typeInfo, hi, hs1, Builtin.lenOf, hroom, hf, add_at, hst, splice]

variable {ops : Array Oper} {rest : List Oper} {o : Oper} {a : Act} {Q : Exit → Act → World → Prop}
theorem wp_here (hgd : o.guard = none) (s x : Operand) (t : TypeId)
    (ho : o.op = .call { callee := .builtin .append, args := #[s, x], argTypes := #[t, t] })
    (e : TypeId) (i : TypeInfo) (ht : P.underlying t = some (.slice e)) (hi : P.info? e = some i) (hs1 : i.size = 1)
    (g off sLen sCap : Nat) (cur : List Value) (T : TypeId) (hs : a.eval s = .slice (some ⟨g, off, none⟩) sLen sCap) (hg : w.heap[g]? = some (.cells cur.toArray T (0, 0)))
    (ad : Addr) (m c : Nat) (news : List Value) (hx : a.eval x = .slice (some ad) m c) (hl : news.length = m) (hnews : ∀ j u, news[j]? = some u → w.cell? (ad.add j) = some u) (h1 : ∀ u ∈ news, u.oneCell' = true)
    (hroom : sLen + m ≤ sCap) (hfit : off + sLen + m ≤ cur.length)
    (h : ∀ w', w'.heap[g]? = some (.cells (splice cur (off + sLen) news).toArray T (0, 0)) → Out (fun k => k = g) w w' → wpList P ops Q rest (a.put o.dst (.slice (some ⟨g, off, none⟩) (sLen + m) sCap)) w') : wpList P ops Q (o :: rest) a w := by
  refine wpList_plain hgd fun K hK => ?_
  have hrun := run_append_here (P := P) w t o.type e i ht hi hs1 g off sLen sCap cur T hg ad m c news hl hnews h1 hroom hfit
  unfold Oper.wp execOp
  simp only [ho, resolve, invoke, builtin, Sem.run_bind, Sem.run_pure, Result.andThen_ok, List.map_toArray, List.map_cons, List.map_nil, hs, hx, hrun]
  exact hK _ _ (h _ (setRow_heap w g cur.toArray _ T _ hg) ((Out.refl (fun k => k = g) _).setRow (fun _ => rfl) _))
theorem wp_here_text (hgd : o.guard = none) (s x : Operand) (t u : TypeId)
    (ho : o.op = .call { callee := .builtin .append, args := #[s, x], argTypes := #[t, u] })
    (e : TypeId) (i : TypeInfo) (ht : P.underlying t = some (.slice e)) (hu : P.underlying u = some .string) (hi : P.info? e = some i) (hs1 : i.size = 1)
    (g off sLen sCap : Nat) (cur : List Value) (T : TypeId) (hs : a.eval s = .slice (some ⟨g, off, none⟩) sLen sCap) (hg : w.heap[g]? = some (.cells cur.toArray T (0, 0)))
    (b : ByteArray) (hx : a.eval x = .string b) (hroom : sLen + b.size ≤ sCap) (hfit : off + sLen + b.size ≤ cur.length)
    (h : ∀ w', w'.heap[g]? = some (.cells (splice cur (off + sLen) (bv b.data.toList)).toArray T (0, 0)) → Out (fun k => k = g) w w' → wpList P ops Q rest (a.put o.dst (.slice (some ⟨g, off, none⟩) (sLen + b.size) sCap)) w') : wpList P ops Q (o :: rest) a w := by
  refine wpList_plain hgd fun K hK => ?_
  have hrun := run_append_here_text (P := P) w t u o.type e i ht hu hi hs1 g off sLen sCap cur T hg b hroom hfit
  unfold Oper.wp execOp
  simp only [ho, resolve, invoke, builtin, Sem.run_bind, Sem.run_pure, Result.andThen_ok, List.map_toArray, List.map_cons, List.map_nil, hs, hx, hrun]
  exact hK _ _ (h _ (setRow_heap w g cur.toArray _ T _ hg) ((Out.refl (fun k => k = g) _).setRow (fun _ => rfl) _))
end

theorem info_byte : (Tryz.prog.info? 5).map (fun i => (i.zero, i.size, i.bytes)) = some (some (.int .u8 0), 1, 1) := by kernel_rfl
theorem madeBytes (n : Nat) : (madeCells (Value.cells (.int .u8 0)) (n * 1)) = (bv (List.replicate n 0)).toArray := by
  apply Array.ext
  · simp [madeCells, bv]
  · intro i h1 h2
    simp [madeCells, bv, Value.cells, Nat.mod_one]
/-- make([]byte, k) -/
theorem make_bytes (W : World) (k : Int) (n : Nat) (hk : k = n) (hn : n ≤ 140737488355328) :
    (Instr.makeSlice 58 (.int .i64 k) (.int .i64 k)).run Tryz.prog W = .ok (.slice (some ⟨W.heap.size, 0, none⟩) n n) (W.alloc (.cells (bv (List.replicate n 0)).toArray 5)) := by
  subst hk
  obtain ⟨i0, hi, hz0, hz1, hz2⟩ := info_parts info_byte
  have := run_make (P := Tryz.prog) W 58 5 i0 (.int .u8 0) Tryz.underlying58 hi hz0 .i64 .i64 n n (by omega) (by omega) (by rw [hz2]; omega) (by omega)
  rw [this, hz1]
  simp only [Int.toNat_natCast]
  rw [madeBytes]
/-- the text of bytes in a block known whole -/
theorem text_of {W : World} {g o n cap : Nat} {C : List Value} {T : TypeId} {l : List UInt8} (h : W.heap[g]? = some (.cells C.toArray T (0, 0))) (hl : l.length = n) (hc : ∀ j, j < n → C[o + j]? = (bv l)[j]?) :
    (convert 58 9 (.slice (some ⟨g, o, none⟩) n cap)).run Tryz.prog W = .ok (.string ⟨l.toArray⟩) W := by
  subst hl
  refine run_convert_bytes_back W 58 9 5 ⟨g, o, none⟩ cap l Tryz.underlying58 Tryz.underlying5 Tryz.underlying9 (fun j hj => ?_)
  rw [add_at, at_cell h]
  have := hc j hj
  rw [bv_get, List.getElem?_eq_getElem hj] at this
  simpa using this
end Go.Proofs.YtngangdjbbbbdaaGreatDoor.Own
end

section
namespace Go.Proofs.YtngangdjbbbbdaaGreatDoor.Sto
open Go.RowKit Go.Proofs.YtngangdjbbbbdaaGreatDoor.Own Go.Proofs.YtngangdjbbbbdaaGreatDoor.KM
open Go.Maps (Keyed)
open Go.Proofs.YtngangdjbbbbdaaGreatDoor.Rw (str)

theorem str_inj (a : Bs) : ∀ c, str c = str a → c = a := by
  intro c h
  simpa [str] using h
theorem keyed : Keyed Tryz.prog 9 := Maps.string_keyed Tryz.underlying9
theorem str_key {s : ByteArray} (h : s.size ≤ maxLen) : keyOf Tryz.prog 9 (str s.data.toList) = some (.string s.data.toList) := WideMaps.keyOf_string_mk Tryz.underlying9 h

structure En where
  fl : Fl
  sl : Value
def En.val (x : En) : Value := .agg #[x.sl, .int .i64 x.fl.sure]
abbrev enm (x : En) : Bs := x.fl.nm
def look (V : List En) (a : Bs) : Option Value := (lk enm V a).map En.val
/-- bytes in a row of their own -/
def Bt (w : World) (sl : Value) (bs : Bs) : Prop := w.ownsRow 0 5 1 sl bs.length (bv bs)
def Ap (u v : Value) : Prop := ∀ g, u.ownBlock = some g → v.ownBlock ≠ some g
theorem Ap.symm {u v : Value} (h : Ap u v) : Ap v u := fun g hv hu => h g hu hv
theorem Bt.lt {w : World} {sl : Value} {bs : Bs} (h : Bt w sl bs) {g : Nat} (hg : sl.ownBlock = some g) : g < w.heap.size := by
  rcases h.2 with ⟨rfl, _⟩ | ⟨g', cap, cur, rfl, _, hh, _⟩
  · cases hg
  · cases hg; exact at_lt hh
theorem Bt.kept {w w' : World} {sl : Value} {bs : Bs} (h : Bt w sl bs) (hb : ∀ g, sl.ownBlock = some g → w'.heap[g]? = w.heap[g]?) : Bt w' sl bs := by
  refine ⟨h.1, ?_⟩
  rcases h.2 with h0 | ⟨g, cap, cur, hv, hg, hh, r⟩
  · exact .inl h0
  · exact .inr ⟨g, cap, cur, hv, hg, (hb g (by rw [hv]; rfl)).trans hh, r⟩
theorem Bt.nil (w : World) : Bt w (.slice none 0 0) [] := World.ownsRow_nil _ _ _ _
theorem Bt.shape {w : World} {sl : Value} {bs : Bs} (h : Bt w sl bs) : ∃ p c, sl = .slice p bs.length c ∧ bs.length ≤ c ∧ c ≤ maxLen ∧ (p = none → c = 0) := by
  rcases h.2 with ⟨rfl, h0⟩ | ⟨g, cap, cur, rfl, _, hh, h3, h4, _⟩
  · exact ⟨none, 0, by rw [h0], by omega, by unfold maxLen; omega, fun _ => rfl⟩
  · exact ⟨_, cap, rfl, h3, h4, fun h => nomatch h⟩

structure Base (w : World) (bs : Nat → Prop) (b m : Nat) (V : List En) (most total bad : Int) : Prop where
  box : w.heap[b]? = some (.cells #[.map (some m), .int .i64 most, .int .i64 total, .int .i64 bad] 64 (0, 0))
  map : KMap Tryz.prog 9 str w m (look V) V.length
  rise : Rise enm V
  rows : ∀ x ∈ V, Bt w x.sl x.fl.bs
  apart : V.Pairwise fun x y => Ap x.sl y.sl
  bb : bs b
  bm : bs m
  mine : ∀ x ∈ V, ∀ g, x.sl.ownBlock = some g → bs g ∧ g ≠ b ∧ g ≠ m
  ne : b ≠ m

section
variable {w w' : World} {bs : Nat → Prop} {b m : Nat} {V : List En} {most total bad : Int}
theorem Base.lt (h : Base w bs b m V most total bad) : b < w.heap.size ∧ m < w.heap.size := ⟨at_lt h.box, h.map.lt⟩
theorem Base.kept (h : Base w bs b m V most total bad) (hk : ∀ k, bs k → k < w.heap.size → w'.heap[k]? = w.heap[k]?) : Base w' bs b m V most total bad :=
  ⟨(hk b h.bb h.lt.1).trans h.box, h.map.kept (hk m h.bm h.lt.2), h.rise, fun x hx => (h.rows x hx).kept fun g hg => hk g (h.mine x hx g hg).1 ((h.rows x hx).lt hg), h.apart, h.bb, h.bm, h.mine, h.ne⟩
theorem Base.out (h : Base w bs b m V most total bad) {S : Nat → Prop} (ho : Out S w w') (hs : ∀ k, bs k → ¬ S k) : Base w' bs b m V most total bad := h.kept fun k hk hl => ho.block k hl (hs k hk)
theorem Base.below (h : Base w bs b m V most total bad) (hb : Below w.heap.size w w') : Base w' bs b m V most total bad := h.kept fun k _ hl => hb.block k hl
theorem Base.more (h : Base w bs b m V most total bad) {bs' : Nat → Prop} (hs : ∀ k, bs k → bs' k) : Base w bs' b m V most total bad :=
  ⟨h.box, h.map, h.rise, h.rows, h.apart, hs _ h.bb, hs _ h.bm, fun x hx g hg => ⟨hs _ (h.mine x hx g hg).1, (h.mine x hx g hg).2⟩, h.ne⟩
/-- the box's own numbers -/
theorem Base.rebox (h : Base w bs b m V most total bad) {most' total' bad' : Int} (hb : w'.heap[b]? = some (.cells #[.map (some m), .int .i64 most', .int .i64 total', .int .i64 bad'] 64 (0, 0))) (ho : Out (fun k => k = b) w w') : Base w' bs b m V most' total' bad' :=
  ⟨hb, h.map.kept (ho.block m h.lt.2 (fun e => h.ne e.symm)), h.rise, fun x hx => (h.rows x hx).kept fun g hg => ho.block g ((h.rows x hx).lt hg) (h.mine x hx g hg).2.1, h.apart, h.bb, h.bm, h.mine, h.ne⟩
theorem Base.total_ (h : Base w bs b m V most total bad) (n : Int) : Base (w.setCell ⟨b, 2, none⟩ (.int .i64 n)) bs b m V most n bad :=
  h.rebox (by have := at_set h.box 2 (.int .i64 n); simpa using this) ((Out.refl (fun k => k = b) w).setCell (p := ⟨b, 2, none⟩) (fun _ => rfl) _)
theorem Base.bad_ (h : Base w bs b m V most total bad) (n : Int) : Base (w.setCell ⟨b, 3, none⟩ (.int .i64 n)) bs b m V most total n :=
  h.rebox (by have := at_set h.box 3 (.int .i64 n); simpa using this) ((Out.refl (fun k => k = b) w).setCell (p := ⟨b, 3, none⟩) (fun _ => rfl) _)

theorem look_pt (h : Rise enm V) (x : En) (c : Bs) : put (look V) (enm x) x.val c = look (pt enm V x) c := by
  unfold put look
  rw [h.lk_pt]
  split <;> rfl
theorem look_wo (h : Rise enm V) (a c : Bs) : del (look V) a c = look (wo enm V a) c := by
  unfold del look
  rw [h.lk_wo]
  split <;> rfl
theorem look_some (V : List En) (a : Bs) : (look V a).isSome = (lk enm V a).isSome := by unfold look; cases lk enm V a <;> rfl
theorem apart_wo {V : List En} (h : V.Pairwise fun x y => Ap x.sl y.sl) (a : Bs) : (wo enm V a).Pairwise fun x y => Ap x.sl y.sl := List.Pairwise.filter _ h
theorem apart_pt {V : List En} (h : V.Pairwise fun x y => Ap x.sl y.sl) (x : En) (hx : ∀ y ∈ V, enm y ≠ enm x → Ap x.sl y.sl) : (pt enm V x).Pairwise fun x y => Ap x.sl y.sl := by
  refine ((pt_perm (nm := enm) V x).pairwise_iff (fun h => h.symm)).2 (List.pairwise_cons.2 ⟨fun y hy => ?_, apart_wo h _⟩)
  exact hx y (mem_wo.1 hy).1 (mem_wo.1 hy).2
/-- an entry is put into the map -/
theorem Base.put_ (h : Base w bs b m V most total bad) (x : En) {w2 : World} (hbox : w2.heap[b]? = w.heap[b]?) (hrows : ∀ y ∈ V, enm y ≠ enm x → ∀ g, y.sl.ownBlock = some g → w2.heap[g]? = w.heap[g]?)
    (hm : KMap Tryz.prog 9 str w' m (put (look V) (enm x) x.val) (if (look V (enm x)).isSome then V.length else V.length + 1))
    (ho : Out (fun k => k = m) w2 w') (hr : Bt w2 x.sl x.fl.bs) (ha : ∀ y ∈ V, enm y ≠ enm x → Ap x.sl y.sl) (hb : ∀ g, x.sl.ownBlock = some g → bs g ∧ g ≠ b ∧ g ≠ m) : Base w' bs b m (pt enm V x) most total bad := by
  have hbox2 := hbox.trans h.box
  have hmem : ∀ y ∈ pt enm V x, Bt w2 y.sl y.fl.bs ∧ ∀ g, y.sl.ownBlock = some g → bs g ∧ g ≠ b ∧ g ≠ m := by
    intro y hy
    rcases mem_pt.1 hy with rfl | ⟨h1, h2⟩
    · exact ⟨hr, hb⟩
    · exact ⟨(h.rows y h1).kept (hrows y h1 h2), h.mine y h1⟩
  refine ⟨(ho.block b (at_lt hbox2) h.ne).trans hbox2, hm.cong (look_pt h.rise x) ?_, h.rise.pt x, fun y hy => ?_, apart_pt h.apart x ha, h.bb, h.bm, fun y hy => (hmem y hy).2, h.ne⟩
  · rw [look_some, h.rise.len_pt]
  · obtain ⟨r1, r2⟩ := hmem y hy
    exact r1.kept fun g hg => ho.block g (r1.lt hg) (r2 g hg).2.2
theorem apart_mem {V : List En} (h : V.Pairwise fun x y => Ap x.sl y.sl) {x y : En} (hx : x ∈ V) (hy : y ∈ V) (hne : x ≠ y) : Ap x.sl y.sl := by
  induction V with
  | nil => simp at hx
  | cons z r ih =>
    obtain ⟨h1, h2⟩ := List.pairwise_cons.1 h
    rcases List.mem_cons.1 hx with ex | hx' <;> rcases List.mem_cons.1 hy with ey | hy'
    · exact absurd (ex.trans ey.symm) hne
    · rw [ex]; exact h1 y hy'
    · rw [ey]; exact (h1 x hx').symm
    · exact ih h2 hx' hy'
/-- an entry goes -/
theorem Base.del_ (h : Base w bs b m V most total bad) (a : Bs) (hm : KMap Tryz.prog 9 str w' m (del (look V) a) (if (look V a).isSome then V.length - 1 else V.length))
    (ho : Out (fun k => k = m) w w') : Base w' bs b m (wo enm V a) most total bad := by
  refine ⟨(ho.block b h.lt.1 h.ne).trans h.box, hm.cong (look_wo h.rise a) ?_, h.rise.wo a, fun y hy => ?_, apart_wo h.apart a, h.bb, h.bm, fun y hy => h.mine y (mem_wo.1 hy).1, h.ne⟩
  · rw [look_some, h.rise.len_wo]
  · have hy' := (mem_wo.1 hy).1
    exact (h.rows y hy').kept fun g hg => ho.block g ((h.rows y hy').lt hg) (h.mine y hy' g hg).2.2

/-- the entry at a name, or an empty one -/
def gotE (V : List En) (a : Bs) : En := (lk enm V a).getD ⟨⟨a, [], 0⟩, .slice none 0 0⟩
theorem gotE_some {V : List En} {a : Bs} {x : En} (h : lk enm V a = some x) : gotE V a = x := by rw [gotE, h]; rfl
theorem gotE_none {V : List En} {a : Bs} (h : lk enm V a = none) : gotE V a = ⟨⟨a, [], 0⟩, .slice none 0 0⟩ := by rw [gotE, h]; rfl
theorem lk_fl (V : List En) (a : Bs) : (lk enm V a).map En.fl = flk (V.map En.fl) a := lk_map En.fl (fun _ => rfl) V a
theorem gotE_fl (V : List En) (a : Bs) : (gotE V a).fl = got (V.map En.fl) a := by
  unfold gotE got
  rw [← lk_fl]
  cases lk enm V a <;> rfl
theorem lk_is (V : List En) (a : Bs) : (lk enm V a).isSome = (flk (V.map En.fl) a).isSome := by rw [← lk_fl]; cases lk enm V a <;> rfl
theorem Base.got_ (h : Base w bs b m V most total bad) (a : Bs) : Bt w (gotE V a).sl (gotE V a).fl.bs ∧ ∀ g, (gotE V a).sl.ownBlock = some g → bs g ∧ g ≠ b ∧ g ≠ m ∧ gotE V a ∈ V := by
  cases hl : lk enm V a with
  | none => rw [gotE_none hl]; exact ⟨Bt.nil w, fun g hg => by cases hg⟩
  | some x =>
    rw [gotE_some hl]
    have hx := (lk_some hl).1
    exact ⟨h.rows x hx, fun g hg => ⟨(h.mine x hx g hg).1, (h.mine x hx g hg).2.1, (h.mine x hx g hg).2.2, hx⟩⟩
theorem zeroFile (w : World) : (zeroValue 60).run Tryz.prog w = .ok (.agg #[.slice none 0 0, .int .i64 0]) w := by kernel_rfl
theorem look_getD (V : List En) (a : Bs) : (look V a).getD (.agg #[.slice none 0 0, .int .i64 0]) = (gotE V a).val := by
  unfold look gotE
  cases lk enm V a <;> rfl
theorem Base.look_ok (h : Base w bs b m V most total bad) (s : ByteArray) (hs : s.size ≤ maxLen) : (Instr.lookup 62 (.map (some m)) (.string s) true).run Tryz.prog w = .ok (.tuple #[(gotE V s.data.toList).val, .bool (flk (V.map En.fl) s.data.toList).isSome]) w := by
  have := h.map.look true keyed Tryz.underlying62 (zeroFile w) (a := s.data.toList) (str_key hs) (str_inj _)
  rw [look_getD, look_some, lk_is] at this
  exact this
theorem Base.look_ (h : Base w bs b m V most total bad) (s : ByteArray) (hs : s.size ≤ maxLen) : (Instr.lookup 62 (.map (some m)) (.string s) false).run Tryz.prog w = .ok (gotE V s.data.toList).val w := by
  have := h.map.look false keyed Tryz.underlying62 (zeroFile w) (a := s.data.toList) (str_key hs) (str_inj _)
  rw [look_getD] at this
  exact this
theorem nil_text (W : World) : (convert 58 9 (.slice none 0 0)).run Tryz.prog W = .ok (.string ⟨#[]⟩) W := by kernel_rfl
theorem Bt.text {sl : Value} {l : Bs} (h : Bt w sl l) : (convert 58 9 sl).run Tryz.prog w = .ok (.string ⟨l.toArray⟩) w := by
  rcases h.2 with ⟨rfl, h0⟩ | ⟨g, cap, cur, rfl, _, hh, h3, h4, h5, h6⟩
  · obtain rfl := List.eq_nil_of_length_eq_zero h0
    exact nil_text w
  · refine text_of (C := cur.toList) (T := 5) (by rw [Array.toArray_toList]; exact hh) rfl fun j hj => ?_
    have : (cur.toList.take (l.length * 1))[j]? = (bv l)[j]? := by rw [h6]
    rw [Nat.mul_one, List.getElem?_take, if_pos hj] at this
    rwa [Nat.zero_add]

/-- a store, whole -/
structure Sto (w : World) (bs : Nat → Prop) (b : Nat) (t : St) : Prop where
  ok : Ok t
  all : ∀ k, bs k → k < w.heap.size
  is : ∃ m V, V.map En.fl = t.L ∧ Base w bs b m V t.most (tot t.L : Nat) t.bad
theorem Sto.out {t : St} (h : Sto w bs b t) {S : Nat → Prop} (ho : Out S w w') (hs : ∀ k, bs k → ¬ S k) : Sto w' bs b t := by
  obtain ⟨m, V, e, hB⟩ := h.is
  exact ⟨h.ok, fun k hk => Nat.lt_of_lt_of_le (h.all k hk) ho.size, m, V, e, hB.out ho hs⟩
theorem Sto.below {t : St} (h : Sto w bs b t) (hb : Below w.heap.size w w') : Sto w' bs b t := by
  obtain ⟨m, V, e, hB⟩ := h.is
  exact ⟨h.ok, fun k hk => Nat.lt_of_lt_of_le (h.all k hk) hb.size, m, V, e, hB.below hb⟩
theorem Sto.lt {t : St} (h : Sto w bs b t) : b < w.heap.size ∧ bs b := by
  obtain ⟨m, V, e, hB⟩ := h.is
  exact ⟨hB.lt.1, hB.bb⟩

/-- what a call that may write leaves -/
def Does (w : World) (bs : Nat → Prop) (w' : World) (b : Nat) (t' : St) : Prop := ∃ bs', Sto w' bs' b t' ∧ Out bs w w' ∧ ∀ k, bs' k → bs k ∨ w.heap.size ≤ k

/-- what a writing call leaves, in parts -/
def Leaves (w : World) (bs : Nat → Prop) (w' : World) (b m : Nat) (V' : List En) (most total bad : Int) : Prop :=
  ∃ bs', Base w' bs' b m V' most total bad ∧ Out bs w w' ∧ (∀ k, bs' k → bs k ∨ w.heap.size ≤ k) ∧ ∀ k, bs' k → k < w'.heap.size
/-- bytes are appended to a row of their own, or to none -/
theorem text_at (v : Value) (l : Bs) (s : ByteArray) (h : Bt w v l) (ty : TypeId) (hl : l.length ≤ 16777216) (hs : s.size ≤ 16777216) :
    ∃ v' w', (Builtin.append_ #[58, 9] ty #[v, .string s]).run Tryz.prog w = .ok v' w' ∧ Bt w' v' (l ++ s.data.toList) ∧ Out (fun k => v.ownBlock = some k) w w' ∧ (v'.ownBlock = v.ownBlock ∨ ∃ g, v'.ownBlock = some g ∧ w.heap.size ≤ g) := by
  obtain ⟨i0, hi, hz0, hz1, hz2⟩ := info_parts info_byte
  have hsz : s.data.toList.length = s.size := rfl
  have gen : ∀ base, base ≤ w.heap.size → w.ownsRow base 5 1 v l.length (bv l) → ∃ v' w', (Builtin.append_ #[58, 9] ty #[v, .string s]).run Tryz.prog w = .ok v' w' ∧ w'.ownsRow base 5 1 v' (l ++ s.data.toList).length (bv (l ++ s.data.toList)) ∧ Out (fun k => v.ownBlock = some k) w w' := by
    intro base hb ho
    obtain ⟨v', w', h1, h2, h3, _⟩ := Lib.run_append_own_string (P := Tryz.prog) w base 58 9 ty 5 i0 Tryz.underlying58 Tryz.underlying9 hi hz0 hz1 hz2 v l.length (bv l) ho s (by unfold maxLen; omega) (by omega) hb
    refine ⟨v', w', h1, ?_, ⟨h3.os, h3.tape, h3.output, h3.size, fun i hi hn => h3.block i hi (fun e => hn e.symm)⟩⟩
    rw [List.length_append, hsz, bv_app]
    exact h2
  obtain ⟨v', w', h1, h2, h3⟩ := gen 0 (Nat.zero_le _) h
  refine ⟨v', w', h1, h2, h3, ?_⟩
  rcases h.2 with ⟨rfl, h0⟩ | ⟨g, cap, cur, rfl, _, hh, h4, h5, h6, h7⟩
  · obtain ⟨v2, w2, k1, k2, _⟩ := gen w.heap.size (Nat.le_refl _) ⟨h.1, .inl ⟨rfl, h0⟩⟩
    cases k1.symm.trans h1
    rcases k2.2 with ⟨rfl, _⟩ | ⟨g, cap, cur, rfl, hg, _⟩
    · exact .inl rfl
    · exact .inr ⟨g, rfl, hg⟩
  · by_cases hroom : l.length + s.size ≤ cap
    · have hr := Lib.run_append_room_string (P := Tryz.prog) w 58 9 ty 5 i0 Tryz.underlying58 Tryz.underlying9 hi hz1 g l.length cap cur hh s hroom (by omega)
      cases hr.symm.trans h1
      exact .inl rfl
    · have hr := Lib.run_append_grow_string (P := Tryz.prog) w 58 9 ty 5 i0 _ Tryz.underlying58 Tryz.underlying9 hi hz0 ⟨g, 0, none⟩ l.length cap (bv l) (by rw [hz1, bv_len, Nat.mul_one]) (World.ownsRow.cells h (g := g) rfl) s (by omega) (by omega) (by rw [hz2]; exact growslice_fits (by omega) (by omega))
      cases hr.symm.trans h1
      exact .inr ⟨_, rfl, Nat.le_refl _⟩
theorem wp_text {ops : Array Oper} {rest : List Oper} {o : Oper} {a : Act} {Q : Exit → Act → World → Prop} (hgd : o.guard = none) (sl x : Operand)
    (ho : o.op = .call { callee := .builtin .append, args := #[sl, x], argTypes := #[58, 9] })
    (v : Value) (l : Bs) (hv : a.eval sl = v) (h : Bt w v l) (s : ByteArray) (hx : a.eval x = .string s) (hl : l.length ≤ 16777216) (hs : s.size ≤ 16777216)
    (hK : ∀ v' w', Bt w' v' (l ++ s.data.toList) → Out (fun k => v.ownBlock = some k) w w' → (v'.ownBlock = v.ownBlock ∨ ∃ g, v'.ownBlock = some g ∧ w.heap.size ≤ g) → wpList Tryz.prog ops Q rest (a.put o.dst v') w') : wpList Tryz.prog ops Q (o :: rest) a w := by
  refine wpList_plain hgd fun K hK' => ?_
  obtain ⟨v', w', hr, h2, h3, h4⟩ := text_at v l s h o.type hl hs
  unfold Oper.wp execOp
  simp only [ho, resolve, invoke, builtin, Sem.run_bind, Sem.run_pure, Result.andThen_ok, List.map_toArray, List.map_cons, List.map_nil, hv, hx, hr]
  exact hK' _ _ (hK v' w' h2 h3 h4)

/-- an error of one code in memory, or none -/
def fblk (c : Int) : Obj := .cells #[.int .i64 0, .string ⟨#[]⟩, .iface 82 (.int .i64 c)] 176 (0, 0)
def EAt (w : World) (v : Value) (c : Int) (k : Nat) : Prop := (c = 0 ∧ v = .nilIface) ∨ (c ≠ 0 ∧ v = .iface 174 (.pointer (some ⟨k, 0, none⟩)) ∧ w.heap[k]? = some (fblk c))
theorem EAt.kept {v : Value} {c : Int} {k : Nat} (h : EAt w v c k) (hk : k < w.heap.size → w'.heap[k]? = w.heap[k]?) : EAt w' v c k := h.imp id fun ⟨h1, h2, h3⟩ => ⟨h1, h2, (hk (at_lt h3)).trans h3⟩
theorem EAt.below {v : Value} {c : Int} {k : Nat} (h : EAt w v c k) (hb : Below w.heap.size w w') : EAt w' v c k := h.kept fun hl => hb.block k hl
/-- .. and a call that tells such a one -/
def DoesE (w : World) (bs : Nat → Prop) (e : Ending) (w' : World) (b : Nat) (t' : St) (c : Int) : Prop :=
  ∃ v k bs', e = .returned v ∧ EAt w' v c k ∧ (c ≠ 0 → w.heap.size ≤ k ∧ ¬ bs' k) ∧ Sto w' bs' b t' ∧ Out bs w w' ∧ ∀ i, bs' i → bs i ∨ w.heap.size ≤ i
end
end Go.Proofs.YtngangdjbbbbdaaGreatDoor.Sto
end

section
namespace Go.Proofs.YtngangdjbbbbdaaGreatDoor.Flt
open Go.RowKit Go.Proofs.YtngangdjbbbbdaaGreatDoor.Own

structure Lay where
  blk : Nat
  line : Int
  what : List UInt8
def hasB (c a : Int) : Bool := a != 0 && c == a
/-- an error in memory: faults, one around the other, and at the end a Kind -/
def Err (w : World) : Nat → Value → List Lay → Int → Prop
  | _, v, [], c => v = .iface 82 (.int .i64 c)
  | N, v, x :: r, c => v = .iface 174 (.pointer (some ⟨x.blk, 0, none⟩)) ∧ x.blk < N ∧ ∃ u, w.heap[x.blk]? = some (.cells #[.int .i64 x.line, .string ⟨x.what.toArray⟩, u] 176 (0, 0)) ∧ Err w x.blk u r c
theorem Err.same {w w' : World} : ∀ {l : List Lay} {N : Nat} {v : Value} {c : Int}, Err w N v l c → (∀ k o, k < N → w.heap[k]? = some o → w'.heap[k]? = some o) → Err w' N v l c
  | [], _, _, _, h, _ => h
  | _ :: _, _, _, _, ⟨h1, h2, u, h3, h4⟩, hs => ⟨h1, h2, u, hs _ _ h2 h3, Err.same h4 fun k o hk => hs k o (by omega)⟩
theorem Err.more {w : World} : ∀ {l : List Lay} {N N' : Nat} {v : Value} {c : Int}, Err w N v l c → N ≤ N' → Err w N' v l c
  | [], _, _, _, _, h, _ => h
  | _ :: _, _, _, _, _, ⟨h1, h2, u, h3, h4⟩, hs => ⟨h1, Nat.lt_of_lt_of_le h2 hs, u, h3, h4⟩
theorem Err.below {w w' : World} {B N : Nat} {v : Value} {l : List Lay} {c : Int} (h : Err w N v l c) (hb : Below B w w') (hN : N ≤ B) : Err w' N v l c :=
  h.same fun k o hk ho => (hb.block k (by omega)).trans ho
theorem Err.out {w w' : World} {S : Nat → Prop} {N : Nat} {v : Value} {l : List Lay} {c : Int} (h : Err w N v l c) (hb : Out S w w') (hN : ∀ i, S i → N ≤ i) : Err w' N v l c :=
  h.same fun k o hk ho => hb.at_ ho fun hs => by have := hN k hs; omega
/-- how deep an error lies -/
def deep : Value → Nat
  | .iface _ (.pointer (some a)) => a.block + 1
  | _ => 0

/-- an error, or none -/
def ErrN (w : World) (N : Nat) (v : Value) (l : List Lay) (c : Int) : Prop := (v = .nilIface ∧ l = [] ∧ c = 0) ∨ Err w N v l c
theorem ErrN.same {w w' : World} {l : List Lay} {N : Nat} {v : Value} {c : Int} (h : ErrN w N v l c) (hs : ∀ k o, k < N → w.heap[k]? = some o → w'.heap[k]? = some o) : ErrN w' N v l c := h.imp id fun h => h.same hs
theorem ErrN.below {w w' : World} {B N : Nat} {v : Value} {l : List Lay} {c : Int} (h : ErrN w N v l c) (hb : Below B w w') (hN : N ≤ B) : ErrN w' N v l c := h.imp id fun h => h.below hb hN

end Go.Proofs.YtngangdjbbbbdaaGreatDoor.Flt
end

section
namespace Go.Proofs.YtngangdjbbbbdaaGreatDoor.Flt
open Go.RowKit Go.Proofs.YtngangdjbbbbdaaGreatDoor.Own

theorem wrap_nil (n s : Value) (w : World) :
    Calls Tryz.prog 91 #[.nilIface, n, s] w fun e w' => e = .returned .nilIface ∧ w = w' := by
  go_enter Tryz.func91, Tryz.ntmps91
  go_wp2_with fail
  go_ret
  exact ⟨rfl, rfl⟩
theorem wrap_some (t : TypeId) (v : Value) (n : Int) (s : ByteArray) (w : World) :
    Calls Tryz.prog 91 #[.iface t v, .int .i64 n, .string s] w fun e w' => e = .returned (.iface 174 (.pointer (some ⟨w.heap.size, 0, none⟩))) ∧ w' = w.alloc (.cells #[.int .i64 n, .string s, .iface t v] 176) := by
  go_enter Tryz.func91, Tryz.ntmps91
  go_wp2_with fail
  go_ret
  exact ⟨rfl, rfl⟩
theorem new_nil (n s : Value) (w : World) :
    Calls Tryz.prog 70 #[.int .i64 0, n, s] w fun e w' => e = .returned .nilIface ∧ w = w' := by
  go_enter Tryz.func70, Tryz.ntmps70
  go_wp2_with fail
  go_ret
  exact ⟨rfl, rfl⟩
theorem new_some (c n : Int) (s : ByteArray) (hc : c ≠ 0) (w : World) :
    Calls Tryz.prog 70 #[.int .i64 c, .int .i64 n, .string s] w fun e w' => e = .returned (.iface 174 (.pointer (some ⟨w.heap.size, 0, none⟩))) ∧ w' = w.alloc (.cells #[.int .i64 n, .string s, .iface 82 (.int .i64 c)] 176) := by
  have hb : (c == 0) = false := by simpa using hc
  clear hc
  go_enter Tryz.func70, Tryz.ntmps70
  go_wp2_with (go_at_call 91; refine (wrap_some _ _ _ _ _).mono ?_; rintro e w' ⟨rfl, rfl⟩)
  go_ret
  exact ⟨rfl, rfl⟩
/-- what is wrapped -/
theorem Err.wrap {w : World} {N : Nat} {v : Value} {l : List Lay} {c : Int} (h : Err w N v l c) (hN : N ≤ w.heap.size) (n : Int) (s : ByteArray) :
    Err (w.alloc (.cells #[.int .i64 n, .string s, v] 176)) (w.heap.size + 1) (.iface 174 (.pointer (some ⟨w.heap.size, 0, none⟩))) (⟨w.heap.size, n, s.data.toList⟩ :: l) c :=
  ⟨rfl, Nat.lt_succ_self _, v, at_new w _, (h.below ((Below.refl _ _).alloc (Nat.le_refl _) _) hN).more hN⟩

end Go.Proofs.YtngangdjbbbbdaaGreatDoor.Flt
end

section
namespace Go.Proofs.YtngangdjbbbbdaaGreatDoor.Sto
open Go.RowKit Go.Proofs.YtngangdjbbbbdaaGreatDoor.Own Go.Proofs.YtngangdjbbbbdaaGreatDoor.KM Go.Proofs.YtngangdjbbbbdaaGreatDoor.Flt

theorem size_list (s : ByteArray) : s.data.toList.length = s.size := rfl
theorem sized_eq (s : ByteArray) : sized s.data.toList = decide (1 ≤ s.size ∧ s.size ≤ 64) := rfl
theorem ne_empty {s : ByteArray} (h : 1 ≤ s.size) : s.toList.isEmpty = false := by
  rw [ByteArray.toList_eq, List.isEmpty_eq_false_iff]
  intro h0
  have := congrArg List.length h0
  rw [size_list, List.length_nil] at this
  omega
theorem all_next (s : ByteArray) (k : Nat) (h : k < s.size) : allc (s.data.toList.take (k + 1)) = (allc (s.data.toList.take k) && nmc s[k].toNat) := by
  have e : s.data.toList.take (k + 1) = s.data.toList.take k ++ [s[k]] := by
    rw [List.take_add_one, List.getElem?_eq_getElem (by rw [size_list]; exact h)]; rfl
  rw [e, allc_snoc]
theorem all_full {s : ByteArray} {k : Nat} (h : ¬ k < s.size) : s.data.toList.take k = s.data.toList := List.take_of_length_le (by rw [size_list]; omega)
theorem all_no {l : Bs} {k : Nat} (h : allc (l.take k) = false) : allc l = false := by
  cases hc : allc l with
  | false => rfl
  | true =>
    rw [allc, List.all_eq_true] at hc
    have : allc (l.take k) = true := by rw [allc, List.all_eq_true]; exact fun c hcm => hc c (List.mem_of_mem_take hcm)
    rw [h] at this; cases this

set_option maxRecDepth 100000 in
set_option maxHeartbeats 1000000 in
theorem named_calls (s : ByteArray) (w : World) : Calls Tryz.prog 71 #[.string s] w fun e w' => e = .returned (.bool (isNm s.data.toList)) ∧ w = w' := by
  rcases (show s.size = 0 ∨ (1 ≤ s.size ∧ s.size ≤ 64) ∨ (1 ≤ s.size ∧ ¬ s.size ≤ 64) by omega) with h | ⟨h, h2⟩ | ⟨h, h2⟩
  · have H : Hid (isNm s.data.toList = false) := Lib.hid (by rw [isNm, sized_eq, decide_eq_false (by omega)]; rfl)
    have he : s = ByteArray.empty := ByteArray.size_eq_zero_iff.1 h
    subst he
    go_enter Tryz.func71, Tryz.ntmps71
    go_wp2
    go_ret
    exact ⟨by rw [H.out]; rfl, rfl⟩
  · have H : Hid (isNm s.data.toList = allc s.data.toList) := Lib.hid (by rw [isNm, sized_eq, decide_eq_true ⟨h, h2⟩, Bool.true_and])
    have hne := ne_empty h
    have b1 : decide ((s.size : Int) ≤ 64) = true := decide_eq_true (by omega)
    go_enter Tryz.func71, Tryz.ntmps71
    go_wp2
    go_loop [3, 13] (fun _ i => ∃ k : Nat, k ≤ s.size ∧ i = .int .i64 k ∧ allc (s.data.toList.take k) = true) (fun _ i => s.size - (intOf i).toNat)
    case atStart => exact ⟨0, Nat.zero_le _, rfl, rfl⟩
    case round =>
      obtain ⟨k, hk, rfl, hp⟩ := hrel
      by_cases hlt : k < s.size
      · have HN := Lib.hid (all_next s k hlt)
        have HP := Lib.hid hp; clear hp
        obtain ⟨c, hc⟩ : ∃ c : UInt8, s[k] = c := ⟨_, rfl⟩
        rw [hc] at HN
        rcases (show (c.toNat < 33) ∨ (33 ≤ c.toNat ∧ 126 < c.toNat) ∨ (33 ≤ c.toNat ∧ c.toNat ≤ 126 ∧ c.toNat = 47) ∨ (33 ≤ c.toNat ∧ c.toNat ≤ 126 ∧ c.toNat ≠ 47) by omega) with q | ⟨q, q2⟩ | ⟨q, q2, q3⟩ | ⟨q, q2, q3⟩
        · have HF : Hid (allc s.data.toList = false) := Lib.hid (all_no (k := k + 1) (by rw [HN.out, nmc, decide_eq_false (by omega : ¬ 33 ≤ c.toNat)]; simp))
          go_wp2_with fail
          go_ret
          exact ⟨by rw [H.out, HF.out]; rfl, rfl⟩
        · have HF : Hid (allc s.data.toList = false) := Lib.hid (all_no (k := k + 1) (by rw [HN.out, nmc, decide_eq_false (by omega : ¬ c.toNat ≤ 126)]; simp))
          go_wp2_with fail
          go_ret
          exact ⟨by rw [H.out, HF.out]; rfl, rfl⟩
        · have HF : Hid (allc s.data.toList = false) := Lib.hid (all_no (k := k + 1) (by rw [HN.out, nmc, q3]; simp))
          go_wp2_with fail
          go_ret
          exact ⟨by rw [H.out, HF.out]; rfl, rfl⟩
        · have q4 : (c.toNat != 47) = true := by simpa using q3
          have q5 : ((c.toNat : Int) == 47) = false := by simp; omega
          have HF : Hid (allc (s.data.toList.take (k + 1)) = true) := Lib.hid (by rw [HN.out, HP.out, nmc, decide_eq_true q, decide_eq_true q2, q4]; rfl)
          go_wp2_with fail
          go_round
          case rel => exact ⟨k + 1, by omega, by go_num, HF.out⟩
          case measure => simp [intOf]; omega
      · rw [all_full hlt] at hp
        have HP := Lib.hid hp; clear hp
        go_wp2_with fail
        go_ret
        exact ⟨by rw [H.out, HP.out]; rfl, rfl⟩
  · have H : Hid (isNm s.data.toList = false) := Lib.hid (by rw [isNm, sized_eq, decide_eq_false (by omega)]; rfl)
    have hne := ne_empty h
    have b1 : decide ((s.size : Int) ≤ 64) = false := decide_eq_false (by omega)
    go_enter Tryz.func71, Tryz.ntmps71
    go_wp2
    go_ret
    exact ⟨by rw [H.out]; rfl, rfl⟩

set_option maxRecDepth 100000 in
theorem wrong_calls (c : Int) (hc : c ≠ 0) (w : World) : Calls Tryz.prog 39 #[.int .i64 c] w fun e w' => e = .returned (.iface 174 (.pointer (some ⟨w.heap.size, 0, none⟩))) ∧ w' = w.alloc (fblk c) := by
  go_enter Tryz.func39, Tryz.ntmps39
  go_wp2_with (go_at_call 70; refine (new_some c 0 ⟨#[]⟩ hc _).mono ?_; rintro e w' ⟨rfl, rfl⟩)
  go_ret
  exact ⟨rfl, rfl⟩

set_option maxRecDepth 100000 in
theorem made_none (w : World) : Calls Tryz.prog 21 #[.pointer none] w fun e w' => e = .returned (.bool false) ∧ w = w' := by
  go_enter Tryz.func21, Tryz.ntmps21
  go_wp2_with fail
  go_ret
  exact ⟨rfl, rfl⟩
theorem map_there (m : Nat) (w : World) : (binOp .neq 62 (.map (some m)) (.map none)).run Tryz.prog w = .ok (.bool true) w := by kernel_rfl
set_option maxRecDepth 100000 in
theorem made_some (b m : Nat) (w : World) (h : w.cell? ⟨b, 0, none⟩ = some (.map (some m))) : Calls Tryz.prog 21 #[.pointer (some ⟨b, 0, none⟩)] w fun e w' => e = .returned (.bool true) ∧ w = w' := by
  have hm := map_there m
  go_enter Tryz.func21, Tryz.ntmps21
  go_wp2_with fail
  go_ret
  exact ⟨rfl, rfl⟩

/-- the error's value -/
def errv (w : World) : Value := .iface 174 (.pointer (some ⟨w.heap.size, 0, none⟩))
set_option maxRecDepth 100000 in
theorem begin_none (x : Value) (w : World) : Calls Tryz.prog 40 #[.pointer none, x] w fun e w' => e = .returned (errv w) ∧ w' = w.alloc (fblk 14) := by
  go_enter Tryz.func40, Tryz.ntmps40
  go_wp2_with (first
    | (go_at_call 21; refine (made_none _).mono ?_; rintro e w' ⟨rfl, rfl⟩)
    | (go_at_call 39; refine (wrong_calls 14 (by decide) _).mono ?_; rintro e w' ⟨rfl, rfl⟩))
  go_ret
  exact ⟨rfl, rfl⟩
section
variable {w : World} {b m : Nat} {most total bad : Int} (s : ByteArray) (h : w.heap[b]? = some (.cells #[.map (some m), .int .i64 most, .int .i64 total, .int .i64 bad] 64 (0, 0)))
include h
set_option maxRecDepth 100000 in
theorem begin_arg (hn : isNm s.data.toList = false) :
    Calls Tryz.prog 40 #[.pointer (some ⟨b, 0, none⟩), .string s] w fun e w' => e = .returned (errv w) ∧ w' = w.alloc (fblk 1) := by
  have h0 := (at_cell h 0 : _ = some _)
  clear h
  go_enter Tryz.func40, Tryz.ntmps40
  go_wp2_with (first
    | (go_at_call 21; refine (made_some _ _ _ h0).mono ?_; rintro e w' ⟨rfl, rfl⟩)
    | (go_at_call 71; refine (named_calls _ _).mono ?_; rw [hn]; rintro e w' ⟨rfl, rfl⟩)
    | (go_at_call 39; refine (wrong_calls 1 (by decide) _).mono ?_; rintro e w' ⟨rfl, rfl⟩))
  go_ret
  exact ⟨rfl, rfl⟩
set_option maxRecDepth 100000 in
theorem begin_io (hn : isNm s.data.toList = true) (hb : 0 < bad) (hb2 : bad ≤ 9223372036854775807) :
    Calls Tryz.prog 40 #[.pointer (some ⟨b, 0, none⟩), .string s] w fun e w' => e = .returned (errv w) ∧ w' = (w.setCell ⟨b, 3, none⟩ (.int .i64 (bad - 1))).alloc (fblk 12) := by
  have h0 := (at_cell h 0 : _ = some _)
  have h3 := (at_cell h 3 : _ = some _)
  have f3 := at_frozen h 3
  clear h
  go_enter Tryz.func40, Tryz.ntmps40
  go_wp2_with (first
    | (go_at_call 21; refine (made_some _ _ _ h0).mono ?_; rintro e w' ⟨rfl, rfl⟩)
    | (go_at_call 71; refine (named_calls _ _).mono ?_; rw [hn]; rintro e w' ⟨rfl, rfl⟩)
    | (go_at_call 39; refine (wrong_calls 12 (by decide) _).mono ?_; rintro e w' ⟨rfl, rfl⟩))
  go_ret
  exact ⟨by simp [errv], rfl⟩
set_option maxRecDepth 100000 in
theorem begin_ok (hn : isNm s.data.toList = true) (hb : ¬ 0 < bad) :
    Calls Tryz.prog 40 #[.pointer (some ⟨b, 0, none⟩), .string s] w fun e w' => e = .returned .nilIface ∧ w = w' := by
  have h0 := (at_cell h 0 : _ = some _)
  have h3 := (at_cell h 3 : _ = some _)
  clear h
  go_enter Tryz.func40, Tryz.ntmps40
  go_wp2_with (first
    | (go_at_call 21; refine (made_some _ _ _ h0).mono ?_; rintro e w' ⟨rfl, rfl⟩)
    | (go_at_call 71; refine (named_calls _ _).mono ?_; rw [hn]; rintro e w' ⟨rfl, rfl⟩))
  go_ret
  exact ⟨rfl, rfl⟩
end
end Go.Proofs.YtngangdjbbbbdaaGreatDoor.Sto
end

section
namespace Go.Proofs.YtngangdjbbbbdaaGreatDoor.Sto
open Go.RowKit Go.Proofs.YtngangdjbbbbdaaGreatDoor.Own Go.Proofs.YtngangdjbbbbdaaGreatDoor.KM Go.Proofs.YtngangdjbbbbdaaGreatDoor.Flt
open Go.Proofs.YtngangdjbbbbdaaGreatDoor.Rw (str)

section
variable {w : World} {bs : Nat → Prop} {b m : Nat} {V : List En} {most total bad : Int}

theorem read_calls (h : Base w bs b m V most total bad) (s : ByteArray) (hs : s.size ≤ maxLen) :
    Calls Tryz.prog 5 #[.pointer (some ⟨b, 0, none⟩), .string s] w fun e w' =>
      e = .returned (.tuple #[.string ⟨(got (V.map En.fl) s.data.toList).bs.toArray⟩, .bool (flk (V.map En.fl) s.data.toList).isSome]) ∧ Below w.heap.size w w' := by
  have h0 := (at_cell h.box 0 : _ = some _)
  have hl := h.look_ok s hs
  obtain ⟨r1, _⟩ := h.got_ s.data.toList
  rw [← gotE_fl]
  obtain ⟨x, hx⟩ : ∃ x, gotE V s.data.toList = x := ⟨_, rfl⟩
  obtain ⟨B, hB⟩ : ∃ B, (flk (V.map En.fl) s.data.toList).isSome = B := ⟨_, rfl⟩
  rw [hx] at r1 hl ⊢
  rw [hB] at hl ⊢
  clear hx hB
  obtain ⟨p, c, hsl, -⟩ := r1.shape
  have ht := (r1.kept (w' := w.alloc (.cells #[x.sl, .int .i64 x.fl.sure] 60 (0, 0))) (fun g hg => Below.heap_alloc _ _ _ (r1.lt hg))).text
  rw [En.val, hsl] at hl
  rw [hsl] at ht
  clear h r1 hsl
  go_enter Tryz.func5, Tryz.ntmps5
  go_wp2_with (go_at_call 21; refine (made_some _ _ _ h0).mono ?_; rintro e w' ⟨rfl, rfl⟩)
  go_ret2
  exact ⟨rfl, (Below.refl _ _).alloc (Nat.le_refl _) _⟩
theorem fail_calls (h : Base w bs b m V most total bad) (n : Int) :
    Calls Tryz.prog 6 #[.pointer (some ⟨b, 0, none⟩), .int .i64 n] w fun e w' => e = .returned (.tuple #[]) ∧ w' = w.setCell ⟨b, 3, none⟩ (.int .i64 n) := by
  have h0 := (at_cell h.box 0 : _ = some _)
  have h3 := (at_cell h.box 3 : _ = some _)
  have f3 := at_frozen h.box 3
  clear h
  go_enter Tryz.func6, Tryz.ntmps6
  go_wp2_with (go_at_call 21; refine (made_some _ _ _ h0).mono ?_; rintro e w' ⟨rfl, rfl⟩)
  go_end0
  exact ⟨rfl, rfl⟩
end

theorem new_out (n : Int) (hn : n < 1 ∨ 16777216 < n) (w : World) : Calls Tryz.prog 15 #[.int .i64 n] w fun e w' => e = .returned (.tuple #[.pointer none, errv w]) ∧ w' = w.alloc (fblk 2) := by
  have hn' := Lib.hid hn
  rcases hn with hn | hn
  · go_enter Tryz.func15, Tryz.ntmps15
    go_wp2_with (go_at_call 39; refine (wrong_calls 2 (by decide) _).mono ?_; rintro e w' ⟨rfl, rfl⟩)
    go_ret2
    exact ⟨rfl, rfl⟩
  · have h1 : ¬ n < 1 := by omega
    go_enter Tryz.func15, Tryz.ntmps15
    go_wp2_with (go_at_call 39; refine (wrong_calls 2 (by decide) _).mono ?_; rintro e w' ⟨rfl, rfl⟩)
    go_ret2
    exact ⟨rfl, rfl⟩
theorem new_in (n : Int) (h1 : 1 ≤ n) (h2 : n ≤ 16777216) (w : World) : Calls Tryz.prog 15 #[.int .i64 n] w fun e w' =>
    ∃ b, e = .returned (.tuple #[.pointer (some ⟨b, 0, none⟩), .nilIface]) ∧ ∃ bs, Sto w' bs b ⟨[], n, 0⟩ ∧ Below w.heap.size w w' ∧ ∀ k, bs k → w.heap.size ≤ k := by
  have q1 : ¬ n < 1 := by omega
  have q2 : ¬ 16777216 < n := by omega
  have hmk : ∀ W : World, (Instr.makeMap 62 none).run Tryz.prog W = .ok (.map (some W.heap.size)) (W.alloc (.map #[] 0)) := fun W => by kernel_rfl
  go_enter Tryz.func15, Tryz.ntmps15
  go_wp2_with fail
  go_ret2
  refine ⟨w.heap.size + 1, rfl, fun k => k = w.heap.size ∨ k = w.heap.size + 1, ⟨⟨List.Pairwise.nil, by simp, by simp, by show ((tot [] : Nat) : Int) ≤ n; simp [tot]; omega, h1, h2, by show -9223372036854775808 ≤ (0 : Int) ∧ (0 : Int) ≤ _; omega⟩, fun k hk => by rcases hk with rfl | rfl <;> simp <;> omega, w.heap.size, [], rfl, ?_⟩, ((Below.refl _ _).alloc (Nat.le_refl _) _).alloc (by simp) _, fun k hk => by rcases hk with rfl | rfl <;> omega⟩
  exact ⟨at_newk _ _ (by simp), ((KMap.made w).kept (Below.heap_alloc _ _ _ (by simp))).cong (fun a => rfl) rfl, List.Pairwise.nil, by simp, List.Pairwise.nil, .inr rfl, .inl rfl, by simp, by omega⟩
end Go.Proofs.YtngangdjbbbbdaaGreatDoor.Sto
end

section
namespace Go.Proofs.YtngangdjbbbbdaaGreatDoor.Sto
open Go.RowKit Go.Proofs.YtngangdjbbbbdaaGreatDoor.Own Go.Proofs.YtngangdjbbbbdaaGreatDoor.KM Go.Proofs.YtngangdjbbbbdaaGreatDoor.Flt
open Go.Proofs.YtngangdjbbbbdaaGreatDoor.Rw (str)

section
variable {w : World} {bs : Nat → Prop} {b m : Nat} {V : List En} {most total bad : Int}

set_option maxRecDepth 100000 in
set_option maxHeartbeats 1000000 in
theorem drop_calls (h : Base w bs b m V most total bad) (s : ByteArray) (hs : s.size ≤ maxLen) (h1 : (got (V.map En.fl) s.data.toList).bs.length ≤ total) (h2 : total ≤ 16777216) :
    Calls Tryz.prog 73 #[.pointer (some ⟨b, 0, none⟩), .string s] w fun e w' =>
      e = .returned (.tuple #[]) ∧ Base w' bs b m (wo enm V s.data.toList) most (total - (got (V.map En.fl) s.data.toList).bs.length) bad ∧ Out (fun k => k = b ∨ k = m) w w' := by
  have c0 := (at_cell h.box 0 : _ = some _)
  have c2 := (at_cell h.box 2 : _ = some _)
  have f2 := at_frozen h.box 2
  have hl := (h.kept (w' := w.drew) (fun _ _ _ => rfl)).look_ s hs
  obtain ⟨r1, _⟩ := h.got_ s.data.toList
  rw [← gotE_fl] at h1 ⊢
  obtain ⟨x, hx⟩ : ∃ x, gotE V s.data.toList = x := ⟨_, rfl⟩
  rw [hx] at r1 hl h1 ⊢
  clear hx
  obtain ⟨p, c, hsl, -⟩ := r1.shape
  obtain ⟨n, hn⟩ : ∃ n, x.fl.bs.length = n := ⟨_, rfl⟩
  rw [hn] at h1 hsl ⊢
  rw [En.val, hsl] at hl
  have hf : ∀ W : World, (Instr.field 60 (.agg #[.slice p n c, .int .i64 x.fl.sure]) 0).run Tryz.prog W = .ok (.slice p n c) W := fun W => rfl
  have hB := Lib.hid h
  have hB2 := Lib.hid (h.total_ (total - n))
  have d0 := (at_cell hB2.out.box 0 : _ = some _)
  clear h r1 hn
  go_enter Tryz.func73, Tryz.ntmps73
  go_wp2_with fail
  go_still_tail 15, (by kernel_rfl)
  change wpList _ _ _ _ _ w.drew
  go_wp2_with (at_delete; refine wp_drop rfl _ _ _ _ rfl _ keyed Tryz.underlying62 m _ _ rfl (hB2.out.map.kept (w' := _) rfl) s.data.toList rfl (str_key hs) (str_inj _) ?_; intro w2 K2 O2)
  go_end0
  refine ⟨rfl, hB2.out.del_ s.data.toList K2 ⟨O2.os, O2.tape, O2.output, O2.size, O2.block⟩, ?_⟩
  exact ((Out.refl (fun k => k = b ∨ k = m) w).setCell (p := ⟨b, 2, none⟩) (fun _ => .inl rfl) (.int .i64 (total - n))).trans (S' := fun k => k = m) ⟨O2.os, O2.tape, O2.output, O2.size, O2.block⟩ (fun i _ hi => .inr hi)
/-- what an entry's row leaves alone -/
theorem Base.others (h : Base w bs b m V most total bad) (a : Bs) {w2 : World} (ho : Out (fun k => (gotE V a).sl.ownBlock = some k) w w2) : w2.heap[b]? = w.heap[b]? ∧ w2.heap[m]? = w.heap[m]? ∧ ∀ y ∈ V, enm y ≠ a → ∀ g, y.sl.ownBlock = some g → w2.heap[g]? = w.heap[g]? := by
  have hg := (h.got_ a).2
  refine ⟨ho.block b h.lt.1 fun e => (hg b e).2.1 rfl, ho.block m h.lt.2 fun e => (hg m e).2.2.1 rfl, fun y hy hne g hyg => ho.block g ((h.rows y hy).lt hyg) fun e => ?_⟩
  have hx := (hg g e).2.2.2
  have hne' : gotE V a ≠ y := fun e1 => by
    cases hl : lk enm V a with
    | none => rw [gotE_none hl] at e; cases e
    | some z => rw [gotE_some hl] at e1; exact hne (e1 ▸ (lk_some hl).2)
  exact apart_mem h.apart hx hy hne' g e hyg

theorem Bt.form {sl : Value} {l : Bs} (h : Bt w sl l) : ∃ p n c, sl = .slice p n c := by
  obtain ⟨p, c, e, _⟩ := h.shape
  exact ⟨p, _, c, e⟩
/-- between the look-up and the store in Append -/
theorem app_mid {W w2 w3 : World} {a l : Bs} {x : En} {sl v2 : Value} {S : Int} (h : Base W bs b m V most total bad) (hx : gotE V a = x) (hsl : x.sl = sl)
    (O2 : Out (fun k => sl.ownBlock = some k) (W.alloc (.cells #[sl, .int .i64 S] 60 (0, 0))) w2) (O3 : Out (fun k => k = W.heap.size) w2 w3) (R2 : Bt w2 v2 l)
    (L2 : v2.ownBlock = sl.ownBlock ∨ ∃ g, v2.ownBlock = some g ∧ (W.alloc (.cells #[sl, .int .i64 S] 60 (0, 0))).heap.size ≤ g) :
    w3.heap[b]? = W.heap[b]? ∧ w3.heap[m]? = W.heap[m]? ∧ (∀ y ∈ V, enm y ≠ a → ∀ g, y.sl.ownBlock = some g → w3.heap[g]? = W.heap[g]?) ∧ Bt w3 v2 l ∧ (∀ y ∈ V, enm y ≠ a → Ap v2 y.sl) ∧
      W.heap.size < w2.heap.size ∧ ∀ g, v2.ownBlock = some g → g ≠ b ∧ g ≠ m := by
  have B1 := h.kept (w' := W.alloc (.cells #[sl, .int .i64 S] 60 (0, 0))) fun k hk hl => Below.heap_alloc _ _ _ hl
  obtain ⟨s1, s2, s3⟩ := B1.others a (w2 := w2) (by rw [hx, hsl]; exact O2)
  have hsz := O2.size
  simp at hsz
  have hl := h.lt
  have old : ∀ k, k < W.heap.size → w3.heap[k]? = w2.heap[k]? := fun k hk => O3.block k (by omega) (by omega)
  obtain ⟨r1, r2⟩ := h.got_ a
  rw [hx, hsl] at r1 r2
  refine ⟨(old b hl.1).trans (s1.trans (Below.heap_alloc _ _ _ hl.1)), (old m hl.2).trans (s2.trans (Below.heap_alloc _ _ _ hl.2)), fun y hy hne g hg => ?_, R2.kept fun g hg => ?_, fun y hy hne g hg hyg => ?_, by omega, fun g hg => ?_⟩
  · have hgl := (h.rows y hy).lt hg
    exact (old g hgl).trans ((s3 y hy hne g hg).trans (Below.heap_alloc _ _ _ hgl))
  · refine O3.block g (R2.lt hg) fun e => ?_
    rcases L2 with e1 | ⟨g', e1, e2⟩
    · rw [e1] at hg; have := r1.lt hg; omega
    · rw [e1] at hg; cases hg; simp at e2; omega
  · have hgl := (h.rows y hy).lt hyg
    rcases L2 with e1 | ⟨g', e1, e2⟩
    · rw [e1] at hg
      have hxV := (r2 g hg).2.2.2
      have hne' : x ≠ y := fun e2 => by
        cases hl : lk enm V a with
        | none => rw [gotE_none hl] at hx; rw [← hsl, ← hx] at hg; cases hg
        | some z => rw [gotE_some hl] at hx; exact hne (by rw [← e2, ← hx]; exact (lk_some hl).2)
      exact apart_mem h.apart hxV hy hne' g (by rw [hsl]; exact hg) hyg
    · rw [e1] at hg; cases hg; simp at e2; omega
  · rcases L2 with e1 | ⟨g', e1, e2⟩
    · rw [e1] at hg; exact ⟨(r2 g hg).2.1, (r2 g hg).2.2.1⟩
    · rw [e1] at hg; cases hg; simp at e2; constructor <;> omega
theorem app_fin {w0 W w2 w3 w4 : World} {V' : List En} {sl v2 : Value} {S : Int} {l : Bs} {P : Nat → Prop} {total' : Int} (B4 : Base w4 (fun k => bs k ∨ v2.ownBlock = some k) b m V' most total bad) (O1 : Out (fun _ => False) w0 W)
    (O2 : Out (fun k => sl.ownBlock = some k) (W.alloc (.cells #[sl, .int .i64 S] 60 (0, 0))) w2) (O3 : Out (fun k => k = W.heap.size) w2 w3) (O4 : Out (fun k => k = m) w3 w4)
    (L2 : v2.ownBlock = sl.ownBlock ∨ ∃ g, v2.ownBlock = some g ∧ (W.alloc (.cells #[sl, .int .i64 S] 60 (0, 0))).heap.size ≤ g) (hr : Bt w3 v2 l)
    (hbm : bs b ∧ bs m) (r4 : ∀ g, sl.ownBlock = some g → bs g ∧ P g) (hall : ∀ k, bs k → k < W.heap.size) : Leaves w0 bs (w4.setCell ⟨b, 2, none⟩ (.int .i64 total')) b m V' most total' bad := by
  have z1 := O1.size
  have z2 := O2.size
  have z3 := O3.size
  have z4 := O4.size
  simp at z2
  refine ⟨_, B4.total_ _, ?_, fun k hk => ?_, fun k hk => ?_⟩
  · have o1 : Out bs w0 (W.alloc (.cells #[sl, .int .i64 S] 60 (0, 0))) := (O1.mono fun i _ h => h.elim).alloc _
    have o2 := o1.trans O2 fun i _ hi => (r4 i hi).1
    have o3 := o2.trans O3 fun i hi e => by subst e; omega
    have o4 := o3.trans O4 fun i _ e => by subst e; exact hbm.2
    exact o4.setCell (p := ⟨b, 2, none⟩) (fun _ => hbm.1) _
  · rcases hk with hk | hk
    · exact .inl hk
    · rcases L2 with e1 | ⟨g', e1, e2⟩
      · rw [e1] at hk; exact .inl (r4 k hk).1
      · rw [e1] at hk; cases hk; simp at e2; right; omega
  · have z5 := ((Out.refl (fun k => k = b) w4).setCell (p := ⟨b, 2, none⟩) (fun _ => rfl) (.int .i64 total')).size
    rcases hk with hk | hk
    · have := hall k hk; omega
    · have := hr.lt hk; omega

set_option maxRecDepth 100000 in
set_option maxHeartbeats 4000000 in
theorem app_ok (h : Base w bs b m V most total bad) (hall : ∀ k, bs k → k < w.heap.size) (a s : ByteArray) (hn : isNm a.data.toList = true) (hb : ¬ 0 < bad) (ht0 : 0 ≤ total) (hm : most ≤ 16777216) (hf : total + s.size ≤ most)
    (hl : (got (V.map En.fl) a.data.toList).bs.length ≤ total) :
    Calls Tryz.prog 16 #[.pointer (some ⟨b, 0, none⟩), .string a, .string s] w fun e w' => e = .returned .nilIface ∧
      ∃ sl, Leaves w bs w' b m (pt enm V ⟨⟨a.data.toList, (got (V.map En.fl) a.data.toList).bs ++ s.data.toList, (got (V.map En.fl) a.data.toList).sure⟩, sl⟩) most (total + s.size) bad := by
  have ha : a.size ≤ maxLen := by have := (isNm_len hn).2; rw [size_list] at this; unfold maxLen; omega
  have c1 := (at_cell h.box 1 : _ = some _)
  have c2 := (at_cell h.box 2 : _ = some _)
  have hB := Lib.hid h
  have hBeg := Lib.hid (begin_ok a h.box hn hb)
  have hs : s.size ≤ 16777216 := by omega
  rw [← gotE_fl] at hl ⊢
  obtain ⟨x, hx⟩ : ∃ x, gotE V a.data.toList = x := ⟨_, rfl⟩
  rw [hx] at hl ⊢
  obtain ⟨S, hS⟩ : ∃ S, x.fl.sure = S := ⟨_, rfl⟩
  obtain ⟨sl, hsl⟩ : ∃ sl, x.sl = sl := ⟨_, rfl⟩
  obtain ⟨old, hold⟩ : ∃ old, x.fl.bs = old := ⟨_, rfl⟩
  rw [hold] at hl
  rw [hold, hS]
  have HX := Lib.hid (show gotE V a.data.toList = x ∧ x.fl.sure = S ∧ x.fl.bs = old ∧ x.sl = sl from ⟨hx, hS, hold, hsl⟩)
  obtain ⟨p1, n1, c1', rfl⟩ : ∃ p n c, sl = .slice p n c := by
    have := (hB.out.got_ a.data.toList).1
    rw [hx, hsl] at this
    exact this.form
  clear hx hS hsl hold
  have q1 : ¬ most < total + s.size := by omega
  clear h hb
  go_enter Tryz.func16, Tryz.ntmps16
  go_wp2_with (go_at_call 40; refine hBeg.out.mono ?_; rintro e w' ⟨rfl, rfl⟩)
  go_quiet (fail)
  have B1 := Lib.hid (hB.out.kept (w' := w.drewN nq) (fun _ _ _ => rfl))
  have O1 : Out (fun _ => False) w (w.drewN nq) := ⟨rfl, rfl, rfl, Nat.le_refl _, fun _ _ _ => rfl⟩
  have hall1 : Hid (∀ k, bs k → k < (w.drewN nq).heap.size) := Lib.hid hall
  clear c1 c2 hBeg hB hall
  generalize w.drewN nq = W at B1 O1 hall1 ⊢
  replace O1 := Lib.hid O1
  have B2' := B1.out
  have c0 := (at_cell B2'.box 0 : _ = some _)
  have hlk := B2'.look_ a ha
  obtain ⟨r1, r3⟩ := B2'.got_ a.data.toList
  rw [HX.out.1] at hlk r1 r3
  rw [En.val, HX.out.2.1, HX.out.2.2.2] at hlk
  rw [HX.out.2.2.1, HX.out.2.2.2] at r1
  rw [HX.out.2.2.2] at r3
  have r2 : Hid (Bt (W.alloc (.cells #[.slice p1 n1 c1', .int .i64 S] 60 (0, 0))) (.slice p1 n1 c1') old) := Lib.hid (r1.kept fun g hg => Below.heap_alloc _ _ _ (r1.lt hg))
  have hne : Hid (¬ (Value.slice p1 n1 c1').ownBlock = some W.heap.size) := Lib.hid fun e => by have := r1.lt e; omega
  have hx2 : Hid (gotE V a.data.toList = x ∧ x.sl = .slice p1 n1 c1') := Lib.hid ⟨HX.out.1, HX.out.2.2.2⟩
  have r4 := Lib.hid r3
  have hol : old.length ≤ 16777216 := by omega
  clear B2' r1 r3
  go_wp2_with (at_builtin; refine wp_text rfl _ _ rfl (.slice p1 n1 c1') old rfl r2.out s rfl hol hs ?_; intro v2 w2 R2 O2 L2; have N2 := O2.at_ (at_new W (.cells #[.slice p1 n1 c1', .int .i64 S] 60 (0, 0))) hne.out; obtain ⟨p2, n2, c2', rfl⟩ := R2.form; have n0 := (at_cell N2 0 : _ = some _); have n1 := (at_cell N2 1 : _ = some _); have nf := at_frozen N2 0; replace R2 := Lib.hid R2; replace O2 := Lib.hid O2; replace L2 := Lib.hid L2; replace N2 := Lib.hid N2)
  have N3 : (w2.setCell ⟨W.heap.size, 0, none⟩ (.slice p2 n2 c2')).heap[W.heap.size]? = some (.cells #[.slice p2 n2 c2', .int .i64 S] 60 (0, 0)) := by have := at_set N2.out 0 (.slice p2 n2 c2'); simpa using this
  have O3 : Hid (Out (fun k => k = W.heap.size) w2 (w2.setCell ⟨W.heap.size, 0, none⟩ (.slice p2 n2 c2'))) := Lib.hid ((Out.refl (fun k => k = W.heap.size) w2).setCell (p := ⟨W.heap.size, 0, none⟩) (fun _ => rfl) (.slice p2 n2 c2'))
  clear n0 n1 nf c0 hlk
  generalize w2.setCell ⟨W.heap.size, 0, none⟩ (.slice p2 n2 c2') = w3 at N3 O3 ⊢
  obtain ⟨hb3, hm3, ho3, hr3, hol3, hms3, hbb3⟩ := app_mid B1.out hx2.out.1 hx2.out.2 O2.out O3.out R2.out L2.out
  have n0 := (at_cell N3 0 : _ = some _)
  have n1 := (at_cell N3 1 : _ = some _)
  have c0 := (at_cell (hb3.trans B1.out.box) 0 : _ = some _)
  have hK3 := Lib.hid (B1.out.map.kept hm3)
  go_still_tail 6, (by kernel_rfl)
  change wpList _ _ _ _ _ w3.drew
  refine wp_store rfl _ _ _ _ rfl _ _ keyed Tryz.underlying62 m _ _ rfl (hK3.out.kept (w' := w3.drew) rfl) a.data.toList rfl (.agg #[.slice p2 n2 c2', .int .i64 S]) rfl (str_key ha) (str_inj _) ?_
  intro w4 K4 O4
  have O4' : Out (fun k => k = m) w3 w4 := O4.ofDrew
  have B4 := (B1.out.more (bs' := fun k => bs k ∨ (Value.slice p2 n2 c2').ownBlock = some k) (fun k hk => .inl hk)).put_ ⟨⟨a.data.toList, old ++ s.data.toList, S⟩, .slice p2 n2 c2'⟩ (w2 := w3) hb3 ho3 K4 O4' hr3 hol3 (fun g hg => ⟨.inr hg, hbb3 g hg⟩)
  have g2 := (at_cell B4.box 2 : _ = some _)
  have gf := at_frozen B4.box 2
  have HF := Lib.hid (app_fin (total' := total + s.size) B4 O1.out O2.out O3.out O4' L2.out hr3 ⟨B1.out.bb, B1.out.bm⟩ r4.out hall1.out)
  clear n0 n1 c0 hK3 K4 O4 B4 hb3 hm3 ho3 hr3 hol3 N3 hms3 hbb3
  go_wp2_with fail
  go_ret
  exact ⟨rfl, _, HF.out⟩
end
end Go.Proofs.YtngangdjbbbbdaaGreatDoor.Sto
end

section
namespace Go.Proofs.YtngangdjbbbbdaaGreatDoor.Sto
open Go.RowKit Go.Proofs.YtngangdjbbbbdaaGreatDoor.Own Go.Proofs.YtngangdjbbbbdaaGreatDoor.KM Go.Proofs.YtngangdjbbbbdaaGreatDoor.Flt
open Go.Proofs.YtngangdjbbbbdaaGreatDoor.Rw (str)

theorem name_max {a : ByteArray} (hn : isNm a.data.toList = true) : a.size ≤ maxLen := by have := (isNm_len hn).2; rw [size_list] at this; unfold maxLen; omega
theorem pt_wo {α : Type} {nm : α → Bs} (L : List α) (x : α) : pt nm (wo nm L (nm x)) x = pt nm L x := by
  have : wo nm (wo nm L (nm x)) (nm x) = wo nm L (nm x) := by unfold wo; rw [List.filter_filter]; simp
  unfold pt
  rw [this]

section
variable {w : World} {bs : Nat → Prop} {b m : Nat} {V : List En} {most total bad : Int}

set_option maxRecDepth 100000 in
set_option maxHeartbeats 1000000 in
theorem app_full (h : Base w bs b m V most total bad) (a s : ByteArray) (hn : isNm a.data.toList = true) (hb : ¬ 0 < bad) (ht0 : 0 ≤ total) (ht1 : total ≤ 16777216) (hs : s.size ≤ 4611686018427387904) (hf : most < total + s.size) :
    Calls Tryz.prog 16 #[.pointer (some ⟨b, 0, none⟩), .string a, .string s] w fun e w' => ∃ q, e = .returned (errv w) ∧ w' = (w.drewN q).alloc (fblk 6) := by
  have c1 := (at_cell h.box 1 : _ = some _)
  have c2 := (at_cell h.box 2 : _ = some _)
  have hBeg := Lib.hid (begin_ok a h.box hn hb)
  clear h hb
  go_enter Tryz.func16, Tryz.ntmps16
  go_wp2_with (go_at_call 40; refine hBeg.out.mono ?_; rintro e w' ⟨rfl, rfl⟩)
  go_quiet (fail)
  go_wp2_with (go_at_call 39; refine (wrong_calls 6 (by decide) _).mono ?_; rintro e w' ⟨rfl, rfl⟩)
  go_ret
  exact ⟨nq, rfl, rfl⟩

/-- a name that is looked for and not there -/
def Gone (w : World) (e : Ending) (w' : World) : Prop := ∃ o, e = .returned (errv (w.alloc o)) ∧ w' = (w.alloc o).alloc (fblk 7)
theorem Gone.of {w : World} {o : Obj} {v : Value} (h : v = errv (w.alloc o)) : Gone w (.returned v) ((w.alloc o).alloc (fblk 7)) := ⟨o, by rw [h], rfl⟩

theorem lk_gone (h : Base w bs b m V most total bad) {a : ByteArray} (hn : isNm a.data.toList = true) (hl : flk (V.map En.fl) a.data.toList = none) :
    (Instr.lookup 62 (.map (some m)) (.string a) true).run Tryz.prog w = .ok (.tuple #[.agg #[.slice none 0 0, .int .i64 0], .bool false]) w := by
  have := h.look_ok a (name_max hn)
  rw [hl] at this
  have e : lk enm V a.data.toList = none := by
    have := lk_fl V a.data.toList
    rw [hl] at this
    cases h2 : lk enm V a.data.toList with
    | none => rfl
    | some x => rw [h2] at this; cases this
  rw [gotE_none e] at this
  exact this
set_option maxRecDepth 100000 in
set_option maxHeartbeats 1000000 in
theorem syn_gone (h : Base w bs b m V most total bad) (a : ByteArray) (hn : isNm a.data.toList = true) (hb : ¬ 0 < bad) (hl : flk (V.map En.fl) a.data.toList = none) :
    Calls Tryz.prog 19 #[.pointer (some ⟨b, 0, none⟩), .string a] w (Gone w) := by
  have c0 := (at_cell h.box 0 : _ = some _)
  have hlk := lk_gone h hn hl
  have hBeg := Lib.hid (begin_ok a h.box hn hb)
  clear h hb hl
  go_enter Tryz.func19, Tryz.ntmps19
  go_wp2_with (first
    | (go_at_call 40; refine hBeg.out.mono ?_; rintro e w' ⟨rfl, rfl⟩)
    | (go_at_call 39; refine (wrong_calls 7 (by decide) _).mono ?_; rintro e w' ⟨rfl, rfl⟩))
  go_ret
  exact .of (by simp [errv])
set_option maxRecDepth 100000 in
set_option maxHeartbeats 1000000 in
theorem rem_gone (h : Base w bs b m V most total bad) (a : ByteArray) (hn : isNm a.data.toList = true) (hb : ¬ 0 < bad) (hl : flk (V.map En.fl) a.data.toList = none) :
    Calls Tryz.prog 47 #[.pointer (some ⟨b, 0, none⟩), .string a] w (Gone w) := by
  have c0 := (at_cell h.box 0 : _ = some _)
  have hlk := lk_gone h hn hl
  have hBeg := Lib.hid (begin_ok a h.box hn hb)
  clear h hb hl
  go_enter Tryz.func47, Tryz.ntmps47
  go_wp2_with (first
    | (go_at_call 40; refine hBeg.out.mono ?_; rintro e w' ⟨rfl, rfl⟩)
    | (go_at_call 39; refine (wrong_calls 7 (by decide) _).mono ?_; rintro e w' ⟨rfl, rfl⟩))
  go_ret
  exact .of (by simp [errv])
set_option maxRecDepth 100000 in
set_option maxHeartbeats 1000000 in
theorem ren_gone (h : Base w bs b m V most total bad) (a c : ByteArray) (hn : isNm a.data.toList = true) (hc : isNm c.data.toList = true) (hb : ¬ 0 < bad) (hl : flk (V.map En.fl) a.data.toList = none) :
    Calls Tryz.prog 48 #[.pointer (some ⟨b, 0, none⟩), .string a, .string c] w (Gone w) := by
  have c0 := (at_cell h.box 0 : _ = some _)
  have hlk := lk_gone h hn hl
  have hBeg := Lib.hid (begin_ok a h.box hn hb)
  clear h hb hl
  go_enter Tryz.func48, Tryz.ntmps48
  go_wp2_with (first
    | (go_at_call 40; refine hBeg.out.mono ?_; rintro e w' ⟨rfl, rfl⟩)
    | (go_at_call 71; refine (named_calls _ _).mono ?_; rw [hc]; rintro e w' ⟨rfl, rfl⟩)
    | (go_at_call 39; refine (wrong_calls 7 (by decide) _).mono ?_; rintro e w' ⟨rfl, rfl⟩))
  go_ret
  exact .of (by simp [errv])
set_option maxRecDepth 100000 in
set_option maxHeartbeats 1000000 in
theorem ren_to (h : Base w bs b m V most total bad) (a c : ByteArray) (hn : isNm a.data.toList = true) (hc : isNm c.data.toList = false) (hb : ¬ 0 < bad) :
    Calls Tryz.prog 48 #[.pointer (some ⟨b, 0, none⟩), .string a, .string c] w fun e w' => e = .returned (errv w) ∧ w' = w.alloc (fblk 1) := by
  have hBeg := Lib.hid (begin_ok a h.box hn hb)
  clear h hb
  go_enter Tryz.func48, Tryz.ntmps48
  go_wp2_with (first
    | (go_at_call 40; refine hBeg.out.mono ?_; rintro e w' ⟨rfl, rfl⟩)
    | (go_at_call 71; refine (named_calls _ _).mono ?_; rw [hc]; rintro e w' ⟨rfl, rfl⟩)
    | (go_at_call 39; refine (wrong_calls 1 (by decide) _).mono ?_; rintro e w' ⟨rfl, rfl⟩))
  go_ret
  exact ⟨rfl, rfl⟩

/-- a look-up that finds -/
theorem lk_there (h : Base w bs b m V most total bad) {a : ByteArray} (hn : isNm a.data.toList = true) (hl : (flk (V.map En.fl) a.data.toList).isSome = true) :
    ∃ p n c S, gotE V a.data.toList ∈ V ∧ enm (gotE V a.data.toList) = a.data.toList ∧ (gotE V a.data.toList).sl = .slice p n c ∧ (gotE V a.data.toList).fl.sure = S ∧ (gotE V a.data.toList).fl.bs.length = n ∧
      ∀ W : World, W.heap[m]? = w.heap[m]? → (Instr.lookup 62 (.map (some m)) (.string a) true).run Tryz.prog W = .ok (.tuple #[.agg #[.slice p n c, .int .i64 (S : Nat)], .bool true]) W := by
  rw [← lk_is] at hl
  obtain ⟨x, hx⟩ := Option.isSome_iff_exists.1 hl
  have e := gotE_some hx
  obtain ⟨p, c, hs, -⟩ := (h.got_ a.data.toList).1.shape
  refine ⟨p, _, c, _, by rw [e]; exact (lk_some hx).1, by rw [e]; exact (lk_some hx).2, hs, rfl, rfl, fun W hW => ?_⟩
  have := (h.map.kept hW).look true keyed Tryz.underlying62 (zeroFile W) (a := a.data.toList) (str_key (name_max hn)) (str_inj _)
  rw [look_getD, look_some, hl, En.val, hs] at this
  exact this

set_option maxRecDepth 100000 in
set_option maxHeartbeats 1000000 in
theorem rem_ok (h : Base w bs b m V most total bad) (hall : ∀ k, bs k → k < w.heap.size) (a : ByteArray) (hn : isNm a.data.toList = true) (hb : ¬ 0 < bad) (hl : (flk (V.map En.fl) a.data.toList).isSome = true)
    (h1 : (got (V.map En.fl) a.data.toList).bs.length ≤ total) (h2 : total ≤ 16777216) :
    Calls Tryz.prog 47 #[.pointer (some ⟨b, 0, none⟩), .string a] w fun e w' => e = .returned .nilIface ∧ Leaves w bs w' b m (wo enm V a.data.toList) most (total - (got (V.map En.fl) a.data.toList).bs.length) bad := by
  have c0 := (at_cell h.box 0 : _ = some _)
  obtain ⟨p, n, c, S, -, -, -, -, -, hlk⟩ := lk_there h hn hl
  replace hlk := hlk w rfl
  have hBeg := Lib.hid (begin_ok a h.box hn hb)
  have hD := Lib.hid (drop_calls (h.kept (w' := w.alloc (.cells #[.slice p n c, .int .i64 S] 60 (0, 0))) fun k _ hl => Below.heap_alloc _ _ _ hl) a (name_max hn) h1 h2)
  have hbm := Lib.hid (And.intro h.bb h.bm)
  have hA := Lib.hid hall
  clear h hb hl h1 h2 hall
  go_enter Tryz.func47, Tryz.ntmps47
  go_wp2_with (first
    | (go_at_call 40; refine hBeg.out.mono ?_; rintro e w' ⟨rfl, rfl⟩)
    | (go_at_call 73; refine hD.out.mono ?_; rintro e w2 ⟨rfl, B2, O2⟩; replace B2 := Lib.hid B2; replace O2 := Lib.hid O2))
  go_ret
  have z := O2.out.size
  simp at z
  refine ⟨rfl, _, B2.out, ?_, fun k hk => .inl hk, fun k hk => by have := hA.out k hk; omega⟩
  exact ((Out.refl bs w).alloc _).trans O2.out fun i _ hi => by rcases hi with rfl | rfl; exact hbm.out.1; exact hbm.out.2
set_option maxRecDepth 100000 in
set_option maxHeartbeats 4000000 in
theorem syn_ok (h : Base w bs b m V most total bad) (hall : ∀ k, bs k → k < w.heap.size) (a : ByteArray) (hn : isNm a.data.toList = true) (hb : ¬ 0 < bad) (hl : (flk (V.map En.fl) a.data.toList).isSome = true) :
    Calls Tryz.prog 19 #[.pointer (some ⟨b, 0, none⟩), .string a] w fun e w' => e = .returned .nilIface ∧
      ∃ sl, Leaves w bs w' b m (pt enm V ⟨⟨a.data.toList, (got (V.map En.fl) a.data.toList).bs, (got (V.map En.fl) a.data.toList).bs.length⟩, sl⟩) most total bad := by
  have c0 := (at_cell h.box 0 : _ = some _)
  obtain ⟨p, n, c, S, hxV, hnm, hsl, hS, hlen, hlk⟩ := lk_there h hn hl
  replace hlk := hlk w rfl
  have hBeg := Lib.hid (begin_ok a h.box hn hb)
  have hB := Lib.hid h
  have hA := Lib.hid hall
  have ha := name_max hn
  have HX := Lib.hid (show gotE V a.data.toList ∈ V ∧ enm (gotE V a.data.toList) = a.data.toList ∧ (gotE V a.data.toList).sl = .slice p n c ∧ (gotE V a.data.toList).fl.bs.length = n from ⟨hxV, hnm, hsl, hlen⟩)
  rw [← gotE_fl]
  clear h hb hl hall hxV hnm hsl hS hlen
  go_enter Tryz.func19, Tryz.ntmps19
  go_wp2_with (go_at_call 40; refine hBeg.out.mono ?_; rintro e w' ⟨rfl, rfl⟩)
  obtain ⟨W, hW⟩ : ∃ W, w.alloc (.cells #[.slice p n c, .int .i64 n] 60 (0, 0)) = W := ⟨_, rfl⟩
  have N3 : W.heap[w.heap.size]? = some (.cells #[.slice p n c, .int .i64 n] 60 (0, 0)) := by rw [← hW]; exact at_new _ _
  have O3 : Hid (Out (fun _ => False) w W) := Lib.hid (by rw [← hW]; exact (Out.refl _ w).alloc _)
  rw [hW]
  have B3 := Lib.hid (hB.out.out O3.out fun _ _ h => h)
  clear hW c0 hlk
  have n0 := (at_cell N3 0 : _ = some _)
  have n1 := (at_cell N3 1 : _ = some _)
  have c0 := (at_cell B3.out.box 0 : _ = some _)
  go_still_tail 6, (by kernel_rfl)
  change wpList _ _ _ _ _ W.drew
  refine wp_store rfl _ _ _ _ rfl _ _ keyed Tryz.underlying62 m _ _ rfl (B3.out.map.kept (w' := W.drew) rfl) a.data.toList rfl (.agg #[.slice p n c, .int .i64 n]) rfl (str_key ha) (str_inj _) ?_
  intro w4 K4 O4
  have O4' : Out (fun k => k = m) W w4 := O4.ofDrew
  have B4 := Lib.hid (B3.out.put_ ⟨⟨a.data.toList, (gotE V a.data.toList).fl.bs, (gotE V a.data.toList).fl.bs.length⟩, .slice p n c⟩ (w2 := W) rfl (fun _ _ _ _ _ => rfl) (by
      have e : En.val ⟨⟨a.data.toList, (gotE V a.data.toList).fl.bs, (gotE V a.data.toList).fl.bs.length⟩, .slice p n c⟩ = .agg #[.slice p n c, .int .i64 n] := by simp [En.val, HX.out.2.2.2]
      rw [e]; exact K4) O4' (by have := (B3.out.got_ a.data.toList).1; rw [HX.out.2.2.1] at this; exact this)
    (fun y hy hne => by have := apart_mem B3.out.apart HX.out.1 hy (fun e => hne (by rw [← e]; exact HX.out.2.1)); rw [HX.out.2.2.1] at this; exact this)
    (fun g hg => B3.out.mine _ HX.out.1 g (by rw [HX.out.2.2.1]; exact hg)))
  replace O4' := Lib.hid O4'
  clear n0 n1 c0 K4 O4 N3
  go_wp2_with fail
  go_ret
  have z1 := O3.out.size
  have z2 := O4'.out.size
  refine ⟨rfl, _, bs, B4.out, ?_, fun k hk => .inl hk, fun k hk => by have := hA.out k hk; omega⟩
  exact (O3.out.mono fun i _ h => h.elim).trans O4'.out fun i _ hi => by subst hi; exact hB.out.bm
set_option maxRecDepth 100000 in
set_option maxHeartbeats 4000000 in
theorem ren_ok (h : Base w bs b m V most total bad) (hall : ∀ k, bs k → k < w.heap.size) (a d : ByteArray) (hn : isNm a.data.toList = true) (hd : isNm d.data.toList = true) (hb : ¬ 0 < bad) (hl : (flk (V.map En.fl) a.data.toList).isSome = true)
    (h1 : (got (fwo (V.map En.fl) a.data.toList) d.data.toList).bs.length ≤ total) (h2 : total ≤ 16777216) :
    Calls Tryz.prog 48 #[.pointer (some ⟨b, 0, none⟩), .string a, .string d] w fun e w' => e = .returned .nilIface ∧
      ∃ sl, Leaves w bs w' b m (pt enm (wo enm V a.data.toList) ⟨⟨d.data.toList, (got (V.map En.fl) a.data.toList).bs, (got (V.map En.fl) a.data.toList).sure⟩, sl⟩) most (total - (got (fwo (V.map En.fl) a.data.toList) d.data.toList).bs.length) bad := by
  have c0 := (at_cell h.box 0 : _ = some _)
  obtain ⟨p, n, c, S, hxV, hnm, hsl, hS, hlen, hlk⟩ := lk_there h hn hl
  replace hlk := hlk w rfl
  have hBeg := Lib.hid (begin_ok a h.box hn hb)
  have hB := Lib.hid h
  have hA := Lib.hid hall
  have ha := name_max hn
  have c0' := (at_cell (at_old w (.cells #[.slice p n c, .int .i64 S] 60 (0, 0)) h.box) 0 : _ = some _)
  have hd' := name_max hd
  have HX := Lib.hid (show gotE V a.data.toList ∈ V ∧ enm (gotE V a.data.toList) = a.data.toList ∧ (gotE V a.data.toList).sl = .slice p n c from ⟨hxV, hnm, hsl⟩)
  have em : (wo enm V a.data.toList).map En.fl = fwo (V.map En.fl) a.data.toList := wo_map En.fl (fun _ => rfl) V a.data.toList
  obtain ⟨T, hT⟩ : ∃ T, (got (fwo (V.map En.fl) a.data.toList) d.data.toList).bs.length = T := ⟨_, rfl⟩
  rw [hT] at h1 ⊢
  have hTT : Hid ((got ((wo enm V a.data.toList).map En.fl) d.data.toList).bs.length = T) := Lib.hid (by rw [em]; exact hT)
  rw [← gotE_fl, hS]
  have H12 := Lib.hid (And.intro h1 h2)
  clear h hb hl hall hxV hnm hsl hS hlen em hT h1 h2
  go_enter Tryz.func48, Tryz.ntmps48
  go_wp2_with (first
    | (go_at_call 40; refine hBeg.out.mono ?_; rintro e w' ⟨rfl, rfl⟩)
    | (go_at_call 71; refine (named_calls _ _).mono ?_; rw [hd]; rintro e w' ⟨rfl, rfl⟩)
    | (at_delete; refine wp_drop rfl _ _ _ _ rfl _ keyed Tryz.underlying62 m _ _ rfl (hB.out.map.kept (w' := _) (Below.heap_alloc _ _ _ hB.out.lt.2)) a.data.toList rfl (str_key ha) (str_inj _) ?_; intro w2 K2 O2;
       have N2 := O2.at_ (at_new w (.cells #[.slice p n c, .int .i64 S] 60 (0, 0))) (fun e => by have := hB.out.lt.2; omega);
       have B2 := (hB.out.kept (w' := w.alloc (.cells #[.slice p n c, .int .i64 S] 60 (0, 0))) fun k _ hl => Below.heap_alloc _ _ _ hl).del_ a.data.toList K2 O2;
       have R2 := Lib.hid (drop_calls B2 d hd' (by rw [hTT.out]; exact H12.out.1) H12.out.2);
       replace O2 := Lib.hid O2; replace N2 := Lib.hid N2; clear K2 B2)
    | (go_at_call 73; refine R2.out.mono ?_; rw [hTT.out]; rintro e W ⟨rfl, B3, O3⟩; have N3 := O3.at_ N2.out (fun e => by have := hB.out.lt; omega); replace B3 := Lib.hid B3; replace O3 := Lib.hid O3; clear R2))
  have n0 := (at_cell N3 0 : _ = some _)
  have n1 := (at_cell N3 1 : _ = some _)
  clear c0 c0' hlk hBeg
  have c0 := (at_cell B3.out.box 0 : _ = some _)
  go_still_tail 6, (by kernel_rfl)
  change wpList _ _ _ _ _ W.drew
  refine wp_store rfl _ _ _ _ rfl _ _ keyed Tryz.underlying62 m _ _ rfl (B3.out.map.kept (w' := W.drew) rfl) d.data.toList rfl (.agg #[.slice p n c, .int .i64 S]) rfl (str_key hd') (str_inj _) ?_
  intro w4 K4 O4
  have O4' : Out (fun k => k = m) W w4 := O4.ofDrew
  have OW : Hid (Out (fun k => k = b ∨ k = m) w W) := Lib.hid (((((Out.refl (fun k => k = b ∨ k = m) w).alloc (.cells #[.slice p n c, .int .i64 S] 60 (0, 0)))).trans O2.out fun i _ hi => .inr hi).trans O3.out fun i _ hi => hi)
  have B4 := Lib.hid (B3.out.put_ ⟨⟨d.data.toList, (gotE V a.data.toList).fl.bs, S⟩, .slice p n c⟩ (w2 := W) rfl (fun _ _ _ _ _ => rfl) K4 O4'
    (by
      have := (hB.out.got_ a.data.toList).1
      rw [HX.out.2.2] at this
      exact this.kept fun g hg => OW.out.block g (this.lt hg) (by have := hB.out.mine _ HX.out.1 g (by rw [HX.out.2.2]; exact hg); rintro (e | e); exact this.2.1 e; exact this.2.2 e))
    (fun y hy _ => by
      have h1 := mem_wo.1 (mem_wo.1 hy).1
      have := apart_mem hB.out.apart HX.out.1 h1.1 (fun e => h1.2 (by rw [← e]; exact HX.out.2.1)); rw [HX.out.2.2] at this; exact this)
    (fun g hg => hB.out.mine _ HX.out.1 g (by rw [HX.out.2.2]; exact hg)))
  replace O4' := Lib.hid O4'
  clear n0 n1 c0 K4 O4 N3
  go_wp2_with fail
  go_ret
  have z1 := OW.out.size
  have z2 := O4'.out.size
  have e := B4.out
  rw [show (d.data.toList : Bs) = enm (⟨⟨d.data.toList, (gotE V a.data.toList).fl.bs, S⟩, .slice p n c⟩ : En) from rfl, pt_wo] at e
  refine ⟨rfl, _, bs, e, ?_, fun k hk => .inl hk, fun k hk => by have := hA.out k hk; omega⟩
  exact (OW.out.mono fun i _ h => by rcases h with rfl | rfl; exact hB.out.bb; exact hB.out.bm).trans O4'.out fun i _ hi => by subst hi; exact hB.out.bm
end
end Go.Proofs.YtngangdjbbbbdaaGreatDoor.Sto
end

