/-
  Layer 11 (store): a store and the document's, side by side.
-/
import Derived.Test.YtememmgnhnldaaaDoorStoErrs
import Derived.Test.YtememmgnhnldaaaDoorStoRefO
namespace Go.Proofs.YtememmgnhnldaaaDoor.Sto
open Go.RowKit Go.Proofs.YtememmgnhnldaaaDoor.Own Go.Proofs.YtememmgnhnldaaaDoor.KM Go.Proofs.YtememmgnhnldaaaDoor.Flt
open Go.Proofs.YtememmgnhnldaaaDoor.Rw (str strs Row1 below_drew)

/-- the document's store beside one: it never counts below none -/
def rf (t : St) : St := ⟨t.L, t.most, max 0 t.bad⟩
theorem rf_beg (t : St) (a : Bs) : begC (rf t) a = begC t a ∧ begT (rf t) a = rf (begT t a) := by
  by_cases h1 : isNm a = true
  · by_cases h2 : 0 < t.bad
    · have h3 : 0 < (rf t).bad := by show 0 < max 0 t.bad; omega
      obtain ⟨e1, e2⟩ := begC_io h1 h2
      obtain ⟨e3, e4⟩ := begC_io (t := rf t) h1 h3
      refine ⟨e3.trans e1.symm, e4.trans ?_⟩
      rw [e2]
      show St.mk t.L t.most (max 0 t.bad - 1) = St.mk t.L t.most (max 0 (t.bad - 1))
      congr 1; omega
    · have h3 : ¬ 0 < (rf t).bad := by show ¬ 0 < max 0 t.bad; omega
      obtain ⟨e1, e2⟩ := begC_ok h1 h2
      obtain ⟨e3, e4⟩ := begC_ok (t := rf t) h1 h3
      exact ⟨e3.trans e1.symm, e4.trans (by rw [e2])⟩
  · have h1' : isNm a = false := by simpa using h1
    obtain ⟨e1, e2⟩ := begC_arg (t := t) h1'
    obtain ⟨e3, e4⟩ := begC_arg (t := rf t) h1'
    exact ⟨e3.trans e1.symm, e4.trans (by rw [e2])⟩
theorem rf_app (t : St) (a s : Bs) : appC (rf t) a s = appC t a s ∧ appT (rf t) a s = rf (appT t a s) := by
  obtain ⟨e1, e2⟩ := rf_beg t a
  unfold appC appT
  rw [e1, e2]
  refine ⟨rfl, ?_⟩
  by_cases h : begC t a = 0
  · rw [if_pos h, if_pos h]
    by_cases h2 : (tot t.L : Int) + s.length > t.most
    · rw [if_pos h2]; exact if_pos h2
    · rw [if_neg h2]; exact if_neg h2
  · rw [if_neg h, if_neg h]
theorem rf_syn (t : St) (a : Bs) : synC (rf t) a = synC t a ∧ synT (rf t) a = rf (synT t a) := by
  obtain ⟨e1, e2⟩ := rf_beg t a
  unfold synC synT
  rw [e1, e2]
  refine ⟨rfl, ?_⟩
  by_cases h : begC t a = 0
  · rw [if_pos h, if_pos h]
    by_cases h2 : (flk t.L a).isSome
    · rw [if_pos h2]; exact if_pos h2
    · rw [if_neg h2]; exact if_neg h2
  · rw [if_neg h, if_neg h]
theorem rf_rem (t : St) (a : Bs) : remC (rf t) a = remC t a ∧ remT (rf t) a = rf (remT t a) := by
  obtain ⟨e1, e2⟩ := rf_beg t a
  unfold remC remT
  rw [e1, e2]
  refine ⟨rfl, ?_⟩
  by_cases h : begC t a = 0
  · rw [if_pos h, if_pos h]
    by_cases h2 : (flk t.L a).isSome
    · rw [if_pos h2]; exact if_pos h2
    · rw [if_neg h2]; exact if_neg h2
  · rw [if_neg h, if_neg h]
theorem rf_ren (t : St) (a d : Bs) : renC (rf t) a d = renC t a d ∧ renT (rf t) a d = rf (renT t a d) := by
  obtain ⟨e1, e2⟩ := rf_beg t a
  unfold renC renT
  rw [e1, e2]
  refine ⟨rfl, ?_⟩
  by_cases h : begC t a = 0
  · rw [if_pos h, if_pos h]
    by_cases h2 : isNm d = true ∧ (flk t.L a).isSome
    · rw [if_pos h2]; exact if_pos h2
    · rw [if_neg h2]; exact if_neg h2
  · rw [if_neg h, if_neg h]

/-- the document's row lies elsewhere -/
def Far (w : World) (bs : Nat → Prop) (p : Option Addr) : Prop := ∀ g o, p = some ⟨g, o, none⟩ → ¬ bs g ∧ g < w.heap.size
theorem Far.mono {w w' : World} {bs : Nat → Prop} {p : Option Addr} (h : Far w bs p) (hs : w.heap.size ≤ w'.heap.size) : Far w' bs p := fun g o e => ⟨(h g o e).1, Nat.lt_of_lt_of_le (h g o e).2 hs⟩
structure Pair (w0 w : World) (bs : Nat → Prop) (b : Nat) (t : St) (p : Option Addr) (c : Nat) : Prop where
  below : Below w0.heap.size w0 w
  sto : Sto w bs b t
  mine : ∀ k, bs k → w0.heap.size ≤ k
  fs : Fs w p c t.L
  far : Far w bs p
section
variable {w0 w w' : World} {bs : Nat → Prop} {b : Nat} {t t' : St} {p : Option Addr} {c : Nat}
theorem Pair.same (h : Pair w0 w bs b t p c) (hb : Below w.heap.size w w') : Pair w0 w' bs b t p c :=
  ⟨h.below.trans (hb.mono h.below.size), h.sto.below hb, h.mine, h.fs.below hb, h.far.mono hb.size⟩
/-- what an act leaves -/
def DoPost (w : World) (bs : Nat → Prop) (b : Nat) (p : Option Addr) (t' : St) (e : Ending) (w' : World) : Prop :=
  ∃ bs' p' c', e = .returned (.tuple #[rv p' t'.L.length c' t'.most (max 0 t'.bad), .bool true]) ∧ Sto w' bs' b t' ∧ Out bs w w' ∧ (∀ k, bs' k → bs k ∨ w.heap.size ≤ k) ∧ Fs w' p' c' t'.L ∧ Far w' bs' p' ∧ (p' = p ∨ ∀ g o, p' = some ⟨g, o, none⟩ → w.heap.size ≤ g)
theorem Pair.next (h : Pair w0 w bs b t p c) {bs' : Nat → Prop} {p' : Option Addr} {c' : Nat} (hs : Sto w' bs' b t') (ho : Out bs w w') (hn : ∀ k, bs' k → bs k ∨ w.heap.size ≤ k) (hf : Fs w' p' c' t'.L) (hfar : Far w' bs' p') : Pair w0 w' bs' b t' p' c' := by
  have hsz := h.below.size
  refine ⟨h.below.trans (ho.below hsz fun i hi => h.mine i hi), hs, fun k hk => ?_, hf, hfar⟩
  rcases hn k hk with h1 | h1
  · exact h.mine k h1
  · omega
/-- the document's call first, the store's behind it -/
theorem far_new {w1 w5 w6 : World} {p' : Option Addr} {bs' : Nat → Prop} (hall : ∀ k, bs k → k < w.heap.size) (hb : Below w.heap.size w w1) (hp : p' = p ∨ ∀ g o, p' = some ⟨g, o, none⟩ → w.heap.size ≤ g ∧ g < w1.heap.size) (hf : Far w bs p)
    (hs : w1.heap.size ≤ w5.heap.size) (hn : ∀ k, bs' k → bs k ∨ w5.heap.size ≤ k) (hs6 : w5.heap.size ≤ w6.heap.size) : Far w6 bs' p' := by
  have hlt := hb.size
  intro g o e
  have h1 : ¬ bs g ∧ g < w1.heap.size := by
    rcases hp with rfl | hp
    · exact ⟨(hf g o e).1, Nat.lt_of_lt_of_le (hf g o e).2 hlt⟩
    · obtain ⟨h2, h3⟩ := hp g o e
      exact ⟨fun hk => by have := hall g hk; omega, h3⟩
  refine ⟨fun hk => ?_, by omega⟩
  rcases hn g hk with h2 | h2
  · exact h1.1 h2
  · omega
end
end Go.Proofs.YtememmgnhnldaaaDoor.Sto
