/-
  Layer 4 (ring): the plain mathematics of bytes that stand around the end of their places.
-/
import Derived.Test.YtgbelgmnenbmcaaOwn
namespace Go.Proofs.Ytgbelgmnenbmcaa.Ring
open Go.RowKit Go.Proofs.Ytgbelgmnenbmcaa.Own

/-- the bytes t stand in the places L, from f on, around the end -/
def Reads (L : List UInt8) (f : Nat) (t : List UInt8) : Prop :=
  t.length ≤ L.length ∧ (f < L.length ∨ (f = 0 ∧ L = [])) ∧ ∀ i, i < t.length → L[(f + i) % L.length]? = t[i]?

theorem mod2 {f n i : Nat} (hf : f < n) (hi : i ≤ n) : (f + i) % n = if f + i < n then f + i else f + i - n := by
  split
  · rename_i h; exact Nat.mod_eq_of_lt h
  · rename_i h
    rw [Nat.mod_eq_sub_mod (by omega), Nat.mod_eq_of_lt (by omega)]

theorem splice_get {α : Type} (L cs : List α) (o i : Nat) (h : o + cs.length ≤ L.length) : (splice L o cs)[i]? = if i < o then L[i]? else if i < o + cs.length then cs[i - o]? else L[i]? := by
  unfold splice
  by_cases h1 : i < o
  · rw [if_pos h1, List.getElem?_append_left (by simp; omega), List.getElem?_take, if_pos h1]
  · rw [if_neg h1, List.getElem?_append_right (by simp; omega)]
    have hl : (L.take o).length = o := by simp; omega
    rw [hl]
    by_cases h2 : i < o + cs.length
    · rw [if_pos h2, List.getElem?_append_left (by omega)]
    · rw [if_neg h2, List.getElem?_append_right (by omega), List.getElem?_drop]
      congr 1; omega

theorem splice_nil {α : Type} (L : List α) (o : Nat) : splice L o [] = L := by simp [splice]

theorem splice_two {α : Type} (L x y : List α) (o : Nat) (h : o + x.length + y.length ≤ L.length) : splice (splice L o x) (o + x.length) y = splice L o (x ++ y) := by
  apply List.ext_getElem?
  intro i
  have hs : (splice L o x).length = L.length := length_splice L o x (by omega)
  rw [splice_get _ _ _ _ (by omega), splice_get L x o i (by omega), splice_get L (x ++ y) o i (by simp; omega)]
  simp only [List.length_append]
  by_cases h1 : i < o
  · rw [if_pos (by omega), if_pos h1, if_pos h1]
  · by_cases h2 : i < o + x.length
    · rw [if_pos h2, if_neg h1, if_pos h2, if_neg h1, if_pos (by omega), List.getElem?_append_left (by omega)]
    · by_cases h3 : i < o + (x.length + y.length)
      · rw [if_neg h2, if_pos (by omega), if_neg h1, if_pos h3, List.getElem?_append_right (by omega)]; congr 1; omega
      · rw [if_neg h2, if_neg (by omega), if_neg h1, if_neg h2, if_neg h1, if_neg h3]

theorem reads_nil : Reads [] 0 [] := ⟨Nat.le_refl _, .inr ⟨rfl, rfl⟩, fun i h => absurd h (by simp)⟩
theorem reads_flat (t z : List UInt8) (h : t ++ z ≠ []) : Reads (t ++ z) 0 t := by
  have hp : 0 < (t ++ z).length := List.length_pos_iff.2 h
  refine ⟨by simp, .inl hp, fun i hi => ?_⟩
  rw [Nat.zero_add, Nat.mod_eq_of_lt (by simp; omega), List.getElem?_append_left hi]

section
variable {L t : List UInt8} {f : Nat}

theorem reads_pos (h : Reads L f t) (ht : 0 < t.length) : f < L.length := by
  rcases h.2.1 with h' | ⟨_, rfl⟩
  · exact h'
  · have := h.1; simp at this; subst this; simp at ht
theorem reads_le (h : Reads L f t) : f ≤ L.length := by
  rcases h.2.1 with h' | ⟨rfl, _⟩ <;> omega

theorem reads_at (h : Reads L f t) {i : Nat} (hi : i < t.length) : L[(f + i) % L.length]? = some t[i] := by
  rw [h.2.2 i hi, List.getElem?_eq_getElem hi]

theorem reads_drop (h : Reads L f t) {k : Nat} (hk : k ≤ t.length) (h0 : 0 < k) : Reads L ((f + k) % L.length) (t.drop k) := by
  have hf := reads_pos h (by omega)
  have hl := h.1
  refine ⟨by simp; omega, .inl (Nat.mod_lt _ (by omega)), fun i hi => ?_⟩
  simp only [List.length_drop] at hi
  rw [List.getElem?_drop, ← h.2.2 (k + i) (by omega)]
  congr 1
  rw [Nat.mod_add_mod, Nat.add_assoc]

/-- the first m bytes, where they end ahead of the places' end -/
theorem reads_one (h : Reads L f t) {m : Nat} (hm : m ≤ t.length) (hn : m ≤ L.length - f) {j : Nat} (hj : j < m) : L[f + j]? = (t.take m)[j]? := by
  rw [List.getElem?_take, if_pos hj, ← h.2.2 j (by omega), Nat.mod_eq_of_lt (by omega)]
/-- the bytes behind the places' end -/
theorem reads_two (h : Reads L f t) {m : Nat} (hm : m ≤ t.length) (hn : L.length - f ≤ m) {j : Nat} (hj : j < m - (L.length - f)) : L[j]? = ((t.take m).drop (L.length - f))[j]? := by
  have hf := reads_pos h (by omega)
  have hl := h.1
  rw [List.getElem?_drop, List.getElem?_take, if_pos (by omega), ← h.2.2 (L.length - f + j) (by omega), mod2 hf (by omega), if_neg (by omega)]
  congr 1; omega

/-- bytes that are put behind, around the end -/
theorem reads_put (h : Reads L f t) (s : List UInt8) (hs : t.length + s.length ≤ L.length) (h0 : 0 < L.length) (d : Nat) (hd : d = min s.length (L.length - (f + t.length) % L.length)) :
    Reads (splice (splice L ((f + t.length) % L.length) (s.take d)) 0 (s.drop d)) f (t ++ s) := by
  have hf : f < L.length := by rcases h.2.1 with h' | ⟨_, rfl⟩; exact h'; simp at h0
  have hp : (f + t.length) % L.length < L.length := Nat.mod_lt _ h0
  have hpe := mod2 (i := t.length) hf (by omega)
  generalize (f + t.length) % L.length = p at *
  have hl1 : (s.take d).length = d := by simp; omega
  have hl2 : (s.drop d).length = s.length - d := by simp
  have e1 : (splice L p (s.take d)).length = L.length := length_splice _ _ _ (by omega)
  have e2 : (splice (splice L p (s.take d)) 0 (s.drop d)).length = L.length := by rw [length_splice _ _ _ (by omega), e1]
  refine ⟨by rw [e2]; simp; omega, .inl (by omega), fun i hi => ?_⟩
  simp only [List.length_append] at hi
  rw [e2, mod2 hf (by omega), splice_get _ _ _ _ (by omega), splice_get _ _ _ _ (by omega), hl1, hl2]
  simp only [Nat.zero_add, Nat.sub_zero, Nat.not_lt_zero, if_false]
  by_cases hit : i < t.length
  · have := h.2.2 i hit
    rw [mod2 hf (by omega)] at this
    rw [List.getElem?_append_left hit, ← this]
    split <;> split at hpe <;> (first | (rw [if_neg (by omega), if_pos (by omega)]) | (rw [if_neg (by omega), if_neg (by omega), if_neg (by omega)]))
  · rw [List.getElem?_append_right (by omega)]
    by_cases hw : i - t.length < d
    · have e : (s.take d)[i - t.length]? = s[i - t.length]? := by rw [List.getElem?_take, if_pos hw]
      rw [← e]
      split <;> split at hpe <;> (rw [if_neg (by omega), if_neg (by omega), if_pos (by omega)]; congr 1; omega)
    · have e : (s.drop d)[i - t.length - d]? = s[i - t.length]? := by rw [List.getElem?_drop]; congr 1; omega
      rw [← e]
      split <;> split at hpe <;> first | (exfalso; omega) | (rw [if_pos (by omega)]; congr 1; omega)
end
end Go.Proofs.Ytgbelgmnenbmcaa.Ring
