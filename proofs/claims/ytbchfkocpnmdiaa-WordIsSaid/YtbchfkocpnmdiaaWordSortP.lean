/-
  Layer 10 (word): plain facts: texts in order, each once.
-/
import Derived.Test.YtbchfkocpnmdiaaWordCutP
namespace Go.Proofs.Ytbchfkocpnmdiaa.Word
open Go.Lib

abbrev Bs := List UInt8
def Strict (l : List Bs) : Prop := l.Pairwise (· < ·)
def srt (ts : List Bs) : List Bs := Lib.compact (ts.mergeSort fun x y => decide (x ≤ y))

theorem lt_or {a b : Bs} (h : ¬ a < b) (hne : a ≠ b) : b < a := by
  have h1 : b ≤ a := List.not_lt.1 h
  rcases Decidable.em (b < a) with h2 | h2
  · exact h2
  · exact absurd (List.le_antisymm (List.not_lt.1 h2) h1) hne
theorem lt_of_ne {a b : Bs} (h : a ≤ b) (hne : a ≠ b) : a < b := lt_or (List.not_lt.2 h) (fun e => hne e.symm)
theorem strict_uniq {a b : List Bs} (ha : Strict a) (hb : Strict b) (h : ∀ y, y ∈ a ↔ y ∈ b) : a = b := by
  have nd : ∀ {l : List Bs}, Strict l → l.Nodup := fun hl => hl.imp fun hlt e => by subst e; exact List.lt_irrefl _ hlt
  refine List.Perm.eq_of_pairwise (le := fun x y => x < y) (fun x y _ _ h1 h2 => absurd (List.lt_trans h1 h2) (List.lt_irrefl _)) ha hb ((List.perm_ext_iff_of_nodup (nd ha) (nd hb)).2 h)

theorem comp_strict (zs : List Bs) (hz : zs.Pairwise (· ≤ ·)) : ∀ m, m ≤ zs.length → Strict (Lib.compactUpTo zs.toArray m) ∧ ∀ y, y ∈ Lib.compactUpTo zs.toArray m ↔ y ∈ zs.take m
  | 0, _ => by simp [Lib.compactUpTo, Strict]
  | m + 1, hm => by
    obtain ⟨h1, h2⟩ := comp_strict zs hz m (by omega)
    have hg : ∀ i (hi : i < zs.length), zs.toArray[i]! = zs[i] := fun i hi => by rw [getElem!_pos zs.toArray i (by simpa using hi)]; simp
    have ht : zs.take (m + 1) = zs.take m ++ [zs[m]] := by rw [List.take_add_one, List.getElem?_eq_getElem (show m < zs.length by omega)]; rfl
    rw [Lib.compactUpTo_succ]
    by_cases hk : Lib.keeps zs.toArray m = true
    · rw [if_pos hk, hg m (by omega)]
      refine ⟨?_, fun y => by rw [ht, List.mem_append, List.mem_append, h2]⟩
      refine List.pairwise_append.2 ⟨h1, List.pairwise_singleton _ _, ?_⟩
      intro y hy x hx
      obtain rfl : x = zs[m] := by simpa using hx
      rw [h2] at hy
      obtain ⟨i, hi, rfl⟩ := List.mem_iff_getElem.1 hy
      rw [List.length_take] at hi
      have hm0 : m ≠ 0 := by omega
      simp only [Lib.keeps, decide_eq_true_eq] at hk
      rcases hk with hk | hk
      · exact absurd hk hm0
      · rw [hg m (by omega), hg (m - 1) (by omega)] at hk
        rw [List.getElem_take]
        have hp := List.pairwise_iff_getElem.1 hz
        have hlt : zs[m - 1] < zs[m] := lt_of_ne (hp (m - 1) m (by omega) (by omega) (by omega)) (fun e => hk e.symm)
        by_cases him : i = m - 1
        · subst him; exact hlt
        · exact List.lt_of_le_of_lt (hp i (m - 1) (by omega) (by omega) (by omega)) hlt
    · rw [if_neg hk, List.append_nil]
      refine ⟨h1, fun y => ?_⟩
      rw [h2, ht, List.mem_append]
      constructor
      · exact .inl
      · rintro (h | h)
        · exact h
        · obtain rfl : y = zs[m] := by simpa using h
          simp only [Lib.keeps, decide_eq_true_eq, not_or, Classical.not_not] at hk
          rw [hg m (by omega), hg (m - 1) (by omega)] at hk
          rw [hk.2]
          exact List.mem_iff_getElem.2 ⟨m - 1, by rw [List.length_take]; omega, by rw [List.getElem_take]⟩
theorem srt_spec (ts : List Bs) : Strict (srt ts) ∧ ∀ y, y ∈ srt ts ↔ y ∈ ts := by
  have tr : ∀ a b c : Bs, decide (a ≤ b) = true → decide (b ≤ c) = true → decide (a ≤ c) = true := fun a b c h1 h2 => by simp only [decide_eq_true_eq] at *; exact List.le_trans h1 h2
  have to : ∀ a b : Bs, (decide (a ≤ b) || decide (b ≤ a)) = true := fun a b => by simp only [Bool.or_eq_true, decide_eq_true_eq]; exact List.le_total a b
  have hs : (ts.mergeSort fun x y => decide (x ≤ y)).Pairwise (· ≤ ·) := (List.pairwise_mergeSort tr to ts).imp (fun h => by simpa using h)
  obtain ⟨h1, h2⟩ := comp_strict _ hs _ (Nat.le_refl _)
  refine ⟨h1, fun y => ?_⟩
  rw [srt, Lib.compact, h2, List.take_length]
  exact (List.mergeSort_perm ts _).mem_iff
theorem srt_len (ts : List Bs) : (srt ts).length ≤ ts.length := by
  have := Lib.compact_length_le (ts.mergeSort fun x y => decide (x ≤ y))
  rwa [List.length_mergeSort] at this
theorem srt_nil : srt [] = [] := by
  have := srt_len []
  exact List.eq_nil_of_length_eq_zero (by simpa using this)

/-! ### put in one by one -/
def Put (ts : List Bs) (i : Nat) (out : List Bs) : Prop := Strict out ∧ (∀ y, y ∈ out ↔ y ∈ ts.take i) ∧ out.length ≤ i
theorem put_start (ts : List Bs) : Put ts 0 [] := ⟨List.Pairwise.nil, by simp, Nat.le_refl _⟩
theorem put_end {ts out : List Bs} {i : Nat} (h : Put ts i out) (hi : i = ts.length) : out = srt ts := by
  obtain ⟨h1, h2, _⟩ := h
  obtain ⟨h3, h4⟩ := srt_spec ts
  refine strict_uniq h1 h3 fun y => ?_
  rw [h2, h4, hi, List.take_length]
theorem put_take {ts : List Bs} {i : Nat} (hi : i < ts.length) : ts.take (i + 1) = ts.take i ++ [ts[i]] := by rw [List.take_add_one, List.getElem?_eq_getElem hi]; rfl
theorem put_same {ts out : List Bs} {i k : Nat} (h : Put ts i out) (hi : i < ts.length) (hk : k < out.length) (he : out[k] = ts[i]) : Put ts (i + 1) out := by
  obtain ⟨h1, h2, h0⟩ := h
  refine ⟨h1, fun y => ?_, by omega⟩
  rw [put_take hi, List.mem_append, h2]
  constructor
  · exact .inl
  · rintro (h | h)
    · exact h
    · obtain rfl : y = ts[i] := by simpa using h
      exact (h2 _).1 (List.mem_iff_getElem.2 ⟨k, hk, he⟩)
theorem put_new {ts out : List Bs} {i k : Nat} (h : Put ts i out) (hi : i < ts.length) (hk : k ≤ out.length) (hlow : ∀ j (hj : j < out.length), j < k → out[j] < ts[i]) (hhigh : ∀ _ : k < out.length, ¬ out[k] < ts[i] ∧ out[k] ≠ ts[i]) : Put ts (i + 1) (out.take k ++ [ts[i]] ++ out.drop k) := by
  obtain ⟨h1, h2, h0⟩ := h
  have hlo : ∀ y ∈ out.take k, y < ts[i] := by
    intro y hy
    obtain ⟨j, hj, rfl⟩ := List.mem_iff_getElem.1 hy
    rw [List.length_take] at hj
    rw [List.getElem_take]
    exact hlow j (by omega) (by omega)
  have hhi : ∀ y ∈ out.drop k, ts[i] < y := by
    intro y hy
    obtain ⟨j, hj, rfl⟩ := List.mem_iff_getElem.1 hy
    rw [List.length_drop] at hj
    rw [List.getElem_drop]
    obtain ⟨h3, h4⟩ := hhigh (by omega)
    have h5 := lt_or h3 h4
    by_cases hj0 : j = 0
    · subst hj0; exact h5
    · exact List.lt_trans h5 (List.pairwise_iff_getElem.1 h1 k (k + j) (by omega) (by omega) (by omega))
  refine ⟨?_, ?_, by simp; omega⟩
  · refine List.pairwise_append.2 ⟨List.pairwise_append.2 ⟨h1.sublist (List.take_sublist _ _), List.pairwise_singleton _ _, ?_⟩, h1.sublist (List.drop_sublist _ _), ?_⟩
    · intro y hy x hx
      obtain rfl : x = ts[i] := by simpa using hx
      exact hlo y hy
    · intro y hy x hx
      rw [List.mem_append] at hy
      rcases hy with hy | hy
      · exact List.lt_trans (hlo y hy) (hhi x hx)
      · obtain rfl : y = ts[i] := by simpa using hy
        exact hhi x hx
  · intro y
    rw [put_take hi, List.mem_append, List.mem_append, List.mem_append, ← h2 y]
    have : y ∈ out ↔ y ∈ out.take k ∨ y ∈ out.drop k := by rw [← List.mem_append, List.take_append_drop]
    rw [this]
    constructor
    · rintro ((h | h) | h)
      · exact .inl (.inl h)
      · exact .inr h
      · exact .inl (.inr h)
    · rintro ((h | h) | h)
      · exact .inl (.inl h)
      · exact .inr h
      · exact .inl (.inr h)
theorem put_len {ts out : List Bs} {i : Nat} (h : Put ts i out) : out.length ≤ i := h.2.2

end Go.Proofs.Ytbchfkocpnmdiaa.Word
