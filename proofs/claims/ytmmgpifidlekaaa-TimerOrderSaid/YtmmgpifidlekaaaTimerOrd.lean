/-
  Layer 6 (timer): what the law of order needs of lists; plain Lean.
-/
import Derived.Test.YtmmgpifidlekaaaTimerPlain
namespace Go.Proofs.Ytmmgpifidlekaaa.Timer
open Go.Proofs.Ytmmgpifidlekaaa.Hp

def ents (z : Nat → Int) (k : Nat) : List Ent := (List.range k).map fun (j : Nat) => ((j : Int), z j)
theorem ents_len (z : Nat → Int) (k : Nat) : (ents z k).length = k := by simp [ents]
theorem ents_succ (z : Nat → Int) (k : Nat) : ents z (k + 1) = ents z k ++ [((k : Int), z k)] := by simp [ents, List.range_succ]
theorem ents_mem {z : Nat → Int} {k : Nat} {e : Ent} (h : e ∈ ents z k) : ∃ j, j < k ∧ e = ((j : Int), z j) := by
  simp only [ents, List.mem_map, List.mem_range] at h
  obtain ⟨j, hj, rfl⟩ := h
  exact ⟨j, hj, rfl⟩

section
variable {z : Nat → Int} {k : Nat} {L : List Ent}
theorem fresh (hp : L.Perm (ents z k)) : isIn L (k : Int) = false ∧ delL L (k : Int) = L := by
  have h : ∀ e ∈ L, e.1 ≠ (k : Int) := fun e he => by
    obtain ⟨j, hj, rfl⟩ := ents_mem (hp.mem_iff.1 he)
    simp; omega
  refine ⟨?_, ?_⟩
  · simp only [isIn, List.any_eq_false]; intro e he; simpa using h e he
  · exact List.filter_eq_self.2 fun e he => by simpa using h e he
theorem ins_perm (L : List Ent) (x : Ent) : (insL L x).Perm (x :: L) := by
  unfold insL
  have h : (L.take (ahead L x) ++ [x] ++ L.drop (ahead L x)).Perm ([x] ++ L.take (ahead L x) ++ L.drop (ahead L x)) := (List.perm_append_comm).append_right _
  rw [List.append_assoc [x], List.take_append_drop] at h
  exact h
theorem set_step (hp : L.Perm (ents z k)) (hz : 0 ≤ z k ∧ z k ≤ 65535) (hk : k < 200) : setC L 200 (k : Int) (z k) = 0 ∧ (setL L 200 (k : Int) (z k)).Perm (ents z (k + 1)) := by
  obtain ⟨h1, h2⟩ := fresh hp
  have hl := hp.length_eq
  rw [ents_len] at hl
  have ht : isTick (z k) = true := by simp [isTick]; omega
  have hc : setC L 200 (k : Int) (z k) = 0 := by
    unfold setC
    rw [ht, h1, if_pos rfl, if_neg (by simp), if_neg (by omega)]
  refine ⟨hc, ?_⟩
  unfold setL
  rw [hc, if_pos rfl, h2, ents_succ]
  exact (ins_perm L _).trans ((hp.cons _).trans (List.perm_append_singleton _ _).symm)
end

section
variable {L : List Ent} {now : Int}
theorem due_rest (L : List Ent) (now : Int) : due L now ++ rest L now = L := List.takeWhile_append_dropWhile
theorem due_le : ∀ {e : Ent}, e ∈ due L now → e.2 ≤ now := by
  induction L with
  | nil => intro e h; simp [due] at h
  | cons x r ih =>
    intro e h
    unfold due at h
    rw [List.takeWhile_cons] at h
    split at h
    · rename_i hx
      rcases List.mem_cons.1 h with rfl | h
      · simpa using hx
      · exact ih h
    · simp at h
theorem rest_gt (h : L.Pairwise (fun a b => el a b = true)) : ∀ {e : Ent}, e ∈ rest L now → now < e.2 := by
  induction L with
  | nil => intro e he; simp [rest] at he
  | cons x r ih =>
    intro e he
    unfold rest at he
    rw [List.dropWhile_cons] at he
    obtain ⟨h1, h2⟩ := List.pairwise_cons.1 h
    split at he
    · exact ih h2 he
    · rename_i hx
      have hx' : now < x.2 := by simpa using hx
      rcases List.mem_cons.1 he with rfl | he
      · exact hx'
      · have := h1 e he
        rw [el_iff] at this
        omega
theorem due_none (h : L.Pairwise (fun a b => el a b = true)) : due (rest L now) now = [] := by
  cases hr : rest L now with
  | nil => rfl
  | cons x r =>
    have := rest_gt (now := now) h (e := x) (by rw [hr]; simp)
    simp [due, List.takeWhile_cons]; omega
theorem due_filter (h : L.Pairwise (fun a b => el a b = true)) : due L now = L.filter fun e => decide (e.2 ≤ now) := by
  have h1 : (due L now).filter (fun e => decide (e.2 ≤ now)) = due L now := List.filter_eq_self.2 fun e he => by simpa using due_le he
  have h2 : (rest L now).filter (fun e => decide (e.2 ≤ now)) = [] := List.filter_eq_nil_iff.2 fun e he => by have := rest_gt h he; simp; omega
  conv => rhs; rw [← due_rest L now, List.filter_append, h1, h2, List.append_nil]
/-- how many of the first k are due -/
def cnt (z : Nat → Int) (now : Int) (k : Nat) : Nat := ((ents z k).filter fun e => decide (e.2 ≤ now)).length
theorem cnt_succ (z : Nat → Int) (now : Int) (k : Nat) : cnt z now (k + 1) = cnt z now k + (if z k ≤ now then 1 else 0) := by
  unfold cnt
  rw [ents_succ, List.filter_append, List.length_append]
  congr 1
  by_cases h : z k ≤ now <;> simp [h]
theorem cnt_le (z : Nat → Int) (now : Int) (k : Nat) : cnt z now k ≤ k := by
  have := List.length_filter_le (fun e : Ent => decide (e.2 ≤ now)) (ents z k)
  rw [ents_len] at this; exact this
theorem due_len {z : Nat → Int} {n : Nat} (h : L.Pairwise (fun a b => el a b = true)) (hp : L.Perm (ents z n)) : (due L now).length = cnt z now n := by
  rw [due_filter h]; exact (hp.filter _).length_eq
theorem rest_len {z : Nat → Int} {n : Nat} (h : L.Pairwise (fun a b => el a b = true)) (hp : L.Perm (ents z n)) : (rest L now).length = n - cnt z now n := by
  have h1 := congrArg List.length (due_rest L now)
  rw [List.length_append, due_len h hp, hp.length_eq, ents_len] at h1
  omega
theorem due_at {z : Nat → Int} {n : Nat} (hp : L.Perm (ents z n)) {i : Nat} (hi : i < (due L now).length) : ∃ j, j < n ∧ gt (due L now) i = ((j : Int), z j) ∧ z j ≤ now := by
  have hm := gt_mem hi
  have hl : gt (due L now) i ∈ L := by
    have : gt (due L now) i ∈ due L now ++ rest L now := List.mem_append_left _ hm
    rwa [due_rest] at this
  obtain ⟨j, hj, e⟩ := ents_mem (hp.mem_iff.1 hl)
  have := due_le hm
  rw [e] at this
  exact ⟨j, hj, e, this⟩
theorem due_ord (h : L.Pairwise (fun a b => el a b = true)) {i : Nat} (hi : i + 1 < (due L now).length) : el (gt (due L now) i) (gt (due L now) (i + 1)) = true := by
  have hd : (due L now).Pairwise (fun a b => el a b = true) := by
    have : (due L now ++ rest L now).Pairwise (fun a b => el a b = true) := by rwa [due_rest]
    exact (List.pairwise_append.1 this).1
  rw [List.pairwise_iff_getElem] at hd
  rw [gt_get (show i < (due L now).length by omega), gt_get hi]
  exact hd i (i + 1) (by omega) hi (by omega)
end
end Go.Proofs.Ytmmgpifidlekaaa.Timer
