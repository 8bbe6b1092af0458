/-
  Layer 6 (timer): whoever is waited for, as a list in the order in which they are told; plain Lean.
-/
import Derived.Test.YtmmgpifidlekaaaHeapPlain
namespace Go.Proofs.Ytmmgpifidlekaaa.Timer
open Go.Proofs.Ytmmgpifidlekaaa.Hp

/-- where somebody stands -/
def plc : List Ent → Int → Int
  | [], _ => -1
  | e :: r, id => if e.1 = id then 0 else if plc r id < 0 then -1 else plc r id + 1
/-- all but somebody -/
def delL (L : List Ent) (id : Int) : List Ent := L.filter fun e => decide (e.1 ≠ id)
/-- how many come ahead -/
def ahead (L : List Ent) (x : Ent) : Nat := (L.takeWhile fun e => el e x).length
def insL (L : List Ent) (x : Ent) : List Ent := L.take (ahead L x) ++ [x] ++ L.drop (ahead L x)
/-- those whose time has come, and the others -/
def due (L : List Ent) (now : Int) : List Ent := L.takeWhile fun e => decide (e.2 ≤ now)
def rest (L : List Ent) (now : Int) : List Ent := L.dropWhile fun e => decide (e.2 ≤ now)

/-- is somebody waited for? -/
def isIn (L : List Ent) (id : Int) : Bool := L.any fun e => decide (e.1 = id)
def whenL (L : List Ent) (id : Int) : Int := ((L.find? fun e => decide (e.1 = id)).map (·.2)).getD 0
def isTick (n : Int) : Bool := decide (0 ≤ n) && decide (n ≤ 1099511627776)
/-- what Set answers, and leaves (codes: OK 0, ErrArg 1, ErrFull 6) -/
def setC (L : List Ent) (most id at_ : Int) : Int := if isTick at_ then (if isIn L id then 0 else if most ≤ L.length then 6 else 0) else 1
def setL (L : List Ent) (most id at_ : Int) : List Ent := if setC L most id at_ = 0 then insL (delL L id) (id, at_) else L

/-- a machine's number -/
def i64 (n : Int) : Prop := -9223372036854775808 ≤ n ∧ n ≤ 9223372036854775807
/-- in order, each once -/
def Srt (L : List Ent) : Prop := L.Pairwise (fun a b => el a b = true) ∧ L.Pairwise (fun a b => a.1 ≠ b.1)

theorem plc_range (L : List Ent) (id : Int) : -1 ≤ plc L id ∧ plc L id < L.length ∧ (L = [] → plc L id = -1) := by
  induction L with
  | nil => simp [plc]
  | cons e r ih =>
    unfold plc
    split
    · simp
    · split
      · simp; omega
      · simp; omega
theorem plc_neg (L : List Ent) (id : Int) : plc L id < 0 ↔ isIn L id = false := by
  induction L with
  | nil => simp [plc, isIn]
  | cons e r ih =>
    unfold plc
    by_cases h : e.1 = id
    · simp [h, isIn]
    · rw [if_neg h]
      have : isIn (e :: r) id = isIn r id := by simp [isIn, h]
      rw [this, ← ih]
      split <;> omega
theorem plc_at {L : List Ent} {k : Nat} {id : Int} (h : plc L id = (k : Int)) : k < L.length ∧ (gt L k).1 = id ∧ ∀ j, j < k → (gt L j).1 ≠ id := by
  induction L generalizing k with
  | nil => simp [plc] at h
  | cons e r ih =>
    unfold plc at h
    split at h
    · rename_i h1
      obtain rfl : k = 0 := by omega
      exact ⟨by simp, by simpa [gt] using h1, fun j hj => by omega⟩
    · rename_i h1
      split at h
      · omega
      · obtain ⟨m, rfl⟩ : ∃ m, k = m + 1 := ⟨k - 1, by omega⟩
        obtain ⟨a, b, c⟩ := ih (k := m) (by omega)
        refine ⟨by simpa using a, by simpa [gt] using b, fun j hj => ?_⟩
        cases j with
        | zero => simpa [gt] using h1
        | succ j => simpa [gt] using c j (by omega)
theorem plc_is {L : List Ent} {k : Nat} {id : Int} (h1 : k < L.length) (h2 : (gt L k).1 = id) (h3 : ∀ j, j < k → (gt L j).1 ≠ id) : plc L id = (k : Int) := by
  induction L generalizing k with
  | nil => simp at h1
  | cons e r ih =>
    unfold plc
    cases k with
    | zero => rw [if_pos (by simpa [gt] using h2)]; rfl
    | succ m =>
      rw [if_neg (by have := h3 0 (by omega); simpa [gt] using this)]
      have := ih (k := m) (by simpa using h1) (by simpa [gt] using h2) (fun j hj => by have := h3 (j + 1) (by omega); simpa [gt] using this)
      rw [this]; split <;> omega
theorem plc_none {L : List Ent} {id : Int} (h : ∀ j, j < L.length → (gt L j).1 ≠ id) : plc L id = -1 := by
  have h1 := plc_range L id
  by_cases h2 : plc L id < 0
  · omega
  · obtain ⟨k, hk⟩ : ∃ k : Nat, plc L id = k := ⟨(plc L id).toNat, by omega⟩
    obtain ⟨a, b, _⟩ := plc_at hk
    exact absurd b (h k a)

theorem ahead_is {D : List Ent} {x : Ent} {k : Nat} (h1 : k ≤ D.length) (h2 : ∀ j, j < k → el (gt D j) x = true) (h3 : k < D.length → el (gt D k) x = false) : ahead D x = k := by
  unfold ahead
  induction D generalizing k with
  | nil => simp at h1; subst h1; rfl
  | cons e r ih =>
    cases k with
    | zero =>
      have : el e x = false := by simpa [gt] using h3 (by simp)
      simp [this]
    | succ m =>
      have h0 : el e x = true := by simpa [gt] using h2 0 (by omega)
      rw [List.takeWhile_cons, if_pos h0, List.length_cons, ih (k := m) (by simpa using h1) (fun j hj => by simpa [gt] using h2 (j + 1) (by omega)) (fun hm => by simpa [gt] using h3 (by simpa using hm))]
end Go.Proofs.Ytmmgpifidlekaaa.Timer
