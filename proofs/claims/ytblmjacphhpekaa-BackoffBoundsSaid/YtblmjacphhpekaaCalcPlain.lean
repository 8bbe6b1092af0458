/-
  Layer 1 (calc) in plain Lean: what each function answers, with no program in sight.
-/
import Derived.WalkKit
namespace Go.Proofs.Ytblmjacphhpekaa.Calc
open Go.RowKit

/-- May a number be a tick? -/
def isT (n : Int) : Bool := decide (0 ≤ n) && decide (n ≤ 1099511627776)

theorem isT_iff {n : Int} : isT n = true ↔ 0 ≤ n ∧ n ≤ 1099511627776 := by
  unfold isT; simp

theorem isT_not {n : Int} : isT n = false ↔ n < 0 ∨ 1099511627776 < n := by
  rw [← Bool.not_eq_true, isT_iff]; omega

/-- The code of a sum. -/
def addC (a b : Int) : Int := if isT a = true then (if isT b = true then (if isT (a + b) = true then 0 else 2) else 1) else 1
/-- The sum, or nothing. -/
def addV (a b : Int) : Int := if addC a b = 0 then a + b else 0

/-- The code of a difference. -/
def subC (a b : Int) : Int := if isT a = true then (if isT b = true then (if b ≤ a then 0 else 2) else 1) else 1
/-- The difference, or nothing. -/
def subV (a b : Int) : Int := if subC a b = 0 then a - b else 0

theorem addC_one {a b : Int} (h : isT a = false ∨ isT b = false) : addC a b = 1 := by
  unfold addC; rcases h with h | h <;> simp [h]
theorem addC_two {a b : Int} (ha : isT a = true) (hb : isT b = true) (h : isT (a + b) = false) : addC a b = 2 := by
  unfold addC; simp [ha, hb, h]
theorem addC_nought {a b : Int} (ha : isT a = true) (hb : isT b = true) (h : isT (a + b) = true) : addC a b = 0 := by
  unfold addC; simp [ha, hb, h]
theorem addV_none {a b : Int} (h : addC a b ≠ 0) : addV a b = 0 := by unfold addV; rw [if_neg h]
theorem addV_some {a b : Int} (h : addC a b = 0) : addV a b = a + b := by unfold addV; rw [if_pos h]
theorem addC_inv {a b : Int} (h : addC a b = 0) : isT a = true ∧ isT b = true ∧ isT (a + b) = true := by
  unfold addC at h
  repeat (split at h <;> try omega)
  simp_all

theorem subC_one {a b : Int} (h : isT a = false ∨ isT b = false) : subC a b = 1 := by
  unfold subC; rcases h with h | h <;> simp [h]
theorem subC_two {a b : Int} (ha : isT a = true) (hb : isT b = true) (h : a < b) : subC a b = 2 := by
  unfold subC; simp [ha, hb, show ¬ b ≤ a by omega]
theorem subC_nought {a b : Int} (ha : isT a = true) (hb : isT b = true) (h : b ≤ a) : subC a b = 0 := by
  unfold subC; simp [ha, hb, h]
theorem subV_none {a b : Int} (h : subC a b ≠ 0) : subV a b = 0 := by unfold subV; rw [if_neg h]
theorem subV_some {a b : Int} (h : subC a b = 0) : subV a b = a - b := by unfold subV; rw [if_pos h]
theorem subC_inv {a b : Int} (h : subC a b = 0) : isT a = true ∧ isT b = true ∧ b ≤ a := by
  unfold subC at h
  repeat (split at h <;> try omega)
  simp_all

/-- The code of a product. -/
def mulC (a b : Int) : Int := if isT a = true then (if isT b = true then (if isT (a * b) = true then 0 else 2) else 1) else 1
/-- The product, or nothing. -/
def mulV (a b : Int) : Int := if mulC a b = 0 then a * b else 0

theorem mulC_one {a b : Int} (h : isT a = false ∨ isT b = false) : mulC a b = 1 := by
  unfold mulC; rcases h with h | h <;> simp [h]
theorem mulC_two {a b : Int} (ha : isT a = true) (hb : isT b = true) (h : isT (a * b) = false) : mulC a b = 2 := by
  unfold mulC; simp [ha, hb, h]
theorem mulC_nought {a b : Int} (ha : isT a = true) (hb : isT b = true) (h : isT (a * b) = true) : mulC a b = 0 := by
  unfold mulC; simp [ha, hb, h]
theorem mulV_none {a b : Int} (h : mulC a b ≠ 0) : mulV a b = 0 := by unfold mulV; rw [if_neg h]
theorem mulV_some {a b : Int} (h : mulC a b = 0) : mulV a b = a * b := by unfold mulV; rw [if_pos h]
theorem mulC_inv {a b : Int} (h : mulC a b = 0) : isT a = true ∧ isT b = true ∧ isT (a * b) = true := by
  unfold mulC at h
  repeat (split at h <;> try omega)
  simp_all

/-- Is there a quotient? -/
def divB (a b : Int) : Bool := isT a && (isT b && !(b == 0))

theorem divB_iff {a b : Int} : divB a b = true ↔ isT a = true ∧ isT b = true ∧ b ≠ 0 := by
  unfold divB; simp

/-- The quotient, what is left, and the code. -/
def divQ (a b : Int) : Int := if divB a b = true then a / b else 0
def divR (a b : Int) : Int := if divB a b = true then a % b else 0
def divC (a b : Int) : Int := if divB a b = true then 0 else 1

/-- May a doubling be? -/
def dblB (base n most : Int) : Bool := isT base && (isT most && (decide (base ≤ most) && decide (0 ≤ n)))

theorem dblB_iff {base n most : Int} : dblB base n most = true ↔ isT base = true ∧ isT most = true ∧ base ≤ most ∧ 0 ≤ n := by
  unfold dblB; simp

/-- A number, doubled k times, and no more than another one. -/
def dbl (base : Int) (k : Nat) (most : Int) : Int := min (base * 2 ^ k) most

theorem pow_pos (k : Nat) : (0 : Int) < 2 ^ k := Int.pow_pos (by decide)

theorem dbl_succ (base : Int) (k : Nat) (most : Int) (h : 0 ≤ base) (hm : 0 ≤ most) : dbl base (k + 1) most = min (dbl base k most + dbl base k most) most := by
  unfold dbl
  have h2 := pow_pos k
  have h3 : 0 ≤ base * 2 ^ k := Int.mul_nonneg h (by omega)
  rw [Int.pow_succ, ← Int.mul_assoc]
  omega

theorem dbl_far (base : Int) (k : Nat) (most : Int) (h : 0 ≤ base) (hk : 41 ≤ k) (hb : base ≤ most) (hm : most ≤ 1099511627776) : dbl base k most = if base = 0 then 0 else most := by
  unfold dbl
  split
  · rename_i h0; subst h0; omega
  · have : (1099511627776 : Int) ≤ 2 ^ k := by
      have h4 : (2 : Int) ^ k = 2 ^ 40 * 2 ^ (k - 40) := by rw [← Int.pow_add]; congr 1; omega
      have h5 := pow_pos (k - 40)
      rw [h4]; omega
    have h6 : 1 * 2 ^ k ≤ base * 2 ^ k := Int.mul_le_mul_of_nonneg_right (by omega) (by omega)
    omega

theorem dbl_cap (base most n : Int) (h : 0 ≤ base) (hb : base ≤ most) (hm : most ≤ 1099511627776) : dbl base (min n.toNat 64) most = dbl base n.toNat most := by
  by_cases hn : n.toNat ≤ 64
  · rw [Nat.min_eq_left hn]
  · rw [dbl_far base n.toNat most h (by omega) hb hm, dbl_far base (min n.toNat 64) most h (by omega) hb hm]

theorem dbl_mono (base : Int) (k : Nat) (most : Int) (h : 0 ≤ base) (hb : base ≤ most) : base ≤ dbl base k most ∧ dbl base k most ≤ most := by
  unfold dbl
  have h2 := pow_pos k
  have h3 : base * 1 ≤ base * 2 ^ k := Int.mul_le_mul_of_nonneg_left (by omega) h
  omega

/-- A doubling, or nothing, and its code. -/
def dblV (base n most : Int) : Int := if dblB base n most = true then dbl base n.toNat most else 0
def dblC (base n most : Int) : Int := if dblB base n most = true then 0 else 1

/-- A number, held between two. -/
def hold (n low high : Int) : Int := if n < low ∨ high < low then low else if high < n then high else n

/-- The sum of all of a list, and its code. -/
def total : Int → List Int → Int × Int
  | s, [] => (s, 0)
  | s, x :: r => if addC s x = 0 then total (addV s x) r else (0, addC s x)

end Go.Proofs.Ytblmjacphhpekaa.Calc
