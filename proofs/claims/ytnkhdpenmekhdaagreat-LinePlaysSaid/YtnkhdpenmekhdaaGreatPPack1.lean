/-
Layer 14 (brk): a step.
Layer 1 (calc) in plain Lean: what each function answers, with no program in sight.
Layer 17 (runner) in plain Lean: which steps there may be, when each is due, what is told between two times.
Blocks that a call may write, and all others as they were: 'Out S w w''; a block known whole; copy into a block known whole.
Rows of three cells.
Rows of the call's own: kept by Below, appended to from whatever source.
Layer 14 (brk): ops in memory.
What came in: slices of strings, of structs of one-cell fields, out of their readings.
Slices of one-cell values: rows of texts, rows of bools; what a call's own row tells.
Rows of the call's own: kept outside what is written; their blocks, their shape.
Layer 17 (runner): a runner in memory; Done, Ends, Next, walked.
Layer 17 (runner): the ways of a step; small laws.
Layer 17 (runner): what Due and Next say, in plain Lean; rows of ops of the call.
Layer 1 (calc): the walks of Is, tick, Add.
Layer 17 (runner): isStep, over, Step, walked.
-/
import Derived.WalkKit
import Derived.Below
import Derived.Laws.CopyOwn
import Derived.Lib.Hide
import Derived.Deep.Draws
import Derived.IntWalk
import Derived.OwnWalk
import Derived.Laws.AppendOwnNone
import Derived.Laws.AppendOwn
import Derived.Test.YtnkhdpenmekhdaaGreatProg
import Derived.Laws.OwnMore
import Derived.SliceStrings
import Derived.Deep.Slices
import Derived.Deep.Fields
import Derived.ChangeSame
import Derived.WideShapes
import Derived.Deep.DeepCutAuto
import Derived.Deep.QuietTactic
import Derived.BigQuiet
import Derived.Maps.AppendAt
section
namespace Go.Proofs.YtnkhdpenmekhdaaGreat.Brk

structure Op where
  k : Int
  s : List UInt8
  n : Int
end Go.Proofs.YtnkhdpenmekhdaaGreat.Brk
end

section
namespace Go.Proofs.YtnkhdpenmekhdaaGreat.Calc
open Go.RowKit

/-- May a number be a tick? -/
def isT (n : Int) : Bool := decide (0 ≤ n) && decide (n ≤ 1099511627776)

theorem isT_iff {n : Int} : isT n = true ↔ 0 ≤ n ∧ n ≤ 1099511627776 := by
  unfold isT; simp

theorem isT_not {n : Int} : isT n = false ↔ n < 0 ∨ 1099511627776 < n := by
  rw [← Bool.not_eq_true, isT_iff]; omega

/-- The code of a sum. -/
def addC (a b : Int) : Int := if isT a = true then (if isT b = true then (if isT (a + b) = true then 0 else 2) else 1) else 1
/-- The sum, or nothing. -/
def addV (a b : Int) : Int := if addC a b = 0 then a + b else 0

/-- The code of a difference. -/
def subC (a b : Int) : Int := if isT a = true then (if isT b = true then (if b ≤ a then 0 else 2) else 1) else 1
/-- The difference, or nothing. -/
def subV (a b : Int) : Int := if subC a b = 0 then a - b else 0

theorem addC_one {a b : Int} (h : isT a = false ∨ isT b = false) : addC a b = 1 := by
  unfold addC; rcases h with h | h <;> simp [h]
theorem addC_two {a b : Int} (ha : isT a = true) (hb : isT b = true) (h : isT (a + b) = false) : addC a b = 2 := by
  unfold addC; simp [ha, hb, h]
theorem addC_nought {a b : Int} (ha : isT a = true) (hb : isT b = true) (h : isT (a + b) = true) : addC a b = 0 := by
  unfold addC; simp [ha, hb, h]
theorem addV_none {a b : Int} (h : addC a b ≠ 0) : addV a b = 0 := by unfold addV; rw [if_neg h]
theorem addV_some {a b : Int} (h : addC a b = 0) : addV a b = a + b := by unfold addV; rw [if_pos h]
theorem addC_inv {a b : Int} (h : addC a b = 0) : isT a = true ∧ isT b = true ∧ isT (a + b) = true := by
  unfold addC at h
  repeat (split at h <;> try omega)
  simp_all

theorem subC_one {a b : Int} (h : isT a = false ∨ isT b = false) : subC a b = 1 := by
  unfold subC; rcases h with h | h <;> simp [h]
theorem subC_two {a b : Int} (ha : isT a = true) (hb : isT b = true) (h : a < b) : subC a b = 2 := by
  unfold subC; simp [ha, hb, show ¬ b ≤ a by omega]
theorem subC_nought {a b : Int} (ha : isT a = true) (hb : isT b = true) (h : b ≤ a) : subC a b = 0 := by
  unfold subC; simp [ha, hb, h]
theorem subV_none {a b : Int} (h : subC a b ≠ 0) : subV a b = 0 := by unfold subV; rw [if_neg h]
theorem subV_some {a b : Int} (h : subC a b = 0) : subV a b = a - b := by unfold subV; rw [if_pos h]
theorem subC_inv {a b : Int} (h : subC a b = 0) : isT a = true ∧ isT b = true ∧ b ≤ a := by
  unfold subC at h
  repeat (split at h <;> try omega)
  simp_all

/-- The code of a product. -/
def mulC (a b : Int) : Int := if isT a = true then (if isT b = true then (if isT (a * b) = true then 0 else 2) else 1) else 1
/-- The product, or nothing. -/
def mulV (a b : Int) : Int := if mulC a b = 0 then a * b else 0

theorem mulC_one {a b : Int} (h : isT a = false ∨ isT b = false) : mulC a b = 1 := by
  unfold mulC; rcases h with h | h <;> simp [h]
theorem mulC_two {a b : Int} (ha : isT a = true) (hb : isT b = true) (h : isT (a * b) = false) : mulC a b = 2 := by
  unfold mulC; simp [ha, hb, h]
theorem mulC_nought {a b : Int} (ha : isT a = true) (hb : isT b = true) (h : isT (a * b) = true) : mulC a b = 0 := by
  unfold mulC; simp [ha, hb, h]
theorem mulV_none {a b : Int} (h : mulC a b ≠ 0) : mulV a b = 0 := by unfold mulV; rw [if_neg h]
theorem mulV_some {a b : Int} (h : mulC a b = 0) : mulV a b = a * b := by unfold mulV; rw [if_pos h]
theorem mulC_inv {a b : Int} (h : mulC a b = 0) : isT a = true ∧ isT b = true ∧ isT (a * b) = true := by
  unfold mulC at h
  repeat (split at h <;> try omega)
  simp_all

/-- Is there a quotient? -/
def divB (a b : Int) : Bool := isT a && (isT b && !(b == 0))

theorem divB_iff {a b : Int} : divB a b = true ↔ isT a = true ∧ isT b = true ∧ b ≠ 0 := by
  unfold divB; simp

/-- The quotient, what is left, and the code. -/
def divQ (a b : Int) : Int := if divB a b = true then a / b else 0
def divR (a b : Int) : Int := if divB a b = true then a % b else 0
def divC (a b : Int) : Int := if divB a b = true then 0 else 1

/-- May a doubling be? -/
def dblB (base n most : Int) : Bool := isT base && (isT most && (decide (base ≤ most) && decide (0 ≤ n)))

theorem dblB_iff {base n most : Int} : dblB base n most = true ↔ isT base = true ∧ isT most = true ∧ base ≤ most ∧ 0 ≤ n := by
  unfold dblB; simp

/-- A number, doubled k times, and no more than another one. -/
def dbl (base : Int) (k : Nat) (most : Int) : Int := min (base * 2 ^ k) most

theorem pow_pos (k : Nat) : (0 : Int) < 2 ^ k := Int.pow_pos (by decide)

theorem dbl_succ (base : Int) (k : Nat) (most : Int) (h : 0 ≤ base) (hm : 0 ≤ most) : dbl base (k + 1) most = min (dbl base k most + dbl base k most) most := by
  unfold dbl
  have h2 := pow_pos k
  have h3 : 0 ≤ base * 2 ^ k := Int.mul_nonneg h (by omega)
  rw [Int.pow_succ, ← Int.mul_assoc]
  omega

theorem dbl_far (base : Int) (k : Nat) (most : Int) (h : 0 ≤ base) (hk : 41 ≤ k) (hb : base ≤ most) (hm : most ≤ 1099511627776) : dbl base k most = if base = 0 then 0 else most := by
  unfold dbl
  split
  · rename_i h0; subst h0; omega
  · have : (1099511627776 : Int) ≤ 2 ^ k := by
      have h4 : (2 : Int) ^ k = 2 ^ 40 * 2 ^ (k - 40) := by rw [← Int.pow_add]; congr 1; omega
      have h5 := pow_pos (k - 40)
      rw [h4]; omega
    have h6 : 1 * 2 ^ k ≤ base * 2 ^ k := Int.mul_le_mul_of_nonneg_right (by omega) (by omega)
    omega

theorem dbl_cap (base most n : Int) (h : 0 ≤ base) (hb : base ≤ most) (hm : most ≤ 1099511627776) : dbl base (min n.toNat 64) most = dbl base n.toNat most := by
  by_cases hn : n.toNat ≤ 64
  · rw [Nat.min_eq_left hn]
  · rw [dbl_far base n.toNat most h (by omega) hb hm, dbl_far base (min n.toNat 64) most h (by omega) hb hm]

theorem dbl_mono (base : Int) (k : Nat) (most : Int) (h : 0 ≤ base) (hb : base ≤ most) : base ≤ dbl base k most ∧ dbl base k most ≤ most := by
  unfold dbl
  have h2 := pow_pos k
  have h3 : base * 1 ≤ base * 2 ^ k := Int.mul_le_mul_of_nonneg_left (by omega) h
  omega

/-- A doubling, or nothing, and its code. -/
def dblV (base n most : Int) : Int := if dblB base n most = true then dbl base n.toNat most else 0
def dblC (base n most : Int) : Int := if dblB base n most = true then 0 else 1

/-- A number, held between two. -/
def hold (n low high : Int) : Int := if n < low ∨ high < low then low else if high < n then high else n

/-- The sum of all of a list, and its code. -/
def total : Int → List Int → Int × Int
  | s, [] => (s, 0)
  | s, x :: r => if addC s x = 0 then total (addV s x) r else (0, addC s x)

end Go.Proofs.YtnkhdpenmekhdaaGreat.Calc
end

section
namespace Go.Proofs.YtnkhdpenmekhdaaGreat.Run
open Go.Proofs.YtnkhdpenmekhdaaGreat.Calc
abbrev Op := Go.Proofs.YtnkhdpenmekhdaaGreat.Brk.Op

/-- a step -/
def Is (x : Op) : Prop := (x.k = 1 ∧ x.s ≠ [] ∧ x.n = 0) ∨ (x.k = 2 ∧ x.s = [] ∧ 0 < x.n) ∨ (x.k = 3 ∧ x.s = [] ∧ x.n = 0)
instance (x : Op) : Decidable (Is x) := by unfold Is; infer_instance
theorem is_n {x : Op} (h : Is x) : 0 ≤ x.n := by rcases h with h | h | h <;> omega
theorem is_nought {x : Op} (h : Is x) (h2 : x.k ≠ 2) : x.n = 0 := by rcases h with h | h | h <;> omega
/-- the code of a step that is due then -/
def ovC (at_ : Int) (x : Op) : Int := if Is x then (if addC at_ x.n = 0 then 0 else 2) else 1
def ovV (at_ : Int) (x : Op) : Int := if ovC at_ x = 0 then at_ + x.n else 0
theorem ov_no {a : Int} {x : Op} (h : ¬ Is x) : ovC a x = 1 := by unfold ovC; rw [if_neg h]
theorem ov_far {a : Int} {x : Op} (h : Is x) (hc : addC a x.n ≠ 0) : ovC a x = 2 := by unfold ovC; rw [if_pos h, if_neg hc]
theorem ov_ok {a : Int} {x : Op} (h : Is x) (hc : addC a x.n = 0) : ovC a x = 0 := by unfold ovC; rw [if_pos h, if_pos hc]
theorem ov_inv {a : Int} {x : Op} (h : ovC a x = 0) : Is x ∧ addC a x.n = 0 := by
  unfold ovC at h
  split at h
  · split at h
    · exact ⟨by assumption, by assumption⟩
    · omega
  · omega
theorem ov_fit {a : Int} {x : Op} (ha : isT a = true) (h : Is x) : addC a x.n = 0 ↔ a + x.n ≤ 1099511627776 := by
  have hn := is_n h
  have h2 := isT_iff.1 ha
  constructor
  · intro hc
    exact (isT_iff.1 (addC_inv hc).2.2).2
  · intro hle
    exact addC_nought ha (isT_iff.2 (by omega)) (isT_iff.2 (by omega))
theorem ov_tick {a : Int} {x : Op} (h : ovC a x = 0) : isT (a + x.n) = true := (addC_inv (ov_inv h).2).2.2
theorem ov_range (a : Int) (x : Op) : ovC a x = 0 ∨ ovC a x = 1 ∨ ovC a x = 2 := by
  unfold ovC; split
  · split <;> omega
  · omega

/-- the code of steps, the first of which is due then -/
def go : Int → List Op → Int
  | _, [] => 0
  | a, x :: r => if ovC a x = 0 then go (a + x.n) r else ovC a x
def chk (now : Int) (l : List Op) : Int := if isT now = true then go now l else 1
theorem chk_out {now : Int} {l : List Op} (h : isT now = false) : chk now l = 1 := by unfold chk; rw [h]; rfl
theorem chk_in {now : Int} {l : List Op} (h : isT now = true) : chk now l = go now l := by unfold chk; rw [if_pos h]
theorem chk_inv {now : Int} {l : List Op} (h : chk now l = 0) : isT now = true ∧ go now l = 0 := by
  unfold chk at h
  split at h
  · exact ⟨by assumption, h⟩
  · omega
theorem go_ok {a : Int} {x : Op} {r : List Op} (h : ovC a x = 0) : go a (x :: r) = go (a + x.n) r := by rw [go, if_pos h]
theorem go_no {a : Int} {x : Op} {r : List Op} (h : ovC a x ≠ 0) : go a (x :: r) = ovC a x := by rw [go, if_neg h]
theorem go_inv {a : Int} {x : Op} {r : List Op} (h : go a (x :: r) = 0) : ovC a x = 0 ∧ go (a + x.n) r = 0 := by
  rw [go] at h
  split at h
  · exact ⟨by assumption, h⟩
  · contradiction
/-- when all is done -/
def ends : Int → List Op → Int
  | a, [] => a
  | a, x :: r => ends (a + x.n) r
/-- each step with the time when it is due -/
def tm : Int → List Op → List (Int × Op)
  | _, [] => []
  | a, x :: r => (a, x) :: tm (a + x.n) r
/-- the sends and breaks, each with the time when it is due -/
def dues : Int → List Op → List (Int × Op)
  | _, [] => []
  | a, x :: r => if x.k = 2 then dues (a + x.n) r else (a, x) :: dues (a + x.n) r
theorem dues_wait {a : Int} {x : Op} {r : List Op} (h : x.k = 2) : dues a (x :: r) = dues (a + x.n) r := by rw [dues, if_pos h]
theorem dues_one {a : Int} {x : Op} {r : List Op} (h : x.k ≠ 2) : dues a (x :: r) = (a, x) :: dues (a + x.n) r := by rw [dues, if_neg h]
theorem dues_len (a : Int) (l : List Op) : (dues a l).length ≤ l.length := by
  induction l generalizing a with
  | nil => exact Nat.le_refl _
  | cons x r ih =>
    by_cases h : x.k = 2
    · rw [dues_wait h]; have := ih (a + x.n); simp; omega
    · rw [dues_one h]; have := ih (a + x.n); simp; omega
theorem ends_ge {a : Int} {l : List Op} (h : go a l = 0) : a ≤ ends a l := by
  induction l generalizing a with
  | nil => exact Int.le_refl _
  | cons x r ih =>
    obtain ⟨h1, h2⟩ := go_inv h
    have := ih h2
    have := is_n (ov_inv h1).1
    rw [ends]; omega
theorem ends_tick {a : Int} {l : List Op} (ha : isT a = true) (h : go a l = 0) : isT (ends a l) = true := by
  induction l generalizing a with
  | nil => exact ha
  | cons x r ih =>
    obtain ⟨h1, h2⟩ := go_inv h
    rw [ends]
    exact ih (ov_tick h1) h2
theorem dues_range {a : Int} {l : List Op} (h : go a l = 0) : ∀ p ∈ dues a l, a ≤ p.1 ∧ p.1 ≤ ends a l := by
  induction l generalizing a with
  | nil => intro p hp; cases hp
  | cons x r ih =>
    obtain ⟨h1, h2⟩ := go_inv h
    have hn := is_n (ov_inv h1).1
    have he := ends_ge h2
    intro p hp
    rw [ends]
    by_cases hk : x.k = 2
    · rw [dues_wait hk] at hp
      have := ih h2 p hp; omega
    · rw [dues_one hk] at hp
      rcases List.mem_cons.1 hp with rfl | hp
      · have := ends_ge h2
        exact ⟨Int.le_refl _, by show a ≤ _; omega⟩
      · have := ih h2 p hp; omega
theorem dues_sorted {a : Int} {l : List Op} (h : go a l = 0) : (dues a l).Pairwise (fun p q => p.1 ≤ q.1) := by
  induction l generalizing a with
  | nil => exact .nil
  | cons x r ih =>
    obtain ⟨h1, h2⟩ := go_inv h
    have hn := is_n (ov_inv h1).1
    by_cases hk : x.k = 2
    · rw [dues_wait hk]; exact ih h2
    · rw [dues_one hk]
      refine .cons (fun p hp => ?_) (ih h2)
      have := dues_range h2 p hp
      show a ≤ p.1; omega
/-- what is left behind a time -/
def rest (D : List (Int × Op)) (was : Int) : List (Int × Op) := D.filter fun p => decide (was < p.1)
/-- what is told behind one time, and up to another one -/
def told (D : List (Int × Op)) (was tz : Int) : List Op := (D.filter fun p => decide (was < p.1) && decide (p.1 ≤ tz)).map (·.2)
theorem rest_all {D : List (Int × Op)} {was : Int} (h : ∀ p ∈ D, was < p.1) : rest D was = D := by
  unfold rest; rw [List.filter_eq_self]; intro p hp; simpa using h p hp
theorem rest_none {D : List (Int × Op)} {was : Int} (h : ∀ p ∈ D, p.1 ≤ was) : rest D was = [] := by
  unfold rest; rw [List.filter_eq_nil_iff]; intro p hp; have := h p hp; simp; omega
theorem told_none {D : List (Int × Op)} {was tz : Int} (h : ∀ p ∈ D, p.1 ≤ was) : told D was tz = [] := by
  unfold told; rw [List.map_eq_nil_iff, List.filter_eq_nil_iff]; intro p hp; have := h p hp; simp; omega
theorem told_back {D : List (Int × Op)} {was tz : Int} (h : tz ≤ was) : told D was tz = [] := by
  unfold told; rw [List.map_eq_nil_iff, List.filter_eq_nil_iff]; intro p hp; simp; omega
theorem told_all {D : List (Int × Op)} {was tz : Int} (h : ∀ p ∈ D, was < p.1 ∧ p.1 ≤ tz) : told D was tz = D.map (·.2) := by
  unfold told; congr 1; rw [List.filter_eq_self]; intro p hp; simpa using h p hp
theorem told_len (D : List (Int × Op)) (was tz : Int) : (told D was tz).length ≤ D.length := by
  unfold told; rw [List.length_map]; exact List.length_filter_le _ _
/-- what is left stands in order: what is due is at its head -/
theorem take_told {D : List (Int × Op)} {was tz : Int} (h : D.Pairwise (fun p q => p.1 ≤ q.1)) : ((rest D was).takeWhile fun p => decide (p.1 ≤ tz)).map (·.2) = told D was tz := by
  unfold rest told
  congr 1
  induction D with
  | nil => rfl
  | cons p r ih =>
    have hr := (List.pairwise_cons.1 h).2
    have hp := (List.pairwise_cons.1 h).1
    by_cases h1 : was < p.1
    · by_cases h2 : p.1 ≤ tz
      · rw [List.filter_cons, List.filter_cons]; simp only [h1, h2, decide_true, Bool.and_self, if_true, List.takeWhile_cons]; rw [ih hr]
      · rw [List.filter_cons, List.filter_cons]; simp only [h1, h2, decide_true, decide_false, Bool.and_false, if_true, List.takeWhile_cons]
        have : ∀ q ∈ r, ¬ q.1 ≤ tz := fun q hq => by have := hp q hq; omega
        symm
        simp only [Bool.false_eq_true, if_false]
        rw [List.filter_eq_nil_iff]; intro q hq; have := this q hq; simp; omega
    · rw [List.filter_cons, List.filter_cons]; simp only [h1, decide_false, Bool.false_and, Bool.false_eq_true, if_false]; exact ih hr
theorem drop_rest {D : List (Int × Op)} {was tz : Int} (hwt : was ≤ tz) (h : D.Pairwise (fun p q => p.1 ≤ q.1)) : (rest D was).dropWhile (fun p => decide (p.1 ≤ tz)) = rest D tz := by
  unfold rest
  induction D with
  | nil => rfl
  | cons p r ih =>
    have hr := (List.pairwise_cons.1 h).2
    have hp := (List.pairwise_cons.1 h).1
    by_cases h1 : was < p.1
    · by_cases h2 : p.1 ≤ tz
      · rw [List.filter_cons, List.filter_cons, if_pos (by simpa using h1), if_neg (by simp; omega), List.dropWhile_cons, if_pos (by simpa using h2)]; exact ih hr
      · rw [List.filter_cons, List.filter_cons, if_pos (by simpa using h1), if_pos (by simp; omega), List.dropWhile_cons, if_neg (by simpa using h2)]
        congr 1
        rw [List.filter_congr]; intro q hq; have := hp q hq; simp; omega
    · rw [List.filter_cons, List.filter_cons, if_neg (by simpa using h1), if_neg (by simp; omega)]; exact ih hr
/-- told in two pieces, told at once -/
theorem told_two {D : List (Int × Op)} {a b c : Int} (hab : a ≤ b) (hbc : b ≤ c) (h : D.Pairwise (fun p q => p.1 ≤ q.1)) : told D a b ++ told D b c = told D a c := by
  unfold told
  rw [← List.map_append]
  congr 1
  induction D with
  | nil => rfl
  | cons p r ih =>
    have hr := (List.pairwise_cons.1 h).2
    have hp := (List.pairwise_cons.1 h).1
    by_cases h1 : a < p.1
    · by_cases h2 : p.1 ≤ b
      · rw [List.filter_cons, List.filter_cons, List.filter_cons, if_pos (by simp; omega), if_neg (by simp; omega), if_pos (by simp; omega), List.cons_append, ih hr]
      · have e : (p :: r).filter (fun q => decide (a < q.1) && decide (q.1 ≤ b)) = [] := by
          rw [List.filter_eq_nil_iff]; intro q hq
          rcases List.mem_cons.1 hq with rfl | hq
          · simp; omega
          · have := hp q hq; simp; omega
        rw [e, List.nil_append, List.filter_congr]
        intro q hq
        rcases List.mem_cons.1 hq with rfl | hq
        · have e1 : decide (a < q.1) = true := by simpa using h1
          have e2 : decide (b < q.1) = true := by simp; omega
          rw [e1, e2]
        · have := hp q hq
          have e1 : decide (a < q.1) = true := by simp; omega
          have e2 : decide (b < q.1) = true := by simp; omega
          rw [e1, e2]
    · rw [List.filter_cons, List.filter_cons, List.filter_cons, if_neg (by simp; omega), if_neg (by simp; omega), if_neg (by simp; omega), ih hr]
theorem dues_steps {a : Int} {l : List Op} : (dues a l).map (·.2) = l.filter fun x => decide (x.k ≠ 2) := by
  induction l generalizing a with
  | nil => rfl
  | cons x r ih =>
    by_cases hk : x.k = 2
    · rw [dues_wait hk, List.filter_cons, if_neg (by simpa using hk)]; exact ih
    · rw [dues_one hk, List.filter_cons, if_pos (by simpa using hk), List.map_cons, ih]
/-- when there is something to do next, behind a time -/
def nxV (D : List (Int × Op)) (E was : Int) : Int := if was < E then (match rest D was with | [] => E | p :: _ => p.1) else 0
theorem nx_done {D : List (Int × Op)} {E was : Int} (h : E ≤ was) : nxV D E was = 0 := by unfold nxV; rw [if_neg (by omega)]
theorem nx_none {D : List (Int × Op)} {E was : Int} (h : was < E) (hr : rest D was = []) : nxV D E was = E := by unfold nxV; rw [if_pos h, hr]
theorem nx_some {D r : List (Int × Op)} {p : Int × Op} {E was : Int} (h : was < E) (hr : rest D was = p :: r) : nxV D E was = p.1 := by unfold nxV; rw [if_pos h, hr]
end Go.Proofs.YtnkhdpenmekhdaaGreat.Run
end

section
namespace Go.Proofs.YtnkhdpenmekhdaaGreat.Own
open Go.RowKit

/-- all blocks that were there, but those of S, are as they were -/
structure Out (S : Nat → Prop) (w w' : World) : Prop where
  os : w'.os = w.os
  tape : w'.tape = w.tape
  output : w'.output = w.output
  size : w.heap.size ≤ w'.heap.size
  block : ∀ k, k < w.heap.size → ¬ S k → w'.heap[k]? = w.heap[k]?

theorem Out.refl (S : Nat → Prop) (w : World) : Out S w w := ⟨rfl, rfl, rfl, Nat.le_refl _, fun _ _ _ => rfl⟩
theorem Out.trans {S S' : Nat → Prop} {a b c : World} (h : Out S a b) (k : Out S' b c) (hs : ∀ i, i < a.heap.size → S' i → S i) : Out S a c :=
  ⟨k.os.trans h.os, k.tape.trans h.tape, k.output.trans h.output, Nat.le_trans h.size k.size, fun i hi hn =>
    (k.block i (Nat.lt_of_lt_of_le hi h.size) fun h' => hn (hs i hi h')).trans (h.block i hi hn)⟩
theorem Out.mono {S S' : Nat → Prop} {a b : World} (h : Out S a b) (hs : ∀ i, i < a.heap.size → S i → S' i) : Out S' a b := (Out.refl S' a).trans h hs
theorem Out.drew {S : Nat → Prop} {a w : World} (h : Out S a w) : Out S a w.drew := ⟨h.os, h.tape, h.output, h.size, h.block⟩
theorem Out.drewN {S : Nat → Prop} {a w : World} (h : Out S a w) (n : Nat) : Out S a (w.drewN n) := ⟨h.os, h.tape, h.output, h.size, h.block⟩
theorem Out.ofDrew {S : Nat → Prop} {a w : World} (h : Out S a.drew w) : Out S a w := ⟨h.os, h.tape, h.output, h.size, h.block⟩
theorem Out.ofDrewN {S : Nat → Prop} {a w : World} {n : Nat} (h : Out S (a.drewN n) w) : Out S a w := ⟨h.os, h.tape, h.output, h.size, h.block⟩
theorem Out.alloc {S : Nat → Prop} {a w : World} (h : Out S a w) (o : Obj) : Out S a (w.alloc o) :=
  h.trans (S' := fun _ => False) ⟨rfl, rfl, rfl, by simp, fun k hk _ => Below.heap_alloc _ _ _ hk⟩ (fun _ _ h => h.elim)
theorem Out.setCell {S : Nat → Prop} {a w : World} (h : Out S a w) {p : Addr} (hp : p.block < a.heap.size → S p.block) (u : Value) : Out S a (w.setCell p u) :=
  h.trans (S' := fun k => k = p.block) ⟨rfl, rfl, rfl, by simp [World.setCell], fun k _ hk => Below.heap_setCell _ _ _ _ hk⟩ (fun i hi e => by subst e; exact hp hi)
theorem Out.setRow {S : Nat → Prop} {a w : World} (h : Out S a w) {g : Nat} (hp : g < a.heap.size → S g) (cs : Array Value) : Out S a (w.setRow g cs) :=
  h.trans (S' := fun k => k = g) ⟨rfl, rfl, rfl, by simp [World.setRow], fun k _ hk => setRow_other w g k cs hk⟩ (fun i hi e => by subst e; exact hp hi)
theorem Out.ofBelow {S : Nat → Prop} {B : Nat} {a b : World} (h : Below B a b) (hs : ∀ i, i < a.heap.size → ¬ S i → i < B) : Out S a b :=
  ⟨h.os, h.tape, h.output, h.size, fun k hk hn => h.block k (hs k hk hn)⟩
theorem Out.ofNew {S : Nat → Prop} {a b : World} (h : Below a.heap.size a b) : Out S a b := Out.ofBelow h fun _ h _ => h
theorem Out.below {S : Nat → Prop} {B : Nat} {a b : World} (h : Out S a b) (hB : B ≤ a.heap.size) (hs : ∀ i, S i → B ≤ i) : Below B a b :=
  ⟨h.os, h.tape, h.output, h.size, fun k hk => h.block k (by omega) fun h' => by have := hs k h'; omega⟩
theorem Out.cell {S : Nat → Prop} {a b : World} (h : Out S a b) {p : Addr} (hp : p.block < a.heap.size) (hn : ¬ S p.block) : b.cell? p = a.cell? p := World.cell?_of_block (h.block _ hp hn)
theorem Out.frozen {S : Nat → Prop} {a b : World} (h : Out S a b) {p : Addr} (hp : p.block < a.heap.size) (hn : ¬ S p.block) : b.frozen? p = a.frozen? p := World.frozen?_of_block (h.block _ hp hn)
theorem Out.at_ {S : Nat → Prop} {a b : World} (h : Out S a b) {k : Nat} {o : Obj} (hk : a.heap[k]? = some o) (hn : ¬ S k) : b.heap[k]? = some o :=
  (h.block k (Array.getElem?_eq_some_iff.1 hk).1 hn).trans hk

section
variable {w : World} {b : Nat} {c : Array Value} {t : TypeId} {fr : Nat × Nat}
theorem at_lt {o : Obj} (h : w.heap[b]? = some o) : b < w.heap.size := (Array.getElem?_eq_some_iff.1 h).1
theorem at_cell (h : w.heap[b]? = some (.cells c t fr)) (o : Nat) : w.cell? ⟨b, o, none⟩ = c[o]? := by simp [World.cell?, h]
theorem at_frozen (h : w.heap[b]? = some (.cells c t (0, 0))) (o : Nat) : w.frozen? ⟨b, o, none⟩ = false := by simp [World.frozen?, h]
theorem at_set (h : w.heap[b]? = some (.cells c t fr)) (i : Nat) (v : Value) : (w.setCell ⟨b, i, none⟩ v).heap[b]? = some (.cells (c.setIfInBounds i v) t fr) := by
  have hlt := at_lt h
  have h' : w.heap[b] = .cells c t fr := by simpa [Array.getElem?_eq_getElem hlt] using h
  show (w.heap.modify b _)[b]? = _
  rw [Array.getElem?_eq_getElem (by simpa using hlt), Array.getElem_modify_self, h']
  rfl
theorem at_set_other (w : World) {k : Nat} (hk : k ≠ b) (i : Nat) (v : Value) : (w.setCell ⟨b, i, none⟩ v).heap[k]? = w.heap[k]? := Below.heap_setCell _ _ _ _ hk
theorem at_new (w : World) (o : Obj) : (w.alloc o).heap[w.heap.size]? = some o := heap_alloc_new w o
theorem at_newk (w : World) (o : Obj) {k : Nat} (h : k = w.heap.size) : (w.alloc o).heap[k]? = some o := by subst h; exact heap_alloc_new w o
theorem at_old (w : World) (o : Obj) {k : Nat} {x : Obj} (h : w.heap[k]? = some x) : (w.alloc o).heap[k]? = some x := (Below.heap_alloc w o k (at_lt h)).trans h
end

/-- bytes as cells -/
def bv (l : List UInt8) : List Value := l.map fun c => .int .u8 c.toNat
theorem bv_len (l : List UInt8) : (bv l).length = l.length := by simp [bv]
theorem bv_get (l : List UInt8) (i : Nat) : (bv l)[i]? = l[i]?.map fun c => Value.int .u8 (c.toNat : Int) := by simp [bv]
theorem bv_one (l : List UInt8) : ∀ v ∈ bv l, v.oneCell' = true := by
  intro v hv; simp only [bv, List.mem_map] at hv; obtain ⟨c, -, rfl⟩ := hv; rfl
theorem bv_app (l m : List UInt8) : bv (l ++ m) = bv l ++ bv m := by simp [bv]
theorem bv_take (l : List UInt8) (n : Nat) : (bv l).take n = bv (l.take n) := by simp [bv]
theorem bv_drop (l : List UInt8) (n : Nat) : (bv l).drop n = bv (l.drop n) := by simp [bv]
theorem bv_splice (l m : List UInt8) (n : Nat) : splice (bv l) n (bv m) = bv (splice l n m) := by simp [splice, bv]

section
variable {P : Program}
theorem run_copy_string (w : World) (dT sT ty elem : TypeId) (g o dLen dCap : Nat) (s : ByteArray) (cur : Array Value) (t : TypeId) (k : Nat)
    (hu : P.underlying dT = some (.slice elem)) (hs : (P.info? elem).map (·.size) = some 1)
    (hg : w.heap[g]? = some (.cells cur t (0, 0))) (hk : k = Nat.min s.size dLen) (hfit : o + k ≤ cur.size) :
    (Builtin.copy_ #[dT, sT] ty #[.slice (some ⟨g, o, none⟩) dLen dCap, .string s]).run P w =
      .ok (goInt k) (w.setRow g (cur.toList.take o ++ bv (s.data.toList.take k) ++ cur.toList.drop (o + k)).toArray) := by
  have hl : (bv (s.data.toList.take k)).length = k := by
    rw [bv_len, List.length_take]; show min k s.data.size = k; have : s.data.size = s.size := rfl
    rw [hk]; have := Nat.min_le_left s.size dLen; change Nat.min s.size dLen ≤ _ at this; omega
  have hst := run_storeCells_at P g o t (bv (s.data.toList.take k)) 0 cur w hg (by rw [hl]; simpa using hfit) (bv_one _)
  rw [hl] at hst
  cases hq : P.info? elem with
  | none => simp [hq] at hs
  | some i =>
    simp [Builtin.copy_, run_underlying hu, Builtin.lenOf, Builtin.firstCells, sizeOf, typeInfo, hq]
    rw [← hk, show List.take k (List.map (fun b : UInt8 => Value.int .u8 (b.toNat : Int)) s.data.toList) = bv (s.data.toList.take k) by simp [bv], hst]
    simp

theorem run_copy_string_none (w : World) (dT sT ty elem : TypeId) (d : Option Addr) (dLen dCap : Nat) (s : ByteArray)
    (hu : P.underlying dT = some (.slice elem)) (hs : (P.info? elem).map (·.size) = some 1) (hn : Nat.min s.size dLen = 0) :
    (Builtin.copy_ #[dT, sT] ty #[.slice d dLen dCap, .string s]).run P w = .ok (goInt 0) w := by
  cases hq : P.info? elem with
  | none => simp [hq] at hs
  | some i =>
    have hn' : min s.size dLen = 0 := hn
    cases d <;> simp [Builtin.copy_, run_underlying hu, Builtin.lenOf, Builtin.firstCells, sizeOf, typeInfo, hq, hn', storeCells]

variable {ops : Array Oper} {o : Oper} {a : Act} {w : World} {K : Act → World → Prop} {Q : Exit → Act → World → Prop} {E : Prop}

/-- copy(dst, src) of two slices of bytes, as a step of a region that draws its order -/
theorem step_copy_out (hgd : o.guard = none) (d s : Operand) (dT sT : TypeId)
    (ho : o.op = .call { callee := .builtin .copy, args := #[d, s], argTypes := #[dT, sT] }) (elem : TypeId) (hu : P.underlying dT = some (.slice elem)) (hsz : (P.info? elem).map (·.size) = some 1)
    (dp sp : Option Addr) (dLen dCap sLen sCap : Nat) (hd : a.eval d = .slice dp dLen dCap) (hs : a.eval s = .slice sp sLen sCap)
    (g off : Nat) (cur : List Value) (t : TypeId) (hg : w.heap[g]? = some (.cells cur.toArray t (0, 0))) (cs : List Value) (n : Nat) (hn : cs.length = n) (hm : n = min sLen dLen)
    (hpos : 0 < n → dp = some ⟨g, off, none⟩ ∧ ∃ ad, sp = some ad ∧ ∀ j v, cs[j]? = some v → w.cell? (ad.add j) = some v)
    (hfit : off + n ≤ cur.length) (h1 : ∀ v ∈ cs, v.oneCell' = true)
    (h : ∀ w', Hid (w'.heap[g]? = some (.cells (splice cur off cs).toArray t (0, 0))) → Out (fun k => k = g) w w' → K (a.put o.dst (.int .i64 n)) w') :
    if Region.wanted o (yielded ops a.tmps) = true then Oper.wp P o a w K Q else E := by
  have hw : Region.wanted o (yielded ops a.tmps) = true := by simp [Region.wanted, hgd]
  rw [if_pos hw]
  subst hn
  by_cases h0 : cs.length = 0
  · obtain rfl : cs = [] := List.eq_nil_of_length_eq_zero h0
    have hrun := run_copy_none (P := P) w dT sT o.type elem dp sp dLen dCap sLen sCap hu hsz (show Nat.min sLen dLen = 0 by simpa using hm.symm)
    unfold Oper.wp
    simp [execOp, ho, resolve, invoke, builtin, hd, hs, hrun, Result.andThen]
    exact h w (show _ = _ by simpa [splice] using hg) (Out.refl _ _)
  · obtain ⟨rfl, ad, rfl, hsrc⟩ := hpos (by omega)
    have hrun := run_copy_row (P := P) w dT sT o.type elem g off dLen dCap ad sLen sCap cur.toArray t cs hu hsz hg (show cs.length = Nat.min sLen dLen from hm) hsrc (by simpa using hfit) h1
    unfold Oper.wp
    simp [execOp, ho, resolve, invoke, builtin, hd, hs, hrun, Result.andThen]
    exact h _ (show _ = _ by simpa [splice] using setRow_heap w g _ _ t _ hg) ((Out.refl (fun k => k = g) _).setRow (fun _ => rfl) _)

/-- copy(dst, src), src a text -/
theorem step_copy_text (hgd : o.guard = none) (d s : Operand) (dT sT : TypeId)
    (ho : o.op = .call { callee := .builtin .copy, args := #[d, s], argTypes := #[dT, sT] }) (elem : TypeId) (hu : P.underlying dT = some (.slice elem)) (hsz : (P.info? elem).map (·.size) = some 1)
    (dp : Option Addr) (dLen dCap : Nat) (bs : ByteArray) (hd : a.eval d = .slice dp dLen dCap) (hs : a.eval s = .string bs)
    (g off : Nat) (cur : List Value) (t : TypeId) (hg : w.heap[g]? = some (.cells cur.toArray t (0, 0))) (n : Nat) (hm : n = min bs.size dLen)
    (hpos : 0 < n → dp = some ⟨g, off, none⟩) (hfit : off + n ≤ cur.length)
    (h : ∀ w', Hid (w'.heap[g]? = some (.cells (splice cur off (bv (bs.data.toList.take n))).toArray t (0, 0))) → Out (fun k => k = g) w w' → K (a.put o.dst (.int .i64 n)) w') :
    if Region.wanted o (yielded ops a.tmps) = true then Oper.wp P o a w K Q else E := by
  have hw : Region.wanted o (yielded ops a.tmps) = true := by simp [Region.wanted, hgd]
  rw [if_pos hw]
  have hl : (bv (bs.data.toList.take n)).length = n := by
    rw [bv_len, List.length_take]; show min n bs.data.size = n; have : bs.data.size = bs.size := rfl
    omega
  by_cases h0 : n = 0
  · subst h0
    have hrun := run_copy_string_none (P := P) w dT sT o.type elem dp dLen dCap bs hu hsz hm.symm
    unfold Oper.wp
    simp [execOp, ho, resolve, invoke, builtin, hd, hs, hrun, Result.andThen]
    exact h w (show _ = _ by simpa [splice, bv] using hg) (Out.refl _ _)
  · obtain rfl := hpos (by omega)
    have hrun := run_copy_string (P := P) w dT sT o.type elem g off dLen dCap bs cur.toArray t n hu hsz hg hm (by simpa using hfit)
    unfold Oper.wp
    simp [execOp, ho, resolve, invoke, builtin, hd, hs, hrun, Result.andThen]
    refine h _ (show _ = _ from ?_) ((Out.refl (fun k => k = g) _).setRow (fun _ => rfl) _)
    have := setRow_heap w g cur.toArray (cur.take off ++ bv (bs.data.toList.take n) ++ cur.drop (off + n)).toArray t _ hg
    rw [splice, hl]
    simpa using this
end
end Go.Proofs.YtnkhdpenmekhdaaGreat.Own
end

section
namespace Go.Proofs.YtnkhdpenmekhdaaGreat.Brk
open Go.RowKit Go.Proofs.YtnkhdpenmekhdaaGreat.Own

theorem row3 {w : World} {b : Nat} {x y z : Value} {T : TypeId} {fr : Nat × Nat} (h : w.heap[b]? = some (.cells #[x, y, z] T fr)) :
    w.cell? ⟨b, 0, none⟩ = some x ∧ w.cell? ⟨b, 1, none⟩ = some y ∧ w.cell? ⟨b, 2, none⟩ = some z := ⟨at_cell h 0, at_cell h 1, at_cell h 2⟩
theorem frz3 {w : World} {b : Nat} {c : Array Value} {T : TypeId} (h : w.heap[b]? = some (.cells c T (0, 0))) :
    w.frozen? ⟨b, 0, none⟩ = false ∧ w.frozen? ⟨b, 1, none⟩ = false ∧ w.frozen? ⟨b, 2, none⟩ = false := ⟨at_frozen h 0, at_frozen h 1, at_frozen h 2⟩
theorem below_drew {B : Nat} {w w' : World} {m : Nat} (h : Below B w w') : Below B w (w'.drewN m) := ⟨h.os, h.tape, h.output, h.size, h.block⟩
end Go.Proofs.YtnkhdpenmekhdaaGreat.Brk
end

section
namespace Go.Proofs.YtnkhdpenmekhdaaGreat.Own
open Go.RowKit

theorem own_below {w w' : World} {B e size n : Nat} {v : Value} {xs : List Value} (h : w.ownsRow B e size v n xs) (hb : Below w.heap.size w w') : w'.ownsRow B e size v n xs := by
  refine ⟨h.1, ?_⟩
  rcases h.2 with h0 | ⟨g, cap, cur, hv, hg, hh, r⟩
  · exact .inl h0
  · exact .inr ⟨g, cap, cur, hv, hg, (hb.block g (at_lt hh)).trans hh, r⟩
theorem own_set {w : World} {B e size n : Nat} {v : Value} {xs : List Value} (h : w.ownsRow B e size v n xs) {k : Nat} (hk : k < B) (i : Nat) (x : Value) : (w.setCell ⟨k, i, none⟩ x).ownsRow B e size v n xs := by
  obtain ⟨h1, h2⟩ := h
  refine ⟨h1, ?_⟩
  rcases h2 with h2 | ⟨g, cap, cur, hv, hg, hh, r⟩
  · exact .inl h2
  · exact .inr ⟨g, cap, cur, hv, hg, by rw [at_set_other _ (by omega)]; exact hh, r⟩
theorem add0 (g n : Nat) : (⟨g, 0, none⟩ : Addr).add n = ⟨g, n, none⟩ := by cases n <;> simp [Addr.add]
/-- append onto an array of the call's own, whatever is appended -/
theorem append_any {P : Program} {w : World} {ops : Array Oper} {rest : List Oper} {o : Oper} {a : Act} {Q : Exit → Act → World → Prop} (hgd : o.guard = none) (s x : Operand) (t : TypeId)
    (ho : o.op = .call { callee := .builtin .append, args := #[s, x], argTypes := #[t, t] })
    (base : Nat) (e : TypeId) (i : TypeInfo) (z : Value) (size bytes : Nat) (ht : P.underlying t = some (.slice e)) (hi : P.info? e = some i) (hz : i.zero = some z)
    (hsize : i.size = size) (hby : i.bytes = bytes) (hzs : z.cells.size = size) (hsz : 0 < size)
    (v : Value) (n : Nat) (xs : List Value) (hs : a.eval s = v) (hown : w.ownsRow base e size v n xs)
    (ao : Option Addr) (m c : Nat) (news : List Value) (hx : a.eval x = .slice ao m c) (hnone : ao = none → m = 0 ∧ c = 0) (hl : news.length = m * size)
    (hnews : ∀ ad, ao = some ad → ∀ j u, news[j]? = some u → w.cell? (ad.add j) = some u) (h1 : ∀ u ∈ news, u.oneCell' = true)
    (h63 : n + m ≤ maxLen) (hbytes : (n + m) * bytes ≤ 140737488355328) (hbase : base ≤ w.heap.size)
    (h : ∀ v' w', w'.ownsRow base e size v' (n + m) (xs ++ news) → w.grownBy w' v.ownBlock → wpList P ops Q rest (a.put o.dst v') w') : wpList P ops Q (o :: rest) a w := by
  cases ao with
  | some ad => exact wpList_append_own w hgd s x t ho base e i z size bytes ht hi hz hsize hby hzs hsz v n xs hs hown ad m c news hx hl (hnews ad rfl) h1 h63 hbytes hbase fun v' w' a b _ => h v' w' a b
  | none =>
    obtain ⟨rfl, rfl⟩ := hnone rfl
    obtain rfl : news = [] := List.eq_nil_of_length_eq_zero (by simpa using hl)
    exact wpList_append_own_none hgd s x t ho base e i size ht hi v n xs hs hown hx (h v w (by simpa using hown) (World.grownBy.refl _ _))
theorem three_new (w : World) (x y z : Value) (T : TypeId) (g : Nat) (hg : g = w.heap.size) : ∀ ad, some (⟨g, 0, none⟩ : Addr) = some ad → ∀ j u, [x, y, z][j]? = some u → (w.alloc (.cells #[x, y, z] T (0, 0))).cell? (ad.add j) = some u := by
  subst hg
  rintro ad ⟨⟩ j u hu
  rw [add0, at_cell (at_new w _)]
  simpa using hu
end Go.Proofs.YtnkhdpenmekhdaaGreat.Own
end

section
namespace Go.Proofs.YtnkhdpenmekhdaaGreat.Brk
open Go.RowKit Go.Proofs.YtnkhdpenmekhdaaGreat.Own

def ov1 (x : Op) : List Value := [.int .i64 x.k, .string ⟨x.s.toArray⟩, .int .i64 x.n]
def ov (L : List Op) : List Value := L.flatMap ov1
theorem ov_len (L : List Op) : (ov L).length = L.length * 3 := by
  induction L with
  | nil => rfl
  | cons x r ih =>
    have : ov (x :: r) = ov1 x ++ ov r := rfl
    rw [this, List.length_append, ih]
    simp [ov1]; omega
theorem ov_app (L M : List Op) : ov (L ++ M) = ov L ++ ov M := by simp [ov]
theorem ov_one (x : Op) : ov [x] = ov1 x := by simp [ov]
theorem ov_get {L : List Op} {i : Nat} (h : i < L.length) (j : Nat) (hj : j < 3) : (ov L)[i * 3 + j]? = (ov1 L[i])[j]? := by
  induction L generalizing i with
  | nil => simp at h
  | cons x r ih =>
    have e : ov (x :: r) = ov1 x ++ ov r := rfl
    have l3 : (ov1 x).length = 3 := rfl
    rw [e]
    cases i with
    | zero => rw [List.getElem?_append_left (by omega)]; simp
    | succ i =>
      rw [List.getElem?_append_right (by omega), show (i + 1) * 3 + j - (ov1 x).length = i * 3 + j by omega]
      exact ih (by simpa using h)
theorem ov_last (L : List Op) (y : Op) : (ov (L ++ [y]))[L.length * 3]? = some (.int .i64 y.k) ∧ (ov (L ++ [y]))[L.length * 3 + 1]? = some (.string ⟨y.s.toArray⟩) ∧ (ov (L ++ [y]))[L.length * 3 + 2]? = some (.int .i64 y.n) := by
  have h : L.length < (L ++ [y]).length := by simp
  have e : (L ++ [y])[L.length] = y := by simp
  have h0 := ov_get h 0 (by omega)
  have h1 := ov_get h 1 (by omega)
  have h2 := ov_get h 2 (by omega)
  rw [e] at h0 h1 h2
  exact ⟨h0, h1, h2⟩
theorem ov_set1 (L : List Op) (y : Op) (s : List UInt8) : (ov (L ++ [y])).set (L.length * 3 + 1) (.string ⟨s.toArray⟩) = ov (L ++ [⟨y.k, s, y.n⟩]) := by
  rw [ov_app, ov_app, ov_one, ov_one, List.set_append_right _ _ (by rw [ov_len]; omega), ov_len, show L.length * 3 + 1 - L.length * 3 = 1 by omega]
  rfl
theorem ov_set2 (L : List Op) (y : Op) (n : Int) : (ov (L ++ [y])).set (L.length * 3 + 2) (.int .i64 n) = ov (L ++ [⟨y.k, y.s, n⟩]) := by
  rw [ov_app, ov_app, ov_one, ov_one, List.set_append_right _ _ (by rw [ov_len]; omega), ov_len, show L.length * 3 + 2 - L.length * 3 = 2 by omega]
  rfl
theorem ov_set0 (L : List Op) (y : Op) (k : Int) : (ov (L ++ [y])).set (L.length * 3) (.int .i64 k) = ov (L ++ [⟨k, y.s, y.n⟩]) := by
  rw [ov_app, ov_app, ov_one, ov_one, List.set_append_right _ _ (by rw [ov_len]; omega), ov_len, show L.length * 3 - L.length * 3 = 0 by omega]
  rfl
theorem info_op : (Tryz.prog.info? 58).map (fun i => (i.zero, i.size, i.bytes)) = some (some (.agg #[.int .i64 0, .string ⟨#[]⟩, .int .i64 0]), 3, 32) := by kernel_rfl

/-- ops in an array of the call's own -/
abbrev Mine (w : World) (B : Nat) (v : Value) (L : List Op) : Prop := w.ownsRow B 58 3 v L.length (ov L)
theorem mine_form {w : World} {B : Nat} {v : Value} {L : List Op} (h : Mine w B v L) : ∃ p c, v = .slice p L.length c ∧ L.length ≤ c ∧ c ≤ maxLen := by
  rcases h.2 with ⟨rfl, h0⟩ | ⟨g, cap, cur, rfl, _, hh, h3, h4, _⟩
  · exact ⟨none, 0, by rw [h0], by omega, by unfold maxLen; omega⟩
  · exact ⟨_, cap, rfl, h3, h4⟩
theorem mine_last {w : World} {B : Nat} {v : Value} {L : List Op} {y : Op} (h : Mine w B v (L ++ [y])) :
    ∃ g c, v = .slice (some ⟨g, 0, none⟩) (L.length + 1) c ∧ B ≤ g ∧ g < w.heap.size ∧ L.length + 1 ≤ c ∧ c ≤ maxLen ∧
      w.cell? ⟨g, L.length * 3, none⟩ = some (.int .i64 y.k) ∧ w.cell? ⟨g, L.length * 3 + 1, none⟩ = some (.string ⟨y.s.toArray⟩) ∧ w.cell? ⟨g, L.length * 3 + 2, none⟩ = some (.int .i64 y.n) ∧
      w.frozen? ⟨g, L.length * 3, none⟩ = false ∧ w.frozen? ⟨g, L.length * 3 + 1, none⟩ = false ∧ w.frozen? ⟨g, L.length * 3 + 2, none⟩ = false := by
  have hl : (L ++ [y]).length = L.length + 1 := by simp
  obtain ⟨c0, c1, c2⟩ := ov_last L y
  have hc := @World.ownsRow.cells _ _ _ _ _ _ _ h
  rcases h.2 with ⟨rfl, h0⟩ | ⟨g, cap, cur, rfl, hB, hh, h3, h4, _⟩
  · rw [hl] at h0; omega
  · rw [hl] at h3
    have a0 := hc (g := g) rfl _ _ c0
    have a1 := hc (g := g) rfl _ _ c1
    have a2 := hc (g := g) rfl _ _ c2
    rw [add0] at a0 a1 a2
    exact ⟨g, cap, by rw [hl], hB, at_lt hh, h3, h4, a0, a1, a2, at_frozen hh _, at_frozen hh _, at_frozen hh _⟩
theorem mine_set {w : World} {B g c n : Nat} {L M : List Op} (h : Mine w B (.slice (some ⟨g, 0, none⟩) n c) L) (hn : n = L.length) (j : Nat) (u : Value) (e : (ov L).set j u = ov M) (hM : M.length = L.length) : Mine (w.setCell ⟨g, j, none⟩ u) B (.slice (some ⟨g, 0, none⟩) n c) M := by
  subst hn
  have := (World.ownsRow.stored h j u).1
  rw [e] at this
  unfold Mine
  rw [hM]
  exact this
theorem mine_below {w w' : World} {B : Nat} {v : Value} {L : List Op} (h : Mine w B v L) (hb : Below w.heap.size w w') : Mine w' B v L := own_below h hb
theorem mine_more {w : World} {B n : Nat} {v : Value} {L : List Op} {x : Op} (h : w.ownsRow B 58 3 v (n + 1) (ov L ++ [.int .i64 x.k, .string ⟨x.s.toArray⟩, .int .i64 x.n])) (hn : n = L.length) : Mine w B v (L ++ [x]) := by
  subst hn
  unfold Mine
  rw [List.length_append, ov_app, ov_one]
  exact h

/-- a slice that holds ops -/
structure Ops (w : World) (L : List Op) (p : Option Addr) (c : Nat) : Prop where
  cap : L.length ≤ c
  max : c ≤ maxLen
  cells : L = [] ∨ ∃ b o, p = some ⟨b, o, none⟩ ∧ b < w.heap.size ∧ ∀ i (hi : i < L.length), w.cell? ⟨b, o + i * 3, none⟩ = some (.int .i64 L[i].k) ∧ w.cell? ⟨b, o + i * 3 + 1, none⟩ = some (.string ⟨L[i].s.toArray⟩) ∧ w.cell? ⟨b, o + i * 3 + 2, none⟩ = some (.int .i64 L[i].n)
theorem Ops.below {w w' : World} {L : List Op} {p : Option Addr} {c : Nat} (h : Ops w L p c) (hb : Below w.heap.size w w') : Ops w' L p c :=
  ⟨h.cap, h.max, h.cells.imp id fun ⟨b, o, e, hl, k⟩ => ⟨b, o, e, Nat.lt_of_lt_of_le hl hb.size, fun i hi => by
    obtain ⟨k0, k1, k2⟩ := k i hi
    exact ⟨(hb.cell (p := ⟨b, _, none⟩) hl).trans k0, (hb.cell (p := ⟨b, _, none⟩) hl).trans k1, (hb.cell (p := ⟨b, _, none⟩) hl).trans k2⟩⟩⟩
theorem Mine.ops {w : World} {B : Nat} {v : Value} {L : List Op} (h : Mine w B v L) : ∃ p c, v = .slice p L.length c ∧ Ops w L p c := by
  have hc := @World.ownsRow.cells _ _ _ _ _ _ _ h
  rcases h.2 with ⟨rfl, h0⟩ | ⟨g, cap, cur, rfl, _, hh, h3, h4, _⟩
  · exact ⟨none, 0, by rw [h0], by omega, by unfold maxLen; omega, .inl (List.eq_nil_of_length_eq_zero h0)⟩
  · refine ⟨_, cap, rfl, h3, h4, .inr ⟨g, 0, rfl, at_lt hh, fun i hi => ?_⟩⟩
    have e0 := ov_get hi 0 (by omega)
    have e1 := ov_get hi 1 (by omega)
    have e2 := ov_get hi 2 (by omega)
    have a0 := hc (g := g) rfl _ _ (e0.trans rfl)
    have a1 := hc (g := g) rfl _ _ (e1.trans rfl)
    have a2 := hc (g := g) rfl _ _ (e2.trans rfl)
    rw [add0] at a0 a1 a2
    rw [Nat.zero_add]
    exact ⟨a0, a1, a2⟩
end Go.Proofs.YtnkhdpenmekhdaaGreat.Brk
end

section
namespace Go.Proofs.YtnkhdpenmekhdaaGreat.Own
open Go.RowKit Go.ChangeShapes Go.WideShapes Go.Deep

/-- a slice that came in: n elements of so many cells each -/
def Row (w : World) (v : Value) (n size : Nat) (E : Nat → Nat → Value) : Prop :=
  ∃ a cap, v = .slice a n cap ∧ n ≤ cap ∧ cap ≤ maxLen ∧ (n = 0 ∨ ∃ b off, a = some ⟨b, off, none⟩ ∧ b < w.heap.size ∧ ∀ i j, i < n → j < size → w.cell? ⟨b, off + i * size + j, none⟩ = some (E i j))

theorem Row.below {w w' : World} {v : Value} {n size : Nat} {E : Nat → Nat → Value} (h : Row w v n size E) (hb : Below w.heap.size w w') : Row w' v n size E := by
  obtain ⟨a, cap, rfl, h1, h2, h3⟩ := h
  refine ⟨a, cap, rfl, h1, h2, h3.imp id ?_⟩
  rintro ⟨b, off, rfl, h4, h5⟩
  exact ⟨b, off, rfl, Nat.lt_of_lt_of_le h4 hb.size, fun i j hi hj => by rw [hb.cell h4]; exact h5 i j hi hj⟩

section
variable {H : Type} {enc : TypeId × Value → H} {P : Program} {w : World} {base : Nat} {spare : Nat → Bool} {held : Bool}

theorem args_slice {t e : TypeId} {v : Value} {d : DataW H} {p : List MemPlace} {size : Nat} (ht : P.underlying t = some (.slice e)) (hC : P.cellsOf e = size) (h0 : 0 < size) (h : DataW.Trod enc P w base spare held t v d p) (hv : ∃ a n cap, v = .slice a n cap) :
    ∃ n E, Row w v n size E ∧ ∃ m, ∀ i, i < n → ∃ y, DataW.trod enc P w base spare held m e ((List.range size).map (E i)) = some y := by
  obtain ⟨a, n, cap, rfl⟩ := hv
  obtain ⟨fuel, hf⟩ := h
  rcases open_slice ht hf with ⟨hcs, _⟩ | ⟨x, l, c, m, k, D, Pl, hcs, hb, hl, hm, hmm, hx, hi⟩
  · simp [Value.cells] at hcs
    obtain ⟨rfl, rfl, rfl⟩ := hcs
    exact ⟨0, fun _ _ => undef, ⟨none, 0, rfl, Nat.le_refl _, Nat.zero_le _, .inl rfl⟩, 0, fun i hi => absurd hi (by omega)⟩
  · simp [Value.cells] at hcs
    obtain ⟨rfl, rfl, rfl⟩ := hcs
    rw [hC] at hi
    have hnm : n ≤ m := by rw [hmm]; split <;> omega
    refine ⟨n, fun i j => (w.cell? (x.add (i * size + j))).getD undef, ⟨some x, cap, rfl, hl, hm, ?_⟩, k, ?_⟩
    · by_cases hn : n = 0
      · exact .inl hn
      · right
        obtain ⟨b, off, spot⟩ := x
        obtain ⟨cs0, hc0, _⟩ := hi 0 (by omega)
        obtain ⟨_, _, hat0⟩ := World.cells?_some hc0
        have h00 := hat0 0 h0
        obtain ⟨_, hcl0, _⟩ := World.cells?_some hc0
        have hsp : spot = none := by
          have e : cs0[0]? = some (cs0[0]'(by omega)) := List.getElem?_eq_getElem (by omega)
          rw [e] at h00
          simpa [Addr.add] using World.cell?_spot h00
        subst hsp
        have hadd : ∀ o k, (⟨b, o, none⟩ : Addr).add k = ⟨b, o + k, none⟩ := fun o k => by unfold Addr.add; split <;> simp_all
        refine ⟨b, off, rfl, ?_, ?_⟩
        · have e : cs0[0]? = some (cs0[0]'(by omega)) := List.getElem?_eq_getElem (by omega)
          rw [e] at h00
          have := World.block_lt_of_cell? w _ h00
          simpa [hadd] using this
        · intro i j hin hj
          obtain ⟨cs, hc, _⟩ := hi i (by omega)
          obtain ⟨_, hcl, hat⟩ := World.cells?_some hc
          have hcell := hat j hj
          have e : cs[j]? = some (cs[j]'(by omega)) := List.getElem?_eq_getElem (by omega)
          rw [e] at hcell
          simp only [hadd] at hcell ⊢
          rw [← Nat.add_assoc, hcell]; simp
    · intro i hin
      obtain ⟨cs, hc, ht'⟩ := hi i (by omega)
      obtain ⟨_, hcl, hat⟩ := World.cells?_some hc
      refine ⟨(D i, Pl i), ?_⟩
      rw [← ht']
      congr 1
      apply List.ext_getElem?
      intro j
      by_cases hj : j < size
      · have hcell := hat j hj
        have e : cs[j]? = some (cs[j]'(by omega)) := List.getElem?_eq_getElem (by omega)
        rw [Go.Deep.add_add] at hcell
        rw [List.getElem?_map, List.getElem?_range hj, e]
        rw [e] at hcell
        simp [hcell]
      · rw [List.getElem?_eq_none (by simp; omega), List.getElem?_eq_none (by omega)]

variable {m : Nat} {y : DataW H × List MemPlace}
/-- a field of a struct -/
theorem leaf_field {e : TypeId} {fs : Array Field} {size : Nat} {E : Nat → Value} (he : P.underlying e = some (.struct fs)) (h : DataW.trod enc P w base spare held m e ((List.range size).map E) = some y)
    (j : Nat) (f : Field) (hf : fs[j]? = some f) (o c : Nat) (ho : f.offset = o) (hc : P.cellsOf f.type = c) (hs : o + c ≤ size) : ∃ m' y', DataW.trod enc P w base spare held m' f.type ((List.range c).map fun k => E (o + k)) = some y' := by
  obtain ⟨xs, n, _, _, _, hlen, hyl⟩ := DataW.trod_struct he h
  have hj : j < fs.size := (Array.getElem?_eq_some_iff.1 hf).1
  refine ⟨n, xs[j]'(by omega), ?_⟩
  have := hyl j f hf
  rw [ho, hc, List.getElem?_eq_getElem (by omega)] at this
  rw [← this]
  congr 1
  apply List.ext_getElem?
  intro k
  by_cases hk : k < c
  · rw [List.getElem?_map, List.getElem?_range hk, List.getElem?_take, if_pos hk, List.getElem?_drop, List.getElem?_map, List.getElem?_range (by omega)]; rfl
  · rw [List.getElem?_eq_none (by simp; omega), List.getElem?_eq_none (by simp; omega)]
theorem leaf_int {t : TypeId} {k : IntKind} {E : Nat → Value} (ht : P.underlying t = some (.int k)) (h : DataW.trod enc P w base spare held m t ((List.range 1).map E) = some y) : ∃ n, E 0 = .int k n ∧ (Lit.int k n).wf = true := by
  obtain ⟨n, hn, _, hw⟩ := DataW.trod_int ht h
  exact ⟨n, by simpa using hn, hw⟩
theorem leaf_string {t : TypeId} {E : Nat → Value} (ht : P.underlying t = some .string) (h : DataW.trod enc P w base spare held m t ((List.range 1).map E) = some y) : ∃ s, E 0 = .string s ∧ s.size ≤ maxLen := by
  obtain ⟨n, hn, _, hw⟩ := DataW.trod_string ht h
  exact ⟨n, by simpa using hn, hw⟩
theorem leaf_bool {t : TypeId} {E : Nat → Value} (ht : P.underlying t = some .bool) (h : DataW.trod enc P w base spare held m t ((List.range 1).map E) = some y) : ∃ b, E 0 = .bool b := by
  obtain ⟨n, hn, _⟩ := DataW.trod_bool ht h
  exact ⟨n, by simpa using hn⟩
theorem wf64 {n : Int} (h : (Lit.int .i64 n).wf = true) : -9223372036854775808 ≤ n ∧ n ≤ 9223372036854775807 := by
  simpa [Lit.wf, IntKind.min, IntKind.max, IntKind.bits, IntKind.signed] using h
theorem wf8 {n : Int} (h : (Lit.int .u8 n).wf = true) : 0 ≤ n ∧ n ≤ 255 := by
  simpa [Lit.wf, IntKind.min, IntKind.max, IntKind.bits, IntKind.signed] using h
theorem wf16 {n : Int} (h : (Lit.int .u16 n).wf = true) : 0 ≤ n ∧ n ≤ 65535 := by
  simpa [Lit.wf, IntKind.min, IntKind.max, IntKind.bits, IntKind.signed] using h

/-- a slice of strings that came in -/
theorem args_strings {t e : TypeId} {v : Value} {d : DataW H} {p : List MemPlace} (ht : P.underlying t = some (.slice e)) (he : P.underlying e = some .string) (hC : P.cellsOf e = 1) (h : DataW.Trod enc P w base spare held t v d p) (hv : ∃ a n cap, v = .slice a n cap) :
    ∃ n E, Row w v n 1 E ∧ ∀ i, i < n → ∃ s, E i 0 = .string s ∧ s.size ≤ maxLen := by
  obtain ⟨n, E, hr, m, hm⟩ := args_slice ht hC (by omega) h hv
  refine ⟨n, E, hr, fun i hi => ?_⟩
  obtain ⟨y, hy⟩ := hm i hi
  exact leaf_string he hy
end
end Go.Proofs.YtnkhdpenmekhdaaGreat.Own
end

section
namespace Go.Proofs.YtnkhdpenmekhdaaGreat.Rw
open Go.RowKit Go.Proofs.YtnkhdpenmekhdaaGreat.Own

/-- a slice of one-cell values -/
structure Row1 (w : World) (p : Option Addr) (c : Nat) (xs : List Value) : Prop where
  cap : xs.length ≤ c
  max : c ≤ maxLen
  cells : xs = [] ∨ ∃ b o, p = some ⟨b, o, none⟩ ∧ b < w.heap.size ∧ ∀ i x, xs[i]? = some x → w.cell? ⟨b, o + i, none⟩ = some x
theorem Row1.below {w w' : World} {p : Option Addr} {c : Nat} {xs : List Value} (h : Row1 w p c xs) (hb : Below w.heap.size w w') : Row1 w' p c xs :=
  ⟨h.cap, h.max, h.cells.imp id fun ⟨b, o, e, hl, k⟩ => ⟨b, o, e, Nat.lt_of_lt_of_le hl hb.size, fun i x hx => (hb.cell (p := ⟨b, o + i, none⟩) hl).trans (k i x hx)⟩⟩
theorem own_cell {w : World} {B : Nat} {e : TypeId} {v : Value} {n g c : Nat} {xs : List Value} (h : w.ownsRow B e 1 v n xs) (hv : v = .slice (some ⟨g, 0, none⟩) n c) {i : Nat} {x : Value} (hx : xs[i]? = some x) : w.cell? ⟨g, i, none⟩ = some x := by
  have hc := @World.ownsRow.cells _ _ _ _ _ _ _ h
  have := hc (g := g) (by rw [hv]; rfl) i x hx
  rwa [add0] at this
theorem own_shape {w : World} {B : Nat} {e : TypeId} {v : Value} {n : Nat} {xs : List Value} (h : w.ownsRow B e 1 v n xs) (hn : 0 < n) : ∃ g c, v = .slice (some ⟨g, 0, none⟩) n c ∧ B ≤ g ∧ g < w.heap.size ∧ n ≤ c ∧ c ≤ maxLen := by
  rcases h.2 with ⟨rfl, h0⟩ | ⟨g, cap, cur, rfl, hb, hh, h3, h4, _⟩
  · omega
  · exact ⟨g, cap, rfl, hb, at_lt hh, h3, h4⟩
theorem owns_row {w : World} {B : Nat} {e : TypeId} {v : Value} {n : Nat} {xs : List Value} (h : w.ownsRow B e 1 v n xs) (hn : n = xs.length) : ∃ p c, v = .slice p n c ∧ Row1 w p c xs := by
  rcases h.2 with ⟨rfl, h0⟩ | ⟨g, cap, cur, rfl, _, hh, h3, h4, _⟩
  · obtain rfl : n = 0 := h0
    exact ⟨none, 0, rfl, by omega, by unfold maxLen; omega, .inl (List.eq_nil_of_length_eq_zero hn.symm)⟩
  · refine ⟨_, cap, rfl, by omega, h4, .inr ⟨g, 0, rfl, at_lt hh, fun i x hx => ?_⟩⟩
    rw [Nat.zero_add]
    exact own_cell h rfl hx
theorem own_base {w : World} {B B' e size n : Nat} {v : Value} {xs : List Value} (h : w.ownsRow B' e size v n xs) (hb : B ≤ B') : w.ownsRow B e size v n xs := by
  refine ⟨h.1, h.2.imp id fun ⟨g, cap, cur, hv, hg, r⟩ => ⟨g, cap, cur, hv, by omega, r⟩⟩
theorem own_new (w : World) (xs : List Value) (e : TypeId) (g : Nat) (hg : g = w.heap.size) (hl : xs.length ≤ maxLen) : (w.alloc (.cells xs.toArray e (0, 0))).ownsRow w.heap.size e 1 (.slice (some ⟨g, 0, none⟩) xs.length xs.length) xs.length xs := by
  subst hg
  exact ⟨by omega, .inr ⟨_, _, xs.toArray, rfl, Nat.le_refl _, at_new w _, Nat.le_refl _, hl, by simp, by simp⟩⟩
theorem one_new (w : World) (x : Value) (T : TypeId) (g : Nat) (hg : g = w.heap.size) : ∀ ad, some (⟨g, 0, none⟩ : Addr) = some ad → ∀ j u, [x][j]? = some u → (w.alloc (.cells #[x] T (0, 0))).cell? (ad.add j) = some u := by
  subst hg
  rintro ad ⟨⟩ j u hu
  rw [add0, at_cell (at_new w _)]
  simpa using hu
theorem below_drew {B : Nat} {a w : World} (h : Below B a w) {q : Nat} : Below B a (w.drewN q) := ⟨h.os, h.tape, h.output, h.size, h.block⟩

/-! ### rows of texts -/
def str (l : List UInt8) : Value := .string ⟨l.toArray⟩
def strs (ts : List (List UInt8)) : List Value := ts.map str
theorem strs_len (ts : List (List UInt8)) : (strs ts).length = ts.length := by simp [strs]
theorem strs_app (ts us : List (List UInt8)) : strs (ts ++ us) = strs ts ++ strs us := by simp [strs]
theorem strs_at {ts : List (List UInt8)} {i : Nat} (h : i < ts.length) : (strs ts)[i]? = some (str ts[i]) := by simp [strs, h]
structure Texts (w : World) (p : Option Addr) (c : Nat) (ts : List (List UInt8)) : Prop where
  row : Row1 w p c (strs ts)
theorem Texts.below {w w' : World} {p : Option Addr} {c : Nat} {ts : List (List UInt8)} (h : Texts w p c ts) (hb : Below w.heap.size w w') : Texts w' p c ts := ⟨h.row.below hb⟩
theorem Texts.cap {w : World} {p : Option Addr} {c : Nat} {ts : List (List UInt8)} (h : Texts w p c ts) : ts.length ≤ c ∧ c ≤ maxLen := ⟨by have := h.row.cap; rwa [strs_len] at this, h.row.max⟩
theorem Texts.cells {w : World} {p : Option Addr} {c : Nat} {ts : List (List UInt8)} (h : Texts w p c ts) : ts = [] ∨ ∃ b o, p = some ⟨b, o, none⟩ ∧ b < w.heap.size ∧ ∀ i (hi : i < ts.length), w.cell? ⟨b, o + i, none⟩ = some (str ts[i]) := by
  rcases h.row.cells with h0 | ⟨b, o, e, hl, k⟩
  · exact .inl (by simpa [strs] using h0)
  · exact .inr ⟨b, o, e, hl, fun i hi => k i _ (strs_at hi)⟩
theorem texts_own {w : World} {B n : Nat} {e : TypeId} {v : Value} {ts : List (List UInt8)} (h : w.ownsRow B e 1 v n (strs ts)) (hn : n = ts.length) : ∃ p c, v = .slice p n c ∧ Texts w p c ts := by
  obtain ⟨p, c, e, hr⟩ := owns_row h (by rw [strs_len]; exact hn)
  exact ⟨p, c, e, ⟨hr⟩⟩
theorem texts_nil (w : World) : Texts w none 0 [] := ⟨⟨Nat.le_refl _, by unfold maxLen; omega, .inl rfl⟩⟩
theorem str_eq (s : ByteArray) : .string s = str s.data.toList := rfl

end Go.Proofs.YtnkhdpenmekhdaaGreat.Rw
end

section
namespace Go.Proofs.YtnkhdpenmekhdaaGreat.Tree
open Go.RowKit Go.Proofs.YtnkhdpenmekhdaaGreat.Own Go.Proofs.YtnkhdpenmekhdaaGreat.Rw

def intOf : Value → Int
  | .int _ n => n
  | _ => 0
theorem own_out {w w' : World} {B e size n : Nat} {v : Value} {xs : List Value} {S : Nat → Prop} (h : w.ownsRow B e size v n xs) (hb : Out S w w') (hS : ∀ k, v.ownBlock = some k → ¬ S k) : w'.ownsRow B e size v n xs := by
  refine ⟨h.1, ?_⟩
  rcases h.2 with h0 | ⟨g, cap, cur, hv, hg, hh, r⟩
  · exact .inl h0
  · exact .inr ⟨g, cap, cur, hv, hg, hb.at_ hh (hS g (by rw [hv]; rfl)), r⟩
theorem out_grown {S : Nat → Prop} {a w w' : World} {row : Option Nat} (h : Out S a w) (hg : w.grownBy w' row) (hr : ∀ k, row = some k → k < a.heap.size → S k) : Out S a w' :=
  h.trans (S' := fun k => row = some k) ⟨hg.os, hg.tape, hg.output, hg.size, fun k hk hn => hg.block k hk fun e => hn e.symm⟩ fun i hi e => hr i e hi
theorem grown_out {w w' : World} {row : Option Nat} (hg : w.grownBy w' row) : Out (fun k => row = some k) w w' := out_grown (Out.refl _ _) hg fun _ h _ => h

theorem own_lt {w : World} {B e size n : Nat} {v : Value} {xs : List Value} (h : w.ownsRow B e size v n xs) {k : Nat} (hk : v.ownBlock = some k) : B ≤ k ∧ k < w.heap.size := by
  rcases h.2 with ⟨rfl, _⟩ | ⟨g, cap, cur, rfl, hg, hh, _⟩
  · cases hk
  · obtain rfl : g = k := by simpa [Value.ownBlock] using hk
    exact ⟨hg, at_lt hh⟩
theorem own_slice {w : World} {B e n size : Nat} {v : Value} {xs : List Value} (h : w.ownsRow B e size v n xs) : ∃ p c, v = .slice p n c ∧ n ≤ c ∧ c ≤ maxLen := by
  rcases h.2 with ⟨rfl, h0⟩ | ⟨g, cap, cur, rfl, _, _, h3, h4, _⟩
  · exact ⟨none, 0, by rw [show n = 0 from h0], by rw [show n = 0 from h0]; exact Nat.le_refl _, by unfold maxLen; omega⟩
  · exact ⟨_, _, rfl, h3, h4⟩
section
variable {w : World} {b : Nat} {x0 x1 x2 x3 x4 : Value} {T : TypeId}
theorem row5 (h : w.heap[b]? = some (.cells #[x0, x1, x2, x3, x4] T (0, 0))) :
    (w.cell? ⟨b, 0, none⟩ = some x0 ∧ w.cell? ⟨b, 1, none⟩ = some x1 ∧ w.cell? ⟨b, 2, none⟩ = some x2 ∧ w.cell? ⟨b, 3, none⟩ = some x3 ∧ w.cell? ⟨b, 4, none⟩ = some x4) ∧
    w.frozen? ⟨b, 0, none⟩ = false ∧ w.frozen? ⟨b, 1, none⟩ = false ∧ w.frozen? ⟨b, 2, none⟩ = false ∧ w.frozen? ⟨b, 3, none⟩ = false ∧ w.frozen? ⟨b, 4, none⟩ = false :=
  ⟨⟨at_cell h 0, at_cell h 1, at_cell h 2, at_cell h 3, at_cell h 4⟩, at_frozen h 0, at_frozen h 1, at_frozen h 2, at_frozen h 3, at_frozen h 4⟩
end
end Go.Proofs.YtnkhdpenmekhdaaGreat.Tree
end

section
namespace Go.Proofs.YtnkhdpenmekhdaaGreat.Run
open Go.RowKit Go.Proofs.YtnkhdpenmekhdaaGreat.Own Go.Proofs.YtnkhdpenmekhdaaGreat.Brk Go.Proofs.YtnkhdpenmekhdaaGreat.Calc

/-- steps with their times, as cells -/
def dv1 (p : Int × Op) : List Value := [.int .i64 p.1, .int .i64 p.2.k, .string ⟨p.2.s.toArray⟩, .int .i64 p.2.n]
def dv (L : List (Int × Op)) : List Value := L.flatMap dv1
theorem dv_len (L : List (Int × Op)) : (dv L).length = L.length * 4 := by
  induction L with
  | nil => rfl
  | cons x r ih =>
    have : dv (x :: r) = dv1 x ++ dv r := rfl
    rw [this, List.length_append, ih]
    simp [dv1]; omega
theorem dv_app (L M : List (Int × Op)) : dv (L ++ M) = dv L ++ dv M := by simp [dv]
theorem dv_get {L : List (Int × Op)} {i : Nat} (h : i < L.length) (j : Nat) (hj : j < 4) : (dv L)[i * 4 + j]? = (dv1 L[i])[j]? := by
  induction L generalizing i with
  | nil => simp at h
  | cons x r ih =>
    have e : dv (x :: r) = dv1 x ++ dv r := rfl
    have l3 : (dv1 x).length = 4 := rfl
    rw [e]
    cases i with
    | zero => rw [List.getElem?_append_left (by omega)]; simp
    | succ i =>
      rw [List.getElem?_append_right (by omega), show (i + 1) * 4 + j - (dv1 x).length = i * 4 + j by omega]
      exact ih (by simpa using h)
/-- a slice that holds steps with their times, in block q -/
def Dus (w : World) (q : Nat) (p : Option Addr) (L : List (Int × Op)) : Prop :=
  L = [] ∨ ∃ o, p = some ⟨q, o, none⟩ ∧ ∀ i (hi : i < L.length), w.cell? ⟨q, o + i * 4, none⟩ = some (.int .i64 L[i].1) ∧ w.cell? ⟨q, o + i * 4 + 1, none⟩ = some (.int .i64 L[i].2.k) ∧ w.cell? ⟨q, o + i * 4 + 2, none⟩ = some (.string ⟨L[i].2.s.toArray⟩) ∧ w.cell? ⟨q, o + i * 4 + 3, none⟩ = some (.int .i64 L[i].2.n)
theorem Dus.same {w w' : World} {q : Nat} {p : Option Addr} {L : List (Int × Op)} (h : Dus w q p L) (hq : w'.heap[q]? = w.heap[q]?) : Dus w' q p L := by
  refine h.imp id ?_
  rintro ⟨o, e, k⟩
  have hc : ∀ j, w'.cell? ⟨q, j, none⟩ = w.cell? ⟨q, j, none⟩ := fun j => World.cell?_of_block (a := ⟨q, j, none⟩) hq
  exact ⟨o, e, fun i hi => by obtain ⟨k0, k1, k2, k3⟩ := k i hi; rw [hc, hc, hc, hc]; exact ⟨k0, k1, k2, k3⟩⟩
theorem Dus.tail {w : World} {q o : Nat} {p p' : Option Addr} {x : Int × Op} {L : List (Int × Op)} (h : Dus w q p (x :: L)) (he : p = some ⟨q, o, none⟩) (hp : L ≠ [] → p' = some ⟨q, o + 4, none⟩) : Dus w q p' L := by
  rcases h with h | ⟨o', e, k⟩
  · cases h
  · rw [he] at e
    obtain rfl : o = o' := by simpa using e
    by_cases hl : L = []
    · exact .inl hl
    · refine .inr ⟨o + 4, hp hl, fun i hi => ?_⟩
      have := k (i + 1) (by simpa using hi)
      simp only [List.getElem_cons_succ] at this
      rw [show o + (i + 1) * 4 = o + 4 + i * 4 by omega] at this
      exact this
theorem Dus.head {w : World} {q : Nat} {p : Option Addr} {x : Int × Op} {L : List (Int × Op)} (h : Dus w q p (x :: L)) : ∃ o, p = some ⟨q, o, none⟩ ∧ w.cell? ⟨q, o, none⟩ = some (.int .i64 x.1) ∧ w.cell? ⟨q, o + 1, none⟩ = some (.int .i64 x.2.k) ∧ w.cell? ⟨q, o + 1 + 1, none⟩ = some (.string ⟨x.2.s.toArray⟩) ∧ w.cell? ⟨q, o + 1 + 2, none⟩ = some (.int .i64 x.2.n) := by
  rcases h with h | ⟨o, e, k⟩
  · cases h
  · have := k 0 (by simp)
    simpa using ⟨o, e, this⟩
theorem own_dus {w : World} {B n : Nat} {v : Value} {L : List (Int × Op)} (h : w.ownsRow B 102 4 v n (dv L)) (hn : n = L.length) : ∃ p c, v = .slice p L.length c ∧ L.length ≤ c ∧ c ≤ maxLen ∧ (L = [] ∨ ∃ q, B ≤ q ∧ q < w.heap.size ∧ v.ownBlock = some q ∧ Dus w q p L) := by
  subst hn
  have hc := @World.ownsRow.cells _ _ _ _ _ _ _ h
  rcases h.2 with ⟨rfl, h0⟩ | ⟨g, cap, cur, rfl, hB, hh, h3, h4, _⟩
  · exact ⟨none, 0, by rw [h0], by omega, by unfold maxLen; omega, .inl (List.eq_nil_of_length_eq_zero h0)⟩
  · refine ⟨_, cap, rfl, h3, h4, .inr ⟨g, hB, at_lt hh, rfl, .inr ⟨0, rfl, fun i hi => ?_⟩⟩⟩
    have e0 := dv_get hi 0 (by omega)
    have e1 := dv_get hi 1 (by omega)
    have e2 := dv_get hi 2 (by omega)
    have e3 := dv_get hi 3 (by omega)
    have a0 := hc (g := g) rfl _ _ (e0.trans rfl)
    have a1 := hc (g := g) rfl _ _ (e1.trans rfl)
    have a2 := hc (g := g) rfl _ _ (e2.trans rfl)
    have a3 := hc (g := g) rfl _ _ (e3.trans rfl)
    rw [add0] at a0 a1 a2 a3
    rw [Nat.zero_add]
    exact ⟨a0, a1, a2, a3⟩

/-- block b is a runner: what was not told yet lies in block q -/
structure IsRun (w : World) (b q : Nat) (L : List (Int × Op)) (e : Int) (on : Bool) : Prop where
  row : ∃ p n c, n = L.length ∧ w.heap[b]? = some (.cells #[.slice p n c, .int .i64 e, .bool on] 100 (0, 0)) ∧ n ≤ c ∧ c ≤ maxLen ∧ Dus w q p L
  ne : q ≠ b
  lt : q < w.heap.size
theorem IsRun.at_lt {w : World} {b q : Nat} {L : List (Int × Op)} {e : Int} {on : Bool} (h : IsRun w b q L e on) : b < w.heap.size := by
  obtain ⟨p, n, c, _, hr, _⟩ := h.row
  exact Own.at_lt hr
theorem IsRun.out {w w' : World} {b q : Nat} {L : List (Int × Op)} {e : Int} {on : Bool} {S : Nat → Prop} (h : IsRun w b q L e on) (ho : Out S w w') (hb : ¬ S b) (hq : ¬ S q) : IsRun w' b q L e on := by
  obtain ⟨p, n, c, hn, hr, h1, h2, h3⟩ := h.row
  exact ⟨⟨p, n, c, hn, ho.at_ hr hb, h1, h2, h3.same (ho.block q h.lt hq)⟩, h.ne, Nat.lt_of_lt_of_le h.lt ho.size⟩
theorem IsRun.below {w w' : World} {b q : Nat} {L : List (Int × Op)} {e : Int} {on : Bool} (h : IsRun w b q L e on) (hb : Below w.heap.size w w') : IsRun w' b q L e on :=
  h.out (S := fun _ => False) (Out.ofNew hb) id id
theorem IsRun.tail {w : World} {b q n c : Nat} {p p' : Option Addr} {x : Int × Op} {L : List (Int × Op)} {e : Int} {on : Bool} (h : w.heap[b]? = some (.cells #[.slice p (n + 1) (c + 1), .int .i64 e, .bool on] 100 (0, 0))) (hn : n = L.length) (hnc : n ≤ c) (hc : c ≤ maxLen) (hd : Dus w q p (x :: L))
    (hp : ∀ o, p = some ⟨q, o, none⟩ → L ≠ [] → p' = some ⟨q, o + 4, none⟩) (hne : q ≠ b) (hlt : q < w.heap.size) : IsRun (w.setCell ⟨b, 0, none⟩ (.slice p' n c)) b q L e on := by
  refine ⟨⟨p', n, c, hn, at_set h 0 _, hnc, hc, ?_⟩, hne, by simpa [World.setCell] using hlt⟩
  obtain ⟨o, e1, _⟩ := hd.head
  exact (hd.tail e1 (hp o e1)).same (at_set_other w hne 0 _)
theorem IsRun.turned {w : World} {b q : Nat} {L : List (Int × Op)} {e : Int} {on : Bool} (h : IsRun w b q L e on) (on' : Bool) : IsRun (w.setCell ⟨b, 2, none⟩ (.bool on')) b q L e on' := by
  obtain ⟨p, n, c, hn, hr, h1, h2, h3⟩ := h.row
  exact ⟨⟨p, n, c, hn, at_set hr 2 _, h1, h2, h3.same (at_set_other w h.ne 2 _)⟩, h.ne, by simpa [World.setCell] using h.lt⟩

theorem ret_bool {a b : Bool} (h : a = b) : Ending.returned (.bool a) = .returned (.bool b) := by rw [h]
set_option maxRecDepth 100000 in
set_option maxHeartbeats 1000000 in
theorem done_calls {w : World} {b q : Nat} {L : List (Int × Op)} {e : Int} {on : Bool} (h : IsRun w b q L e on) :
    Calls Tryz.prog 54 #[.pointer (some ⟨b, 0, none⟩)] w fun e w' => e = .returned (.bool !on) ∧ w = w' := by
  obtain ⟨p, n, c, hn, hr, h1, h2, h3⟩ := h.row
  have c2 := at_cell hr 2
  clear h3 h1 h2 hn h hr
  go_enter Tryz.func54, Tryz.ntmps54
  go_wp2_with fail
  go_ret
  exact ⟨rfl, rfl⟩
/-- what Next tells -/
def nextV (L : List (Int × Op)) (e : Int) (on : Bool) : Int := match on with
  | false => 0
  | true => match L with
    | [] => e
    | p :: _ => p.1
set_option maxRecDepth 100000 in
set_option maxHeartbeats 1000000 in
theorem next_calls {w : World} {b q : Nat} {L : List (Int × Op)} {e : Int} {on : Bool} (h : IsRun w b q L e on) :
    Calls Tryz.prog 33 #[.pointer (some ⟨b, 0, none⟩)] w fun r w' => r = .returned (.tuple #[.int .i64 (nextV L e on), .bool on]) ∧ w = w' := by
  have HD := Lib.hid (done_calls h)
  obtain ⟨p, n, c, hn, hr, h1, h2, h3⟩ := h.row
  unfold maxLen at h2
  have c0 := at_cell hr 0
  have c1 := at_cell hr 1
  cases on with
  | false =>
    clear h3 h hr
    go_enter Tryz.func33, Tryz.ntmps33
    go_wp2_with (go_at_call 54; refine (HD.out).mono ?_; rintro e w' ⟨rfl, rfl⟩)
    go_ret2
    exact ⟨rfl, rfl⟩
  | true =>
    cases L with
    | nil =>
      obtain rfl : n = 0 := hn
      clear h3 h hr
      go_enter Tryz.func33, Tryz.ntmps33
      go_wp2_with (go_at_call 54; refine (HD.out).mono ?_; rintro e w' ⟨rfl, rfl⟩)
      go_ret2
      exact ⟨rfl, rfl⟩
    | cons x L =>
      obtain ⟨o, rfl, d0, _⟩ := h3.head
      have n0 : 0 < n := by rw [hn]; simp
      have n1 : (0 : Int) < (n : Int) := by omega
      have n2 : decide ((0 : Int) < (n : Int)) = true := by simpa using n0
      clear h3 h hr hn
      go_enter Tryz.func33, Tryz.ntmps33
      go_wp2_with (go_at_call 54; refine (HD.out).mono ?_; rintro e w' ⟨rfl, rfl⟩)
      go_ret2
      exact ⟨rfl, rfl⟩
end Go.Proofs.YtnkhdpenmekhdaaGreat.Run
end

section
namespace Go.Proofs.YtnkhdpenmekhdaaGreat.Run
open Go.RowKit Go.Proofs.YtnkhdpenmekhdaaGreat.Own Go.Proofs.YtnkhdpenmekhdaaGreat.Brk Go.Proofs.YtnkhdpenmekhdaaGreat.Calc

theorem below_drew {B : Nat} {a w : World} (h : Below B a w) {q : Nat} : Below B a (w.drewN q) := ⟨h.os, h.tape, h.output, h.size, h.block⟩
theorem ret_int {a b : Int} (h : a = b) : Ending.returned (.int .i64 a) = .returned (.int .i64 b) := by rw [h]
theorem drop_at {l : List Op} {k : Nat} (h : k < l.length) : l.drop k = l[k] :: l.drop (k + 1) := List.drop_eq_getElem_cons h
/-- the ways of a step -/
theorem kinds (x : Op) : (¬ Is x ∧ (((x.k == 1) = false ∧ (x.k == 2) = false ∧ (x.k == 3) = false) ∨ (x.k = 1 ∧ x.s = []) ∨ (x.k = 1 ∧ x.s.isEmpty = false ∧ (x.n == 0) = false) ∨ (x.k = 2 ∧ x.s.isEmpty = false) ∨ (x.k = 2 ∧ x.s = [] ∧ decide (0 < x.n) = false) ∨ (x.k = 3 ∧ x.s.isEmpty = false) ∨ (x.k = 3 ∧ x.s = [] ∧ (x.n == 0) = false))) ∨
    (Is x ∧ ((x.k = 1 ∧ x.s.isEmpty = false ∧ x.n = 0) ∨ (x.k = 2 ∧ x.s = [] ∧ 0 < x.n) ∨ (x.k = 3 ∧ x.s = [] ∧ x.n = 0))) := by
  obtain ⟨k, s, n⟩ := x
  unfold Is
  cases s with
  | nil => simp; omega
  | cons c s => simp; omega
end Go.Proofs.YtnkhdpenmekhdaaGreat.Run
end

section
namespace Go.Proofs.YtnkhdpenmekhdaaGreat.Run
open Go.RowKit Go.Proofs.YtnkhdpenmekhdaaGreat.Own Go.Proofs.YtnkhdpenmekhdaaGreat.Brk Go.Proofs.YtnkhdpenmekhdaaGreat.Calc

theorem dues_drop {a : Int} {l r : List Op} {x : Op} (h : l = x :: r) : dues a l = if x.k = 2 then dues (a + x.n) r else (a, x) :: dues (a + x.n) r := by rw [h, dues]
theorem told_cons {p : Int × Op} {D : List (Int × Op)} {a b : Int} (h : a < p.1) (h2 : p.1 ≤ b) : told (p :: D) a b = p.2 :: told D a b := by
  unfold told; rw [List.filter_cons, if_pos (by simp; omega), List.map_cons]
theorem told_skip {p : Int × Op} {D : List (Int × Op)} {a b : Int} (h : p.1 ≤ a ∨ b < p.1) : told (p :: D) a b = told D a b := by
  unfold told; rw [List.filter_cons, if_neg (by simp; omega)]
/-- how far Due has come -/
structure DueAt (l : List Op) (start behind now : Int) (w wr : World) (v : Value) (a : Int) (k : Nat) (acc : List Op) : Prop where
  own : Mine wr w.heap.size v acc
  below : Below w.heap.size w wr
  len : acc.length ≤ k
  tick : isT a = true
  good : go a (l.drop k) = 0
  left : acc ++ told (dues a (l.drop k)) behind now = told (dues start l) behind now
theorem DueAt.skip {l : List Op} {start behind now : Int} {w wr wr' : World} {v : Value} {a : Int} {k : Nat} {acc : List Op} {x : Op} (h : DueAt l start behind now w wr v a k acc) (e : l.drop k = x :: l.drop (k + 1))
    (hs : x.k = 2 ∨ a ≤ behind ∨ now < a) (hb : Below wr.heap.size wr wr') : DueAt l start behind now w wr' v (a + x.n) (k + 1) acc := by
  have hg := h.good
  rw [e] at hg
  obtain ⟨h1, h2⟩ := go_inv hg
  refine ⟨mine_below h.own hb, h.below.trans (hb.mono h.below.size), by have := h.len; omega, ov_tick h1, h2, ?_⟩
  rw [← h.left, e]
  by_cases hk : x.k = 2
  · rw [dues_wait hk]
  · rw [dues_one hk, told_skip (hs.resolve_left hk)]
theorem DueAt.take {l : List Op} {start behind now : Int} {w wr wr' : World} {v v' : Value} {a : Int} {k : Nat} {acc : List Op} {x : Op} (h : DueAt l start behind now w wr v a k acc) (e : l.drop k = x :: l.drop (k + 1))
    (hk : x.k ≠ 2) (h1 : behind < a) (h2 : a ≤ now) (ho : Mine wr' w.heap.size v' (acc ++ [x])) (hb : Below w.heap.size w wr') : DueAt l start behind now w wr' v' (a + x.n) (k + 1) (acc ++ [x]) := by
  have hg := h.good
  rw [e] at hg
  obtain ⟨g1, g2⟩ := go_inv hg
  refine ⟨ho, hb, by have := h.len; simp; omega, ov_tick g1, g2, ?_⟩
  rw [← h.left, e, dues_one hk, told_cons h1 h2, List.append_assoc]; rfl
def DuePost (l : List Op) (start behind now : Int) (w : World) (e : Ending) (w' : World) : Prop := ∃ v, e = .returned v ∧ Mine w' w.heap.size v (told (dues start l) behind now) ∧ Below w.heap.size w w'
theorem mine_m {w : World} {B m : Nat} {v : Value} {L : List Op} (h : Mine w B v L) (hm : L.length = m) : w.ownsRow B 58 3 v m (ov L) := by subst hm; exact h
theorem mine_nil (w : World) (B : Nat) : Mine w B (.slice none 0 0) [] := World.ownsRow_nil _ _ _ _

/-- when there is something to do next -/
def NxAt (l : List Op) (start behind : Int) (a : Int) (k : Nat) : Prop := isT a = true ∧ go a (l.drop k) = 0 ∧ rest (dues a (l.drop k)) behind = rest (dues start l) behind ∧ ends a (l.drop k) = ends start l
theorem NxAt.skip {l : List Op} {start behind a : Int} {k : Nat} {x : Op} (h : NxAt l start behind a k) (e : l.drop k = x :: l.drop (k + 1)) (hs : x.k = 2 ∨ a ≤ behind) : NxAt l start behind (a + x.n) (k + 1) := by
  obtain ⟨h1, h2, h3, h4⟩ := h
  rw [e] at h2 h3 h4
  obtain ⟨g1, g2⟩ := go_inv h2
  refine ⟨ov_tick g1, g2, ?_, h4⟩
  rw [← h3]
  by_cases hk : x.k = 2
  · rw [dues_wait hk]
  · rw [dues_one hk]
    have := hs.resolve_left hk
    unfold rest; rw [List.filter_cons, if_neg (by simp; omega)]
def nxB (E was : Int) : Bool := decide (was < E)
theorem NxAt.found {l : List Op} {start behind a : Int} {k : Nat} {x : Op} (h : NxAt l start behind a k) (e : l.drop k = x :: l.drop (k + 1)) (hk : x.k ≠ 2) (hb : behind < a) : nxV (dues start l) (ends start l) behind = a ∧ nxB (ends start l) behind = true := by
  obtain ⟨h1, h2, h3, h4⟩ := h
  have hE := ends_ge h2
  rw [e] at h3
  rw [dues_one hk] at h3
  unfold rest at h3; rw [List.filter_cons, if_pos (by simpa using hb)] at h3
  rw [h4] at hE
  exact ⟨nx_some (by omega) h3.symm, by unfold nxB; simp; omega⟩
theorem NxAt.end_ {l : List Op} {start behind a : Int} {k : Nat} (h : NxAt l start behind a k) (hk : l.length ≤ k) : ends start l = a ∧ rest (dues start l) behind = [] := by
  obtain ⟨h1, h2, h3, h4⟩ := h
  rw [List.drop_eq_nil_of_le hk] at h3 h4
  exact ⟨h4.symm, h3.symm⟩
theorem ret_nx {a b : Int} {p q : Bool} (h : a = b) (g : p = q) : Ending.returned (.tuple #[.int .i64 a, .bool p]) = .returned (.tuple #[.int .i64 b, .bool q]) := by rw [h, g]
end Go.Proofs.YtnkhdpenmekhdaaGreat.Run
end

section
namespace Go.Proofs.YtnkhdpenmekhdaaGreat.Calc
open Go.RowKit

theorem ret_bool {a b : Bool} (h : a = b) : Ending.returned (.bool a) = .returned (.bool b) := by rw [h]
theorem ret_two {a b c d : Int} (h : a = b) (g : c = d) : Ending.returned (.tuple #[.int .i64 a, .int .i64 c]) = .returned (.tuple #[.int .i64 b, .int .i64 d]) := by rw [h, g]

theorem is_calls (n : Int) (w : World) :
    Calls Tryz.prog 68 #[.int .i64 n] w fun e w' => e = .returned (.bool (isT n)) ∧ w = w' := by
  by_cases h0 : 0 ≤ n
  · by_cases h1 : n ≤ 1099511627776
    · go_enter Tryz.func68, Tryz.ntmps68
      go_wp2
      go_ret
      exact ⟨ret_bool (by rw [isT_iff.2 ⟨h0, h1⟩]), rfl⟩
    · go_enter Tryz.func68, Tryz.ntmps68
      go_wp2
      go_ret
      exact ⟨ret_bool (by rw [isT_not.2 (by omega)]), rfl⟩
  · go_enter Tryz.func68, Tryz.ntmps68
    go_wp2
    go_ret
    exact ⟨ret_bool (by rw [isT_not.2 (by omega)]), rfl⟩

theorem tick_calls (n : Int) (w : World) :
    Calls Tryz.prog 89 #[.int .i64 n] w fun e w' => e = .returned (.tuple #[.int .i64 (if isT n = true then n else 0), .int .i64 (if isT n = true then 0 else 2)]) ∧ w = w' := by
  cases h : isT n
  · go_enter Tryz.func89, Tryz.ntmps89
    go_wp2_with (go_at_call 68; refine (is_calls _ _).mono ?_; rintro e w' ⟨rfl, rfl⟩)
    go_ret2
    exact ⟨rfl, rfl⟩
  · go_enter Tryz.func89, Tryz.ntmps89
    go_wp2_with (go_at_call 68; refine (is_calls _ _).mono ?_; rintro e w' ⟨rfl, rfl⟩)
    go_ret2
    exact ⟨rfl, rfl⟩

theorem add_calls (a b : Int) (w : World) :
    Calls Tryz.prog 81 #[.int .i64 a, .int .i64 b] w fun e w' => e = .returned (.tuple #[.int .i64 (addV a b), .int .i64 (addC a b)]) ∧ w = w' := by
  cases ha : isT a
  · have hc := addC_one (a := a) (b := b) (.inl ha)
    have hv := addV_none (a := a) (b := b) (by omega)
    have H := Lib.hid (And.intro hc hv); clear hc hv
    go_enter Tryz.func81, Tryz.ntmps81
    go_wp2_with (go_at_call 68; refine (is_calls _ _).mono ?_; rintro e w' ⟨rfl, rfl⟩)
    go_ret2
    exact ⟨ret_two H.out.2.symm H.out.1.symm, rfl⟩
  · cases hb : isT b
    · have hc := addC_one (a := a) (b := b) (.inr hb)
      have hv := addV_none (a := a) (b := b) (by omega)
      have H := Lib.hid (And.intro hc hv); clear hc hv
      go_enter Tryz.func81, Tryz.ntmps81
      go_wp2_with (go_at_call 68; refine (is_calls _ _).mono ?_; rintro e w' ⟨rfl, rfl⟩)
      go_ret2
      exact ⟨ret_two H.out.2.symm H.out.1.symm, rfl⟩
    · obtain ⟨a0, a1⟩ := isT_iff.1 ha
      obtain ⟨b0, b1⟩ := isT_iff.1 hb
      cases h : isT (a + b)
      · have hc := addC_two ha hb h
        have hv := addV_none (a := a) (b := b) (by omega)
        have H := Lib.hid (And.intro hc hv); clear hc hv
        go_enter Tryz.func81, Tryz.ntmps81
        go_wp2_with (first | (go_at_call 68; refine (is_calls _ _).mono ?_; rintro e w' ⟨rfl, rfl⟩) | (go_at_call 89; refine (tick_calls _ _).mono ?_; rintro e w' ⟨rfl, rfl⟩))
        go_ret2
        exact ⟨ret_two H.out.2.symm H.out.1.symm, rfl⟩
      · have hc := addC_nought ha hb h
        have hv := addV_some hc
        have H := Lib.hid (And.intro hc hv); clear hc hv
        go_enter Tryz.func81, Tryz.ntmps81
        go_wp2_with (first | (go_at_call 68; refine (is_calls _ _).mono ?_; rintro e w' ⟨rfl, rfl⟩) | (go_at_call 89; refine (tick_calls _ _).mono ?_; rintro e w' ⟨rfl, rfl⟩))
        go_ret2
        exact ⟨ret_two H.out.2.symm H.out.1.symm, rfl⟩
end Go.Proofs.YtnkhdpenmekhdaaGreat.Calc
end

section
namespace Go.Proofs.YtnkhdpenmekhdaaGreat.Run
open Go.RowKit Go.Proofs.YtnkhdpenmekhdaaGreat.Own Go.Proofs.YtnkhdpenmekhdaaGreat.Brk Go.Proofs.YtnkhdpenmekhdaaGreat.Calc

/-- whether it is a step -/
def isB (x : Op) : Bool := decide (Is x)
set_option maxRecDepth 100000 in
set_option maxHeartbeats 2000000 in
theorem isStep_calls (x : Op) (w : World) :
    Calls Tryz.prog 83 #[.agg #[.int .i64 x.k, .string ⟨x.s.toArray⟩, .int .i64 x.n]] w fun e w' => e = .returned (.bool (isB x)) ∧ Below w.heap.size w w' := by
  have HK := kinds x
  obtain ⟨xk, xs, xn⟩ := x
  simp only at HK
  rcases HK with ⟨HI, HK⟩ | ⟨HI, HK⟩
  · have HE := Lib.hid (show isB ⟨xk, xs, xn⟩ = false from by unfold isB; simpa using HI)
    clear HI
    rcases HK with ⟨k1, k2, k3⟩ | ⟨rfl, rfl⟩ | ⟨rfl, s1, n1⟩ | ⟨rfl, s1⟩ | ⟨rfl, rfl, n1⟩ | ⟨rfl, s1⟩ | ⟨rfl, rfl, n1⟩ <;>
    · go_enter Tryz.func83, Tryz.ntmps83
      go_wp2_with fail
      go_ret
      exact ⟨ret_bool HE.out.symm, (Below.refl _ _).alloc (Nat.le_refl _) _⟩
  · have HE := Lib.hid (show isB ⟨xk, xs, xn⟩ = true from by unfold isB; simpa using HI)
    clear HI
    rcases HK with ⟨rfl, s1, rfl⟩ | ⟨rfl, rfl, n1⟩ | ⟨rfl, rfl, rfl⟩ <;>
    · go_enter Tryz.func83, Tryz.ntmps83
      go_wp2_with fail
      go_ret
      exact ⟨ret_bool HE.out.symm, (Below.refl _ _).alloc (Nat.le_refl _) _⟩

theorem ret_ov {a b c d : Int} (h : a = b) (g : c = d) : Ending.returned (.tuple #[.int .i64 a, .int .i64 c]) = .returned (.tuple #[.int .i64 b, .int .i64 d]) := by rw [h, g]
set_option maxRecDepth 100000 in
set_option maxHeartbeats 2000000 in
theorem over_calls (a : Int) (x : Op) (w : World) :
    Calls Tryz.prog 73 #[.int .i64 a, .agg #[.int .i64 x.k, .string ⟨x.s.toArray⟩, .int .i64 x.n]] w fun e w' => e = .returned (.tuple #[.int .i64 (ovV a x), .int .i64 (ovC a x)]) ∧ Below w.heap.size w w' := by
  have HS := Lib.hid (isStep_calls x)
  by_cases hI : Is x
  · rw [show isB x = true from by unfold isB; simpa using hI] at HS
    have hx : ∃ s c, addC a x.n = c ∧ addV a x.n = s := ⟨_, _, rfl, rfl⟩
    obtain ⟨s, c, hc, hs⟩ := hx
    have HA := Lib.hid (add_calls a x.n)
    rw [hc, hs] at HA
    have HV : Hid (if c = 0 then ovC a x = 0 ∧ ovV a x = s else ovC a x = 2 ∧ ovV a x = 0) := by
      show if c = 0 then _ else _
      split
      · rename_i h0
        have h1 := ov_ok hI (a := a) (by rw [hc, h0])
        refine ⟨h1, ?_⟩
        unfold ovV; rw [if_pos h1, ← hs, addV_some (by rw [hc, h0])]
      · rename_i h0
        have h1 := ov_far hI (a := a) (by rw [hc]; exact h0)
        refine ⟨h1, ?_⟩
        unfold ovV; rw [h1, if_neg (by omega)]
    obtain ⟨xk, xs, xn⟩ := x
    clear hI hc hs
    simp only at HA
    by_cases h0 : c = 0
    · subst h0
      have HW := Lib.hid (show _ ∧ _ from by have := HV.out; rwa [if_pos rfl] at this)
      clear HV
      go_enter Tryz.func73, Tryz.ntmps73
      go_wp2_with fail
      refine (HS.out _).mono ?_
      rintro e w1 ⟨rfl, hb1⟩
      have r0 := (hb1.block w.heap.size (by simp)).trans (at_new w _)
      have B1 := Lib.hid (((Below.refl w.heap.size w).alloc (Nat.le_refl _) _).trans (hb1.mono (by simp)))
      obtain ⟨a0, a1, a2⟩ := row3 r0
      clear hb1 r0
      go_wp2_with (go_at_call 81; refine (HA.out _).mono ?_; rintro e w' ⟨rfl, rfl⟩)
      go_ret2
      exact ⟨ret_ov HW.out.2.symm HW.out.1.symm, B1.out⟩
    · have HW := Lib.hid (show _ ∧ _ from by have := HV.out; rwa [if_neg h0] at this)
      have hb3 : (c != 0) = true := by simpa using h0
      clear HV
      go_enter Tryz.func73, Tryz.ntmps73
      go_wp2_with fail
      refine (HS.out _).mono ?_
      rintro e w1 ⟨rfl, hb1⟩
      have r0 := (hb1.block w.heap.size (by simp)).trans (at_new w _)
      have B1 := Lib.hid (((Below.refl w.heap.size w).alloc (Nat.le_refl _) _).trans (hb1.mono (by simp)))
      obtain ⟨a0, a1, a2⟩ := row3 r0
      clear hb1 r0
      go_wp2_with (go_at_call 81; refine (HA.out _).mono ?_; rintro e w' ⟨rfl, rfl⟩)
      go_ret2
      exact ⟨ret_ov HW.out.2.symm HW.out.1.symm, B1.out⟩
  · rw [show isB x = false from by unfold isB; simpa using hI] at HS
    have HW := Lib.hid (show ovC a x = 1 ∧ ovV a x = 0 from ⟨ov_no hI, by unfold ovV; rw [ov_no hI, if_neg (by omega)]⟩)
    obtain ⟨xk, xs, xn⟩ := x
    clear hI
    go_enter Tryz.func73, Tryz.ntmps73
    go_wp2_with fail
    refine (HS.out _).mono ?_
    rintro e w1 ⟨rfl, hb1⟩
    have B1 := Lib.hid (((Below.refl w.heap.size w).alloc (Nat.le_refl _) _).trans (hb1.mono (by simp)))
    clear hb1
    go_wp2_with fail
    go_ret2
    exact ⟨ret_ov HW.out.2.symm HW.out.1.symm, B1.out⟩

/-- a slice's end, from its second element on -/
theorem cut1 (q o n c : Nat) (h : n ≤ c) : ∃ p' : Option Addr, (0 < n → p' = some ⟨q, o + 4, none⟩) ∧ ∀ W, (Instr.sliceAt 98 (.slice (some ⟨q, o, none⟩) (n + 1) (c + 1)) (some (.int .i64 1)) none none).run Tryz.prog W = .ok (.slice p' n c) W := by
  have ht : Tryz.prog.underlying 98 = some (.slice (Tryz.prog.elem 98)) := by kernel_rfl
  have he : Tryz.prog.elem 98 = 102 := by kernel_rfl
  have hI : (Tryz.prog.info? 102).map (fun i => i.size) = some 4 := by kernel_rfl
  cases hi : Tryz.prog.info? 102 with
  | none => rw [hi] at hI; cases hI
  | some i =>
    rw [hi] at hI
    have hz : i.size = 4 := by simpa using hI
    refine ⟨if c + 1 = 1 then some ⟨q, o, none⟩ else some ⟨q, o + 4, none⟩, fun hn => by rw [if_neg (by omega)], fun W => ?_⟩
    have hs : (sizeOf 102).run Tryz.prog W = .ok 4 W := by simp [sizeOf, typeInfo, hi, hz]
    rw [run_sliceAt_slice W _ _ _ _ _ ht, run_slice_l W _ _ _ _ ht .i64 1 (by omega) (by omega), he, hs]
    simp only [Result.andThen, sliced]
    simp [Addr.add]
/-- how many were not told yet -/
def leftLen (w : World) (b : Nat) : Nat := match w.cell? ⟨b, 0, none⟩ with
  | some (.slice _ n _) => n
  | _ => 0
theorem left_len {w : World} {b n c : Nat} {p : Option Addr} {x y : Value} {T : TypeId} {fr : Nat × Nat} (h : w.heap[b]? = some (.cells #[.slice p n c, x, y] T fr)) : leftLen w b = n := by
  unfold leftLen; rw [at_cell h 0]; rfl
end Go.Proofs.YtnkhdpenmekhdaaGreat.Run
end

