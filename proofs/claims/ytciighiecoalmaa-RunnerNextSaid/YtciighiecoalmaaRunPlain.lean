/-
  Layer 17 (runner) in plain Lean: which steps there may be, when each is due, what is told between two times.
-/
import Derived.Test.YtciighiecoalmaaBrkOpP
import Derived.Test.YtciighiecoalmaaCalcPlain
namespace Go.Proofs.Ytciighiecoalmaa.Run
open Go.Proofs.Ytciighiecoalmaa.Calc
abbrev Op := Go.Proofs.Ytciighiecoalmaa.Brk.Op

/-- a step -/
def Is (x : Op) : Prop := (x.k = 1 ∧ x.s ≠ [] ∧ x.n = 0) ∨ (x.k = 2 ∧ x.s = [] ∧ 0 < x.n) ∨ (x.k = 3 ∧ x.s = [] ∧ x.n = 0)
instance (x : Op) : Decidable (Is x) := by unfold Is; infer_instance
theorem is_n {x : Op} (h : Is x) : 0 ≤ x.n := by rcases h with h | h | h <;> omega
theorem is_nought {x : Op} (h : Is x) (h2 : x.k ≠ 2) : x.n = 0 := by rcases h with h | h | h <;> omega
/-- the code of a step that is due then -/
def ovC (at_ : Int) (x : Op) : Int := if Is x then (if addC at_ x.n = 0 then 0 else 2) else 1
def ovV (at_ : Int) (x : Op) : Int := if ovC at_ x = 0 then at_ + x.n else 0
theorem ov_no {a : Int} {x : Op} (h : ¬ Is x) : ovC a x = 1 := by unfold ovC; rw [if_neg h]
theorem ov_far {a : Int} {x : Op} (h : Is x) (hc : addC a x.n ≠ 0) : ovC a x = 2 := by unfold ovC; rw [if_pos h, if_neg hc]
theorem ov_ok {a : Int} {x : Op} (h : Is x) (hc : addC a x.n = 0) : ovC a x = 0 := by unfold ovC; rw [if_pos h, if_pos hc]
theorem ov_inv {a : Int} {x : Op} (h : ovC a x = 0) : Is x ∧ addC a x.n = 0 := by
  unfold ovC at h
  split at h
  · split at h
    · exact ⟨by assumption, by assumption⟩
    · omega
  · omega
theorem ov_fit {a : Int} {x : Op} (ha : isT a = true) (h : Is x) : addC a x.n = 0 ↔ a + x.n ≤ 1099511627776 := by
  have hn := is_n h
  have h2 := isT_iff.1 ha
  constructor
  · intro hc
    exact (isT_iff.1 (addC_inv hc).2.2).2
  · intro hle
    exact addC_nought ha (isT_iff.2 (by omega)) (isT_iff.2 (by omega))
theorem ov_tick {a : Int} {x : Op} (h : ovC a x = 0) : isT (a + x.n) = true := (addC_inv (ov_inv h).2).2.2
theorem ov_range (a : Int) (x : Op) : ovC a x = 0 ∨ ovC a x = 1 ∨ ovC a x = 2 := by
  unfold ovC; split
  · split <;> omega
  · omega

/-- the code of steps, the first of which is due then -/
def go : Int → List Op → Int
  | _, [] => 0
  | a, x :: r => if ovC a x = 0 then go (a + x.n) r else ovC a x
def chk (now : Int) (l : List Op) : Int := if isT now = true then go now l else 1
theorem chk_out {now : Int} {l : List Op} (h : isT now = false) : chk now l = 1 := by unfold chk; rw [h]; rfl
theorem chk_in {now : Int} {l : List Op} (h : isT now = true) : chk now l = go now l := by unfold chk; rw [if_pos h]
theorem chk_inv {now : Int} {l : List Op} (h : chk now l = 0) : isT now = true ∧ go now l = 0 := by
  unfold chk at h
  split at h
  · exact ⟨by assumption, h⟩
  · omega
theorem go_ok {a : Int} {x : Op} {r : List Op} (h : ovC a x = 0) : go a (x :: r) = go (a + x.n) r := by rw [go, if_pos h]
theorem go_no {a : Int} {x : Op} {r : List Op} (h : ovC a x ≠ 0) : go a (x :: r) = ovC a x := by rw [go, if_neg h]
theorem go_inv {a : Int} {x : Op} {r : List Op} (h : go a (x :: r) = 0) : ovC a x = 0 ∧ go (a + x.n) r = 0 := by
  rw [go] at h
  split at h
  · exact ⟨by assumption, h⟩
  · contradiction
/-- when all is done -/
def ends : Int → List Op → Int
  | a, [] => a
  | a, x :: r => ends (a + x.n) r
/-- each step with the time when it is due -/
def tm : Int → List Op → List (Int × Op)
  | _, [] => []
  | a, x :: r => (a, x) :: tm (a + x.n) r
/-- the sends and breaks, each with the time when it is due -/
def dues : Int → List Op → List (Int × Op)
  | _, [] => []
  | a, x :: r => if x.k = 2 then dues (a + x.n) r else (a, x) :: dues (a + x.n) r
theorem dues_wait {a : Int} {x : Op} {r : List Op} (h : x.k = 2) : dues a (x :: r) = dues (a + x.n) r := by rw [dues, if_pos h]
theorem dues_one {a : Int} {x : Op} {r : List Op} (h : x.k ≠ 2) : dues a (x :: r) = (a, x) :: dues (a + x.n) r := by rw [dues, if_neg h]
theorem dues_len (a : Int) (l : List Op) : (dues a l).length ≤ l.length := by
  induction l generalizing a with
  | nil => exact Nat.le_refl _
  | cons x r ih =>
    by_cases h : x.k = 2
    · rw [dues_wait h]; have := ih (a + x.n); simp; omega
    · rw [dues_one h]; have := ih (a + x.n); simp; omega
theorem ends_ge {a : Int} {l : List Op} (h : go a l = 0) : a ≤ ends a l := by
  induction l generalizing a with
  | nil => exact Int.le_refl _
  | cons x r ih =>
    obtain ⟨h1, h2⟩ := go_inv h
    have := ih h2
    have := is_n (ov_inv h1).1
    rw [ends]; omega
theorem ends_tick {a : Int} {l : List Op} (ha : isT a = true) (h : go a l = 0) : isT (ends a l) = true := by
  induction l generalizing a with
  | nil => exact ha
  | cons x r ih =>
    obtain ⟨h1, h2⟩ := go_inv h
    rw [ends]
    exact ih (ov_tick h1) h2
theorem dues_range {a : Int} {l : List Op} (h : go a l = 0) : ∀ p ∈ dues a l, a ≤ p.1 ∧ p.1 ≤ ends a l := by
  induction l generalizing a with
  | nil => intro p hp; cases hp
  | cons x r ih =>
    obtain ⟨h1, h2⟩ := go_inv h
    have hn := is_n (ov_inv h1).1
    have he := ends_ge h2
    intro p hp
    rw [ends]
    by_cases hk : x.k = 2
    · rw [dues_wait hk] at hp
      have := ih h2 p hp; omega
    · rw [dues_one hk] at hp
      rcases List.mem_cons.1 hp with rfl | hp
      · have := ends_ge h2
        exact ⟨Int.le_refl _, by show a ≤ _; omega⟩
      · have := ih h2 p hp; omega
theorem dues_sorted {a : Int} {l : List Op} (h : go a l = 0) : (dues a l).Pairwise (fun p q => p.1 ≤ q.1) := by
  induction l generalizing a with
  | nil => exact .nil
  | cons x r ih =>
    obtain ⟨h1, h2⟩ := go_inv h
    have hn := is_n (ov_inv h1).1
    by_cases hk : x.k = 2
    · rw [dues_wait hk]; exact ih h2
    · rw [dues_one hk]
      refine .cons (fun p hp => ?_) (ih h2)
      have := dues_range h2 p hp
      show a ≤ p.1; omega
/-- what is left behind a time -/
def rest (D : List (Int × Op)) (was : Int) : List (Int × Op) := D.filter fun p => decide (was < p.1)
/-- what is told behind one time, and up to another one -/
def told (D : List (Int × Op)) (was to : Int) : List Op := (D.filter fun p => decide (was < p.1) && decide (p.1 ≤ to)).map (·.2)
theorem rest_all {D : List (Int × Op)} {was : Int} (h : ∀ p ∈ D, was < p.1) : rest D was = D := by
  unfold rest; rw [List.filter_eq_self]; intro p hp; simpa using h p hp
theorem rest_none {D : List (Int × Op)} {was : Int} (h : ∀ p ∈ D, p.1 ≤ was) : rest D was = [] := by
  unfold rest; rw [List.filter_eq_nil_iff]; intro p hp; have := h p hp; simp; omega
theorem told_none {D : List (Int × Op)} {was to : Int} (h : ∀ p ∈ D, p.1 ≤ was) : told D was to = [] := by
  unfold told; rw [List.map_eq_nil_iff, List.filter_eq_nil_iff]; intro p hp; have := h p hp; simp; omega
theorem told_back {D : List (Int × Op)} {was to : Int} (h : to ≤ was) : told D was to = [] := by
  unfold told; rw [List.map_eq_nil_iff, List.filter_eq_nil_iff]; intro p hp; simp; omega
theorem told_all {D : List (Int × Op)} {was to : Int} (h : ∀ p ∈ D, was < p.1 ∧ p.1 ≤ to) : told D was to = D.map (·.2) := by
  unfold told; congr 1; rw [List.filter_eq_self]; intro p hp; simpa using h p hp
theorem told_len (D : List (Int × Op)) (was to : Int) : (told D was to).length ≤ D.length := by
  unfold told; rw [List.length_map]; exact List.length_filter_le _ _
/-- what is left stands in order: what is due is at its head -/
theorem take_told {D : List (Int × Op)} {was to : Int} (h : D.Pairwise (fun p q => p.1 ≤ q.1)) : ((rest D was).takeWhile fun p => decide (p.1 ≤ to)).map (·.2) = told D was to := by
  unfold rest told
  congr 1
  induction D with
  | nil => rfl
  | cons p r ih =>
    have hr := (List.pairwise_cons.1 h).2
    have hp := (List.pairwise_cons.1 h).1
    by_cases h1 : was < p.1
    · by_cases h2 : p.1 ≤ to
      · rw [List.filter_cons, List.filter_cons]; simp only [h1, h2, decide_true, Bool.and_self, if_true, List.takeWhile_cons]; rw [ih hr]
      · rw [List.filter_cons, List.filter_cons]; simp only [h1, h2, decide_true, decide_false, Bool.and_false, if_true, List.takeWhile_cons]
        have : ∀ q ∈ r, ¬ q.1 ≤ to := fun q hq => by have := hp q hq; omega
        symm
        simp only [Bool.false_eq_true, if_false]
        rw [List.filter_eq_nil_iff]; intro q hq; have := this q hq; simp; omega
    · rw [List.filter_cons, List.filter_cons]; simp only [h1, decide_false, Bool.false_and, Bool.false_eq_true, if_false]; exact ih hr
theorem drop_rest {D : List (Int × Op)} {was to : Int} (hwt : was ≤ to) (h : D.Pairwise (fun p q => p.1 ≤ q.1)) : (rest D was).dropWhile (fun p => decide (p.1 ≤ to)) = rest D to := by
  unfold rest
  induction D with
  | nil => rfl
  | cons p r ih =>
    have hr := (List.pairwise_cons.1 h).2
    have hp := (List.pairwise_cons.1 h).1
    by_cases h1 : was < p.1
    · by_cases h2 : p.1 ≤ to
      · rw [List.filter_cons, List.filter_cons, if_pos (by simpa using h1), if_neg (by simp; omega), List.dropWhile_cons, if_pos (by simpa using h2)]; exact ih hr
      · rw [List.filter_cons, List.filter_cons, if_pos (by simpa using h1), if_pos (by simp; omega), List.dropWhile_cons, if_neg (by simpa using h2)]
        congr 1
        rw [List.filter_congr]; intro q hq; have := hp q hq; simp; omega
    · rw [List.filter_cons, List.filter_cons, if_neg (by simpa using h1), if_neg (by simp; omega)]; exact ih hr
/-- told in two pieces, told at once -/
theorem told_two {D : List (Int × Op)} {a b c : Int} (hab : a ≤ b) (hbc : b ≤ c) (h : D.Pairwise (fun p q => p.1 ≤ q.1)) : told D a b ++ told D b c = told D a c := by
  unfold told
  rw [← List.map_append]
  congr 1
  induction D with
  | nil => rfl
  | cons p r ih =>
    have hr := (List.pairwise_cons.1 h).2
    have hp := (List.pairwise_cons.1 h).1
    by_cases h1 : a < p.1
    · by_cases h2 : p.1 ≤ b
      · rw [List.filter_cons, List.filter_cons, List.filter_cons, if_pos (by simp; omega), if_neg (by simp; omega), if_pos (by simp; omega), List.cons_append, ih hr]
      · have e : (p :: r).filter (fun q => decide (a < q.1) && decide (q.1 ≤ b)) = [] := by
          rw [List.filter_eq_nil_iff]; intro q hq
          rcases List.mem_cons.1 hq with rfl | hq
          · simp; omega
          · have := hp q hq; simp; omega
        rw [e, List.nil_append, List.filter_congr]
        intro q hq
        rcases List.mem_cons.1 hq with rfl | hq
        · have e1 : decide (a < q.1) = true := by simpa using h1
          have e2 : decide (b < q.1) = true := by simp; omega
          rw [e1, e2]
        · have := hp q hq
          have e1 : decide (a < q.1) = true := by simp; omega
          have e2 : decide (b < q.1) = true := by simp; omega
          rw [e1, e2]
    · rw [List.filter_cons, List.filter_cons, List.filter_cons, if_neg (by simp; omega), if_neg (by simp; omega), if_neg (by simp; omega), ih hr]
theorem dues_steps {a : Int} {l : List Op} : (dues a l).map (·.2) = l.filter fun x => decide (x.k ≠ 2) := by
  induction l generalizing a with
  | nil => rfl
  | cons x r ih =>
    by_cases hk : x.k = 2
    · rw [dues_wait hk, List.filter_cons, if_neg (by simpa using hk)]; exact ih
    · rw [dues_one hk, List.filter_cons, if_pos (by simpa using hk), List.map_cons, ih]
/-- when there is something to do next, behind a time -/
def nxV (D : List (Int × Op)) (E was : Int) : Int := if was < E then (match rest D was with | [] => E | p :: _ => p.1) else 0
theorem nx_done {D : List (Int × Op)} {E was : Int} (h : E ≤ was) : nxV D E was = 0 := by unfold nxV; rw [if_neg (by omega)]
theorem nx_none {D : List (Int × Op)} {E was : Int} (h : was < E) (hr : rest D was = []) : nxV D E was = E := by unfold nxV; rw [if_pos h, hr]
theorem nx_some {D r : List (Int × Op)} {p : Int × Op} {E was : Int} (h : was < E) (hr : rest D was = p :: r) : nxV D E was = p.1 := by unfold nxV; rw [if_pos h, hr]
end Go.Proofs.Ytciighiecoalmaa.Run
