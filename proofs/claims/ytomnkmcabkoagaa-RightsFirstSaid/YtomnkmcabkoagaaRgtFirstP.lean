/-
  Layer 16 (rights): plain: an access ahead of all others, one behind them.
-/
import Derived.Test.YtomnkmcabkoagaaRgtPlain
namespace Go.Proofs.Ytomnkmcabkoagaa.Rgt
open Go.Proofs.Ytomnkmcabkoagaa.Conf

theorem lvl_ahead (x : Ac) (l : List Ac) (u c : Bs) : lvlM (x :: l) u c = bif fitA u c x then x.2.2 else lvlM l u c := by
  unfold lvlM
  cases h : fitA u c x with
  | true => rw [List.find?_cons_of_pos h]; rfl
  | false => rw [List.find?_cons_of_neg (by rw [h]; decide)]; rfl
theorem lvl_behind (x : Ac) (l : List Ac) (u c : Bs) : (lvlM (l ++ [x]) u c = lvlM l u c) ∨ (lvlM l u c = 0 ∧ fitA u c x = true ∧ lvlM (l ++ [x]) u c = x.2.2) := by
  unfold lvlM
  rw [List.find?_append]
  cases h : l.find? (fitA u c) with
  | some a => left; rfl
  | none =>
    cases hx : fitA u c x with
    | true => right; exact ⟨rfl, rfl, by simp [hx]⟩
    | false => left; simp [hx]
theorem lvl_only (a b : Bs) (k : Int) (u c : Bs) : ((lvlM [(a, b, 1)] u c == 1) : Bool) = fitA u c (a, b, k) := by
  unfold lvlM
  have e : fitA u c (a, b, 1) = fitA u c (a, b, k) := rfl
  cases h : fitA u c (a, b, k) with
  | true => rw [List.find?_cons_of_pos (by rw [e]; exact h)]; rfl
  | false => rw [List.find?_cons_of_neg (by rw [e, h]; decide)]; rfl
end Go.Proofs.Ytomnkmcabkoagaa.Rgt
