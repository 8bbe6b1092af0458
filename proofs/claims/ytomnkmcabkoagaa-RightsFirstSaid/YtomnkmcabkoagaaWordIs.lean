/-
  Layer 10 (word): names and patterns, walked: the program's and the document's.
-/
import Derived.Test.YtomnkmcabkoagaaProg
import Derived.Test.YtomnkmcabkoagaaWordPlain
import Derived.WalkKit
import Derived.Lib.Hide
namespace Go.Proofs.Ytomnkmcabkoagaa.Word
open Go.RowKit

theorem five (n : Nat) : (97 ≤ n ∧ n ≤ 122 ∧ 65 ≤ n ∧ ¬ n ≤ 90) ∨ (97 ≤ n ∧ ¬ n ≤ 122 ∧ 65 ≤ n ∧ ¬ n ≤ 90) ∨ (¬ 97 ≤ n ∧ n ≤ 122 ∧ 65 ≤ n ∧ ¬ n ≤ 90) ∨ (¬ 97 ≤ n ∧ n ≤ 122 ∧ 65 ≤ n ∧ n ≤ 90) ∨ (¬ 97 ≤ n ∧ n ≤ 122 ∧ ¬ 65 ≤ n ∧ n ≤ 90) := by omega
theorem six (n : Nat) : (48 ≤ n ∧ n ≤ 57 ∧ n ≠ 45 ∧ n ≠ 95 ∧ n ≠ 46) ∨ n = 45 ∨ n = 95 ∨ n = 46 ∨ (48 ≤ n ∧ ¬ n ≤ 57 ∧ n ≠ 45 ∧ n ≠ 95 ∧ n ≠ 46) ∨ (¬ 48 ≤ n ∧ n ≤ 57 ∧ n ≠ 45 ∧ n ≠ 95 ∧ n ≠ 46) := by omega
theorem bools {n k : Nat} : (n ≤ k → decide ((n : Int) ≤ (k : Int)) = true) ∧ (¬ n ≤ k → decide ((n : Int) ≤ (k : Int)) = false) ∧ (k ≤ n → decide ((k : Int) ≤ (n : Int)) = true) ∧ (¬ k ≤ n → decide ((k : Int) ≤ (n : Int)) = false) := by
  refine ⟨fun h => decide_eq_true (by omega), fun h => decide_eq_false (by omega), fun h => decide_eq_true (by omega), fun h => decide_eq_false (by omega)⟩
theorem eq_b (n k : Nat) : ((n : Int) == (k : Int)) = decide (n = k) := by rw [Bool.eq_iff_iff]; simp; omega
theorem ltr_yes {n : Nat} (h : 97 ≤ n ∧ n ≤ 122 ∨ 65 ≤ n ∧ n ≤ 90) : ltr n = true := decide_eq_true h
theorem ltr_no {n : Nat} (h : ¬ (97 ≤ n ∧ n ≤ 122 ∨ 65 ≤ n ∧ n ≤ 90)) : ltr n = false := decide_eq_false h
theorem inn_yes {n : Nat} (h : ltr n = true ∨ (48 ≤ n ∧ n ≤ 57 ∨ n = 45 ∨ n = 95 ∨ n = 46)) : inn n = true := by
  rcases h with h | h
  · simp [inn, h]
  · unfold inn; rw [decide_eq_true h, Bool.or_true]
theorem pat_yes {n : Nat} (h : n = 42 ∨ n = 63) : pat n = true := by unfold pat; rw [decide_eq_true h, Bool.or_true]
theorem pat_no {n : Nat} (h : inn n = false) (h2 : ¬ (n = 42 ∨ n = 63)) : pat n = false := by unfold pat; rw [h, decide_eq_false h2]; rfl
theorem inn_no {n : Nat} (h : ltr n = false) (h2 : ¬ (48 ≤ n ∧ n ≤ 57 ∨ n = 45 ∨ n = 95 ∨ n = 46)) : inn n = false := by
  unfold inn; rw [h, decide_eq_false h2]; rfl

set_option maxHeartbeats 400000 in
theorem letter_calls (n : Nat) (w : World) : Calls Try.prog 57 #[.int .u8 n] w fun e w' => e = .returned (.bool (ltr n)) ∧ w = w' := by
  rcases five n with ⟨h1, h2, h3, h4⟩ | ⟨h1, h2, h3, h4⟩ | ⟨h1, h2, h3, h4⟩ | ⟨h1, h2, h3, h4⟩ | ⟨h1, h2, h3, h4⟩
  all_goals
    have H : Hid (ltr n = _) := Lib.hid (by first | exact ltr_yes (by omega) | exact ltr_no (by omega))
    have b1 : decide ((n : Int) ≤ 122) = decide (n ≤ 122) := decide_eq_decide.2 (by omega)
    have b2 : decide ((n : Int) ≤ 90) = decide (n ≤ 90) := decide_eq_decide.2 (by omega)
    go_enter Try.func57, Try.ntmps57
    go_wp2
    go_ret
    exact ⟨by rw [H.out]; rfl, rfl⟩

set_option maxHeartbeats 400000 in
theorem rletter_calls (n : Nat) (w : World) : Calls Try.prog 55 #[.int .u8 n] w fun e w' => e = .returned (.bool (ltr n)) ∧ w = w' := by
  rcases five n with ⟨h1, h2, h3, h4⟩ | ⟨h1, h2, h3, h4⟩ | ⟨h1, h2, h3, h4⟩ | ⟨h1, h2, h3, h4⟩ | ⟨h1, h2, h3, h4⟩
  all_goals
    have H : Hid (ltr n = _) := Lib.hid (by first | exact ltr_yes (by omega) | exact ltr_no (by omega))
    have b1 : decide ((n : Int) ≤ 122) = decide (n ≤ 122) := decide_eq_decide.2 (by omega)
    have b2 : decide ((n : Int) ≤ 90) = decide (n ≤ 90) := decide_eq_decide.2 (by omega)
    go_enter Try.func55, Try.ntmps55
    go_wp2
    go_ret
    exact ⟨by rw [H.out]; rfl, rfl⟩

set_option maxHeartbeats 400000 in
theorem inname_calls (n : Nat) (w : World) : Calls Try.prog 56 #[.int .u8 n] w fun e w' => e = .returned (.bool (inn n)) ∧ w = w' := by
  cases hl : ltr n with
  | true =>
    have H := Lib.hid (inn_yes (.inl hl))
    go_enter Try.func56, Try.ntmps56
    go_wp2_with (go_at_call 57; refine (letter_calls _ _).mono ?_; rintro e w' ⟨rfl, rfl⟩)
    go_ret
    exact ⟨by rw [H.out]; rfl, rfl⟩
  | false =>
    rcases six n with ⟨h1, h2, h3, h4, h5⟩ | h1 | h1 | h1 | ⟨h1, h2, h3, h4, h5⟩ | ⟨h1, h2, h3, h4, h5⟩
    all_goals
      have H : Hid (inn n = _) := Lib.hid (by first | exact inn_yes (.inr (by omega)) | exact inn_no hl (by omega))
      have c1 : decide ((n : Int) ≤ 57) = decide (n ≤ 57) := decide_eq_decide.2 (by omega)
      have c2 : ((n : Int) == 45) = decide (n = 45) := eq_b n 45; have c3 : ((n : Int) == 95) = decide (n = 95) := eq_b n 95; have c4 : ((n : Int) == 46) = decide (n = 46) := eq_b n 46
      go_enter Try.func56, Try.ntmps56
      go_wp2_with (go_at_call 57; refine (letter_calls _ _).mono ?_; rintro e w' ⟨rfl, rfl⟩)
      go_ret
      exact ⟨by rw [H.out]; rfl, rfl⟩

set_option maxHeartbeats 400000 in
theorem rinner_calls (n : Nat) (w : World) : Calls Try.prog 51 #[.int .u8 n] w fun e w' => e = .returned (.bool (inn n)) ∧ w = w' := by
  cases hl : ltr n with
  | true =>
    have H := Lib.hid (inn_yes (.inl hl))
    go_enter Try.func51, Try.ntmps51
    go_wp2_with (go_at_call 55; refine (rletter_calls _ _).mono ?_; rintro e w' ⟨rfl, rfl⟩)
    go_ret
    exact ⟨by rw [H.out]; rfl, rfl⟩
  | false =>
    rcases six n with ⟨h1, h2, h3, h4, h5⟩ | h1 | h1 | h1 | ⟨h1, h2, h3, h4, h5⟩ | ⟨h1, h2, h3, h4, h5⟩
    all_goals
      have H : Hid (inn n = _) := Lib.hid (by first | exact inn_yes (.inr (by omega)) | exact inn_no hl (by omega))
      have c1 : decide ((n : Int) ≤ 57) = decide (n ≤ 57) := decide_eq_decide.2 (by omega)
      have c2 : ((n : Int) == 45) = decide (n = 45) := eq_b n 45; have c3 : ((n : Int) == 95) = decide (n = 95) := eq_b n 95; have c4 : ((n : Int) == 46) = decide (n = 46) := eq_b n 46
      go_enter Try.func51, Try.ntmps51
      go_wp2_with (go_at_call 55; refine (rletter_calls _ _).mono ?_; rintro e w' ⟨rfl, rfl⟩)
      go_ret
      exact ⟨by rw [H.out]; rfl, rfl⟩

set_option maxHeartbeats 400000 in
theorem inpat_calls (n : Nat) (w : World) : Calls Try.prog 54 #[.int .u8 n] w fun e w' => e = .returned (.bool (pat n)) ∧ w = w' := by
  cases hl : inn n with
  | true =>
    have H : Hid (pat n = true) := Lib.hid (inn_pat hl)
    go_enter Try.func54, Try.ntmps54
    go_wp2_with (go_at_call 56; refine (inname_calls _ _).mono ?_; rintro e w' ⟨rfl, rfl⟩)
    go_ret
    exact ⟨by rw [H.out]; rfl, rfl⟩
  | false =>
    rcases (show n = 42 ∨ n = 63 ∨ (n ≠ 42 ∧ n ≠ 63) by omega) with h1 | h1 | ⟨h1, h2⟩
    all_goals
      have H : Hid (pat n = _) := Lib.hid (by first | exact pat_yes (by omega) | exact pat_no hl (by omega))
      have c2 : ((n : Int) == 42) = decide (n = 42) := eq_b n 42; have c3 : ((n : Int) == 63) = decide (n = 63) := eq_b n 63
      go_enter Try.func54, Try.ntmps54
      go_wp2_with (go_at_call 56; refine (inname_calls _ _).mono ?_; rintro e w' ⟨rfl, rfl⟩)
      go_ret
      exact ⟨by rw [H.out]; rfl, rfl⟩

end Go.Proofs.Ytomnkmcabkoagaa.Word
