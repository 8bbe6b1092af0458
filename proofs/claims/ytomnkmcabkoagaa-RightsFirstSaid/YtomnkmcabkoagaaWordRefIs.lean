/-
  Layer 10 (word): the document's own names and patterns, walked.
-/
import Derived.Test.YtomnkmcabkoagaaWordAll
namespace Go.Proofs.Ytomnkmcabkoagaa.Word
open Go.RowKit

def okIs (l : List UInt8) (k : Nat) : Bool := Word.sized l && (allP inn (l.take k) && (decide (k = 0) || headP ltr l))
def okFits (l : List UInt8) (k : Nat) : Bool := Word.sized l && allP pat (l.take k)
theorem okIs_end (s : ByteArray) {k : Nat} (h : k = s.size) : okIs s.data.toList k = isName s.data.toList := by
  subst h
  unfold okIs isName
  rw [List.take_of_length_le (Nat.le_of_eq (size_list s))]
  by_cases h0 : s.size = 0
  · rw [sized_eq, decide_eq_false (by omega)]; rfl
  · rw [decide_eq_false h0, Bool.false_or, Bool.and_comm (headP ltr _)]
theorem okFits_end (s : ByteArray) {k : Nat} (h : k = s.size) : okFits s.data.toList k = isPat s.data.toList := by
  subst h
  unfold okFits isPat
  rw [List.take_of_length_le (Nat.le_of_eq (size_list s))]
theorem okIs_next (s : ByteArray) (k : Nat) (h : k < s.size) : okIs s.data.toList (k + 1) = (okIs s.data.toList k && (inn s[k].toNat && (decide (0 < k) || ltr s[k].toNat))) := by
  unfold okIs
  rw [all_next s k h]
  have h1 : decide (k + 1 = 0) = false := decide_eq_false (by omega)
  rw [h1]
  by_cases h0 : k = 0
  · subst h0
    rw [head_at s h]
    cases Word.sized s.data.toList <;> cases allP inn (s.data.toList.take 0) <;> cases inn s[0].toNat <;> cases ltr s[0].toNat <;> rfl
  · rw [decide_eq_false h0, decide_eq_true (show 0 < k by omega)]
    cases Word.sized s.data.toList <;> cases allP inn (s.data.toList.take k) <;> cases inn s[k].toNat <;> cases headP ltr s.data.toList <;> rfl
theorem okFits_next (s : ByteArray) (k : Nat) (h : k < s.size) : okFits s.data.toList (k + 1) = (okFits s.data.toList k && pat s[k].toNat) := by
  unfold okFits
  rw [all_next s k h, Bool.and_assoc]

set_option maxRecDepth 100000 in
set_option maxHeartbeats 1000000 in
theorem rfits_calls (s : ByteArray) (hz : s.size ≤ 1000000) (w : World) : Calls Try.prog 42 #[.string s] w fun e w' => e = .returned (.bool (isPat s.data.toList)) ∧ w = w' := by
  have H0 : Hid ((decide (1 ≤ s.size) && decide (s.size ≤ 32)) = okFits s.data.toList 0) := Lib.hid (by simp [okFits, sized_eq, allP])
  rcases (show s.size = 0 ∨ (1 ≤ s.size ∧ s.size ≤ 32) ∨ (1 ≤ s.size ∧ ¬ s.size ≤ 32) by omega) with h | ⟨h, h2⟩ | ⟨h, h2⟩
  · have b2 : decide ((1 : Int) ≤ (s.size : Int)) = decide (1 ≤ s.size) := decide_eq_decide.2 (by omega)
    go_enter Try.func42, Try.ntmps42
    go_wp2
    go_loop [3, 4] (fun b i => i = .int .i64 0 ∧ b = .bool (okFits s.data.toList 0)) (fun _ i => s.size - (intOf i).toNat)
    case atStart => exact ⟨rfl, by rw [← H0.out]; simp [h]⟩
    case round =>
      obtain ⟨rfl, rfl⟩ := hrel
      have HE := Lib.hid (okFits_end s (show 0 = s.size by omega))
      go_wp2_with fail
      go_ret
      exact ⟨by rw [← HE.out]; rfl, rfl⟩
  all_goals
    have b1 : decide ((s.size : Int) ≤ 32) = decide (s.size ≤ 32) := decide_eq_decide.2 (by omega)
    have b2 : decide ((1 : Int) ≤ (s.size : Int)) = decide (1 ≤ s.size) := decide_eq_decide.2 (by omega)
    go_enter Try.func42, Try.ntmps42
    go_wp2
    go_loop [3, 4] (fun b i => ∃ k : Nat, k ≤ s.size ∧ i = .int .i64 k ∧ b = .bool (okFits s.data.toList k)) (fun _ i => s.size - (intOf i).toNat)
    case atStart => exact ⟨0, Nat.zero_le _, rfl, by rw [← H0.out]; simp [h]; try omega⟩
    case round =>
      obtain ⟨k, hk, rfl, rfl⟩ := hrel
      by_cases hlt : k < s.size
      · have HN := Lib.hid (okFits_next s k hlt)
        cases hb : okFits s.data.toList k with
        | false =>
          go_wp2_with fail
          go_round
          case rel => exact ⟨k + 1, by omega, by go_num, by rw [HN.out, hb]; rfl⟩
          case measure => simp [intOf]; omega
        | true =>
          cases hi : inn s[k].toNat with
          | true =>
            have HN2 : Hid (okFits s.data.toList (k + 1) = true) := Lib.hid (by rw [HN.out, hb, inn_pat hi]; rfl)
            go_wp2_with (go_at_call 51; refine (rinner_calls _ _).mono ?_; rintro e w' ⟨rfl, rfl⟩)
            go_round
            case rel => exact ⟨k + 1, by omega, by go_num, by rw [HN2.out]⟩
            case measure => simp [intOf]; omega
          | false =>
            have b4 : ((s[k].toNat : Int) == 42) = decide (s[k].toNat = 42) := eq_b _ 42
            have b5 : ((s[k].toNat : Int) == 63) = decide (s[k].toNat = 63) := eq_b _ 63
            have HN2 : Hid (okFits s.data.toList (k + 1) = (decide (s[k].toNat = 42) || decide (s[k].toNat = 63))) := Lib.hid (by rw [HN.out, hb, pat, hi, Bool.decide_or]; rfl)
            rcases (show s[k].toNat = 42 ∨ s[k].toNat = 63 ∨ (s[k].toNat ≠ 42 ∧ s[k].toNat ≠ 63) by omega) with h1 | h1 | ⟨h1, h2⟩
            all_goals
              go_wp2_with (go_at_call 51; refine (rinner_calls _ _).mono ?_; rintro e w' ⟨rfl, rfl⟩)
              go_round
              case rel => exact ⟨k + 1, by omega, by go_num, by rw [HN2.out]; simp [*]⟩
              case measure => simp [intOf]; omega
      · have HE := Lib.hid (okFits_end s (show k = s.size by omega))
        go_wp2_with fail
        go_ret
        exact ⟨by rw [← HE.out]; rfl, rfl⟩

end Go.Proofs.Ytomnkmcabkoagaa.Word
