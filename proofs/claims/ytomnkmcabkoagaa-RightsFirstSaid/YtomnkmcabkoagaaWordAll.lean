/-
  Layer 10 (word): names and patterns as texts, walked.
-/
import Derived.Test.YtomnkmcabkoagaaWordIs
namespace Go.Proofs.Ytomnkmcabkoagaa.Word
open Go.RowKit

theorem size_list (s : ByteArray) : s.data.toList.length = s.size := rfl
theorem sized_eq (s : ByteArray) : Word.sized s.data.toList = decide (1 ≤ s.size ∧ s.size ≤ 32) := rfl

theorem ne_empty {s : ByteArray} (h : 1 ≤ s.size) : s.toList.isEmpty = false := by
  rw [ByteArray.toList_eq, List.isEmpty_eq_false_iff]
  intro h0
  have := congrArg List.length h0
  rw [size_list, List.length_nil] at this
  omega

set_option maxHeartbeats 400000 in
theorem sized_calls (s : ByteArray) (w : World) : Calls Try.prog 52 #[.string s] w fun e w' => e = .returned (.bool (Word.sized s.data.toList)) ∧ w = w' := by
  rcases (show s.size = 0 ∨ (1 ≤ s.size ∧ s.size ≤ 32) ∨ (1 ≤ s.size ∧ ¬ s.size ≤ 32) by omega) with h | ⟨h, h2⟩ | ⟨h, h2⟩
  · have H : Hid (Word.sized s.data.toList = false) := Lib.hid (by rw [sized_eq]; exact decide_eq_false (by omega))
    have he : s = ByteArray.empty := ByteArray.size_eq_zero_iff.1 h
    subst he
    go_enter Try.func52, Try.ntmps52
    go_wp2
    go_ret
    exact ⟨by rw [H.out]; rfl, rfl⟩
  · have H : Hid (Word.sized s.data.toList = true) := Lib.hid (by rw [sized_eq]; exact decide_eq_true (by omega))
    have hne := ne_empty h
    have b1 : decide ((s.size : Int) ≤ 32) = true := decide_eq_true (by omega)
    go_enter Try.func52, Try.ntmps52
    go_wp2
    go_ret
    exact ⟨by rw [H.out]; rfl, rfl⟩
  · have H : Hid (Word.sized s.data.toList = false) := Lib.hid (by rw [sized_eq]; exact decide_eq_false (by omega))
    have hne := ne_empty h
    have b1 : decide ((s.size : Int) ≤ 32) = false := decide_eq_false (by omega)
    go_enter Try.func52, Try.ntmps52
    go_wp2
    go_ret
    exact ⟨by rw [H.out]; rfl, rfl⟩

theorem all_next {p : Nat → Bool} (s : ByteArray) (k : Nat) (h : k < s.size) : allP p (s.data.toList.take (k + 1)) = (allP p (s.data.toList.take k) && p s[k].toNat) := by
  rw [take_snoc _ k (by rw [size_list]; exact h), allP_snoc]; rfl
theorem all_full {s : ByteArray} {k : Nat} (h : ¬ k < s.size) : s.data.toList.take k = s.data.toList := List.take_of_length_le (by rw [size_list]; omega)
theorem all_no {p : Nat → Bool} {l : List UInt8} {k : Nat} (h : allP p (l.take k) = false) : allP p l = false := by
  cases hc : allP p l with
  | false => rfl
  | true =>
    rw [allP, List.all_eq_true] at hc
    have : allP p (l.take k) = true := by rw [allP, List.all_eq_true]; exact fun c hcm => hc c (List.mem_of_mem_take hcm)
    rw [h] at this; cases this

set_option maxHeartbeats 1000000 in
theorem allname_calls (s : ByteArray) (hz : s.size ≤ 1000000) (w : World) : Calls Try.prog 53 #[.string s, .func (.func 56) #[] #[]] w fun e w' => e = .returned (.bool (allP inn s.data.toList)) ∧ w = w' := by
  go_enter Try.func53, Try.ntmps53
  go_wp2
  go_loop [5, 8] (fun _ i => ∃ k : Nat, k ≤ s.size ∧ i = .int .i64 k ∧ allP inn (s.data.toList.take k) = true) (fun _ i => s.size - (intOf i).toNat)
  case atStart => exact ⟨0, Nat.zero_le _, rfl, rfl⟩
  case round =>
    obtain ⟨k, hk, rfl, hp⟩ := hrel
    by_cases hlt : k < s.size
    · have HN := Lib.hid (all_next (p := inn) s k hlt)
      have HP := Lib.hid hp; clear hp
      cases hc : inn s[k].toNat with
      | true =>
        go_wp2_with (go_at_call 56; refine (inname_calls _ _).mono ?_; rintro e w' ⟨rfl, rfl⟩)
        go_round
        case rel => exact ⟨k + 1, by omega, by go_num, by rw [HN.out, HP.out, hc]; rfl⟩
        case measure => simp [intOf]; omega
      | false =>
        have HF : Hid (allP inn s.data.toList = false) := Lib.hid (all_no (k := k + 1) (by rw [HN.out, hc, Bool.and_false]))
        go_wp2_with (go_at_call 56; refine (inname_calls _ _).mono ?_; rintro e w' ⟨rfl, rfl⟩)
        go_ret
        exact ⟨by rw [HF.out]; rfl, rfl⟩
    · have HF : Hid (allP inn s.data.toList = true) := Lib.hid (by rw [← all_full hlt]; exact hp)
      clear hp
      go_wp2_with fail
      go_ret
      exact ⟨by rw [HF.out]; rfl, rfl⟩

set_option maxHeartbeats 1000000 in
theorem allpat_calls (s : ByteArray) (hz : s.size ≤ 1000000) (w : World) : Calls Try.prog 53 #[.string s, .func (.func 54) #[] #[]] w fun e w' => e = .returned (.bool (allP pat s.data.toList)) ∧ w = w' := by
  go_enter Try.func53, Try.ntmps53
  go_wp2
  go_loop [5, 8] (fun _ i => ∃ k : Nat, k ≤ s.size ∧ i = .int .i64 k ∧ allP pat (s.data.toList.take k) = true) (fun _ i => s.size - (intOf i).toNat)
  case atStart => exact ⟨0, Nat.zero_le _, rfl, rfl⟩
  case round =>
    obtain ⟨k, hk, rfl, hp⟩ := hrel
    by_cases hlt : k < s.size
    · have HN := Lib.hid (all_next (p := pat) s k hlt)
      have HP := Lib.hid hp; clear hp
      cases hc : pat s[k].toNat with
      | true =>
        go_wp2_with (go_at_call 54; refine (inpat_calls _ _).mono ?_; rintro e w' ⟨rfl, rfl⟩)
        go_round
        case rel => exact ⟨k + 1, by omega, by go_num, by rw [HN.out, HP.out, hc]; rfl⟩
        case measure => simp [intOf]; omega
      | false =>
        have HF : Hid (allP pat s.data.toList = false) := Lib.hid (all_no (k := k + 1) (by rw [HN.out, hc, Bool.and_false]))
        go_wp2_with (go_at_call 54; refine (inpat_calls _ _).mono ?_; rintro e w' ⟨rfl, rfl⟩)
        go_ret
        exact ⟨by rw [HF.out]; rfl, rfl⟩
    · have HF : Hid (allP pat s.data.toList = true) := Lib.hid (by rw [← all_full hlt]; exact hp)
      clear hp
      go_wp2_with fail
      go_ret
      exact ⟨by rw [HF.out]; rfl, rfl⟩

theorem head_at (s : ByteArray) (h : 0 < s.size) : headP ltr s.data.toList = ltr s[0].toNat := by
  have : s.data.toList = s.data.toList[0]'h :: s.data.toList.drop 1 := by rw [← List.drop_eq_getElem_cons]; rfl
  rw [this]; rfl

set_option maxHeartbeats 400000 in
theorem fits_calls (s : ByteArray) (w : World) : Calls Try.prog 49 #[.string s] w fun e w' => e = .returned (.bool (isPat s.data.toList)) ∧ w = w' := by
  cases hs : Word.sized s.data.toList with
  | false =>
    have H : Hid (isPat s.data.toList = false) := Lib.hid (by rw [isPat, hs]; rfl)
    go_enter Try.func49, Try.ntmps49
    go_wp2_with (go_at_call 52; refine (sized_calls _ _).mono ?_; rintro e w' ⟨rfl, rfl⟩)
    go_ret
    exact ⟨by rw [H.out]; rfl, rfl⟩
  | true =>
    have hz : s.size ≤ 1000000 := by have h := hs; rw [sized_eq] at h; have := of_decide_eq_true h; omega
    have H : Hid (isPat s.data.toList = allP pat s.data.toList) := Lib.hid (by rw [isPat, hs]; rfl)
    go_enter Try.func49, Try.ntmps49
    go_wp2_with (first | (go_at_call 52; refine (sized_calls _ _).mono ?_; rintro e w' ⟨rfl, rfl⟩) | (go_at_call 53; refine (allpat_calls _ hz _).mono ?_; rintro e w' ⟨rfl, rfl⟩))
    go_ret
    exact ⟨by rw [H.out]; rfl, rfl⟩

end Go.Proofs.Ytomnkmcabkoagaa.Word
