/-
  Layer 2 (digit): the document's own Read, walked.
-/
import Derived.Test.YtpdjjcgffnkhcaaDigitRef
namespace Go.Proofs.Ytpdjjcgffnkhcaa.Digit
open Go.RowKit

theorem size_list (s : ByteArray) : s.data.toList.length = s.size := rfl

set_option maxRecDepth 100000 in
set_option maxHeartbeats 400000 in
theorem rread_some (s : ByteArray) (t : Int) (ht : IsTick s.data.toList t) (w : World) :
    Calls Try.prog 13 #[.string s] w fun e w' => e = .returned (.tuple #[.int .i64 t, .int .i64 0]) ∧ w = w' := by
  obtain ⟨hs, hl⟩ := tick_scan ht
  obtain ⟨t0, t1, hd⟩ := ht
  rw [size_list] at hl
  have H := Lib.hid hs; have D := Lib.hid hd; clear hs hd
  go_enter Try.func13, Try.ntmps13
  go_wp2
  go_loop [4, 5] (fun n i => ∃ k : Nat, k ≤ s.size ∧ i = .int .i64 k ∧ n = .int .i64 (scan 0 (s.data.toList.take k))) (fun _ i => s.size - (intOf i).toNat)
  case atStart => exact ⟨0, Nat.zero_le _, rfl, rfl⟩
  case round =>
    obtain ⟨k, hk, rfl, rfl⟩ := hrel
    obtain ⟨hb1, hb2⟩ := scan_14 (s.data.toList.take k) (by rw [List.length_take, size_list]; omega)
    by_cases hlt : k < s.size
    · have HS := Lib.hid (scan_snoc s k hlt)
      have hc : (s[k].toNat : Int) < 256 := by have := s[k].toNat_lt; omega
      go_wp2_with fail
      go_round
      case rel => exact ⟨k + 1, by omega, by go_num, by rw [HS.out]⟩
      case measure => simp [intOf]; omega
    · have he : s.data.toList.take k = s.data.toList := List.take_of_length_le (by rw [size_list]; omega)
      rw [he, H.out]
      clear he
      have hx : (dec t == s.toList) = true := by rw [D.out, ByteArray.toList_eq]; simp
      go_wp2_with (go_at_call 8; refine (rput_calls _ (by omega) (by omega) _).mono ?_; rintro e w' ⟨rfl, rfl⟩)
      go_ret2
      exact ⟨rfl, rfl⟩

set_option maxRecDepth 100000 in
set_option maxHeartbeats 400000 in
theorem rread_none (s : ByteArray) (hs : s.size ≤ 9223372036854775807) (ht : ¬ ∃ t, IsTick s.data.toList t) (w : World) :
    Calls Try.prog 13 #[.string s] w fun e w' => e = .returned (.tuple #[.int .i64 0, .int .i64 3]) ∧ w = w' := by
  have H := Lib.hid ht; clear ht
  go_enter Try.func13, Try.ntmps13
  go_wp2
  go_loop [4, 5] (fun n i => ∃ k : Nat, k ≤ s.size ∧ k ≤ 14 ∧ i = .int .i64 k ∧ n = .int .i64 (scan 0 (s.data.toList.take k))) (fun _ i => s.size - (intOf i).toNat)
  case atStart => exact ⟨0, Nat.zero_le _, by omega, rfl, rfl⟩
  case round =>
    obtain ⟨k, hk, hk14, rfl, rfl⟩ := hrel
    obtain ⟨hb1, hb2⟩ := scan_14 (s.data.toList.take k) (by rw [List.length_take, size_list]; omega)
    by_cases hlt : k < s.size ∧ k < 14
    · obtain ⟨hlt, h14⟩ := hlt
      have HS := Lib.hid (scan_snoc s k hlt)
      have hc : (s[k].toNat : Int) < 256 := by have := s[k].toNat_lt; omega
      go_wp2_with fail
      go_round
      case rel => exact ⟨k + 1, by omega, by omega, by go_num, by rw [HS.out]⟩
      case measure => simp [intOf]; omega
    · generalize scan 0 (s.data.toList.take k) = n at hb1 hb2
      have hn : n < 0 ∨ 1099511627776 < n ∨ 0 ≤ n ∧ n ≤ 1099511627776 ∧ (dec n == s.toList) = false := by
        by_cases h0 : n < 0
        · exact .inl h0
        · by_cases h1 : 1099511627776 < n
          · exact .inr (.inl h1)
          · refine .inr (.inr ⟨by omega, by omega, ?_⟩)
            rw [beq_eq_false_iff_ne]
            exact fun h => H.out ⟨n, by omega, by omega, by rw [h, ByteArray.toList_eq]⟩
      by_cases hlt' : k < s.size
      · obtain rfl : k = 14 := by omega
        clear hlt
        rcases hn with hn | hn | ⟨hn0, hn1, hn2⟩
        all_goals
          go_wp2_with (go_at_call 8; refine (rput_calls _ (by omega) (by omega) _).mono ?_; rintro e w' ⟨rfl, rfl⟩)
          go_ret2
          exact ⟨rfl, rfl⟩
      · obtain rfl : k = s.size := by omega
        clear hlt
        rcases hn with hn | hn | ⟨hn0, hn1, hn2⟩
        all_goals
          go_wp2_with (go_at_call 8; refine (rput_calls _ (by omega) (by omega) _).mono ?_; rintro e w' ⟨rfl, rfl⟩)
          go_ret2
          exact ⟨rfl, rfl⟩

theorem rread_calls (s : ByteArray) (hs : s.size ≤ 9223372036854775807) (w : World) :
    Calls Try.prog 13 #[.string s] w fun e w' => e = .returned (.tuple #[.int .i64 (rdV s.data.toList), .int .i64 (rdC s.data.toList)]) ∧ w = w' := by
  by_cases h : ∃ t, IsTick s.data.toList t
  · obtain ⟨t, ht⟩ := h
    obtain ⟨h1, h2⟩ := rd_some ht
    rw [h1, h2]
    exact rread_some s t ht w
  · obtain ⟨h1, h2⟩ := rd_none h
    rw [h1, h2]
    exact rread_none s hs h w

end Go.Proofs.Ytpdjjcgffnkhcaa.Digit
