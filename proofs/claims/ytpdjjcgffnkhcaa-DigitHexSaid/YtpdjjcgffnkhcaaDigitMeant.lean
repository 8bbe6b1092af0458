/-
  Layer 2 (digit): the program's meant, walked.
-/
import Derived.Test.YtpdjjcgffnkhcaaDigitReadHex
namespace Go.Proofs.Ytpdjjcgffnkhcaa.Digit
open Go.RowKit

theorem cut_two (s : ByteArray) (h : 2 ≤ s.size) : List.take ((min 4 (s.size : Int)).toNat - 2) (s.data.toList.drop 2) = (s.data.toList.drop 2).take 2 := by
  by_cases h4 : 4 ≤ s.size
  · rw [show (min 4 (s.size : Int)).toNat - 2 = 2 by omega]
  · have hl : (s.data.toList.drop 2).length = s.size - 2 := by rw [List.length_drop, size_list]
    rw [List.take_of_length_le (by omega), List.take_of_length_le (by omega)]

set_option maxHeartbeats 400000 in
theorem meant_calls (s : ByteArray) (hs : 0 < s.size) (hs2 : s.size ≤ 100000) (w : World) :
    Calls Try.prog 27 #[.string s] w fun e w' => e = .returned (.int .u8 (mean s.data.toList : Int)) ∧ w = w' := by
  by_cases h0 : (s[0].toNat : Int) = 92
  · by_cases h1 : s.size = 1
    · have H := Lib.hid (mean_lone s h1)
      go_enter Try.func27, Try.ntmps27
      go_wp2_with fail
      go_ret
      exact ⟨ret_u8 (by rw [H.out]; exact h0.symm), rfl⟩
    · have h2 : 1 < s.size := by omega
      have H := Lib.hid (mean_sign s h2 h0)
      by_cases c1 : (s[1].toNat : Int) = 110
      · go_enter Try.func27, Try.ntmps27
        go_wp2_with fail
        go_ret
        exact ⟨ret_u8 (by rw [H.out, if_pos c1]; rfl), rfl⟩
      by_cases c2 : (s[1].toNat : Int) = 114
      · go_enter Try.func27, Try.ntmps27
        go_wp2_with fail
        go_ret
        exact ⟨ret_u8 (by rw [H.out, if_neg c1, if_pos c2]; rfl), rfl⟩
      by_cases c3 : (s[1].toNat : Int) = 116
      · go_enter Try.func27, Try.ntmps27
        go_wp2_with fail
        go_ret
        exact ⟨ret_u8 (by rw [H.out, if_neg c1, if_neg c2, if_pos c3]; rfl), rfl⟩
      by_cases c4 : (s[1].toNat : Int) = 120
      · go_enter Try.func27, Try.ntmps27
        go_wp2_with (go_at_call 14; refine (readhex_calls _ _).mono ?_; rintro e w' ⟨rfl, rfl⟩)
        go_ret
        exact ⟨ret_u8 (by rw [H.out, if_neg c1, if_neg c2, if_neg c3, if_pos c4, cut_two s (by omega)]; have := rhV_bd ((s.data.toList.drop 2).take 2); omega), rfl⟩
      · go_enter Try.func27, Try.ntmps27
        go_wp2_with fail
        go_ret
        exact ⟨ret_u8 (by rw [H.out, if_neg c1, if_neg c2, if_neg c3, if_neg c4]; rfl), rfl⟩
  · have H := Lib.hid (mean_plain s hs h0)
    go_enter Try.func27, Try.ntmps27
    go_wp2_with fail
    go_ret
    exact ⟨ret_u8 (by rw [H.out]), rfl⟩

end Go.Proofs.Ytpdjjcgffnkhcaa.Digit
