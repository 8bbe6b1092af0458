/-
  Layer 3 (clock): the program's number, walked.
-/
import Derived.Test.YtnbabfjacnonfaaDoorClockStamp
import Derived.Test.YtnbabfjacnonfaaDoorClockNum
namespace Go.Proofs.YtnbabfjacnonfaaDoor.Clock
open Go.RowKit Go.Proofs.YtnbabfjacnonfaaDoor.Digit

theorem dv_hi {c : UInt8} (h : 48 ≤ (c.toNat : Int)) : dv c = (c.toNat : Int) - 48 := if_pos (by omega)
theorem dv_lo {c : UInt8} (h : (c.toNat : Int) < 48) : dv c = (c.toNat : Int) + 208 := if_neg (by omega)

set_option maxHeartbeats 400000 in
theorem number_calls (s : ByteArray) (hs : s.size ≤ 4) (w : World) :
    Calls Tryd.prog 28 #[.string s] w fun e w' => e = .returned (.int .i64 (numV 0 s.data.toList)) ∧ w = w' := by
  go_enter Tryd.func28, Tryd.ntmps28
  go_wp2_with fail
  go_loop [3, 7] (fun n i => ∃ k : Nat, k ≤ s.size ∧ i = .int .i64 k ∧ n = .int .i64 (numV 0 (s.data.toList.take k))) (fun _ i => s.size - (intOf i).toNat)
  case atStart => exact ⟨0, Nat.zero_le _, rfl, rfl⟩
  case round =>
    obtain ⟨k, hk, rfl, rfl⟩ := hrel
    obtain ⟨hb1, hb2⟩ := numV_4 (s.data.toList.take k) (by rw [List.length_take]; omega)
    by_cases hlt : k < s.size
    · have HS := Lib.hid (numV_snoc s k hlt)
      have hc : (s[k].toNat : Int) < 256 := by have := s[k].toNat_lt; omega
      by_cases h48 : 48 ≤ (s[k].toNat : Int)
      · have HV := Lib.hid (dv_hi h48)
        go_wp2_with fail
        go_round
        case rel => exact ⟨k + 1, by omega, by go_num, by rw [HS.out, HV.out]; try go_num⟩
        case measure => simp [intOf]; omega
      · have HV := Lib.hid (dv_lo (c := s[k]) (by omega))
        have hq : IntKind.u8.wrap ((s[k].toNat : Int) - 48) = (s[k].toNat : Int) + 208 := by
          have e : ∀ x : Int, IntKind.u8.wrap x = x % 256 := fun x => by rfl
          rw [e]; omega
        go_wp2_with fail
        go_round
        case rel => exact ⟨k + 1, by omega, by go_num, by rw [HS.out, HV.out]; try go_num⟩
        case measure => simp [intOf]; omega
    · have he : s.data.toList.take k = s.data.toList := List.take_of_length_le (by show s.size ≤ k; omega)
      rw [he] at *
      clear he
      go_wp2_with fail
      go_ret
      exact ⟨rfl, rfl⟩

end Go.Proofs.YtnbabfjacnonfaaDoor.Clock
