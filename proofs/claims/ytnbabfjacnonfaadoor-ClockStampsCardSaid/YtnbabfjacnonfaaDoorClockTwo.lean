/-
  Layer 3 (clock): the number of two signs, walked.
-/
import Derived.Test.YtnbabfjacnonfaaDoorClockRef2
import Derived.Test.YtnbabfjacnonfaaDoorClockNum
import Derived.WalkSmall
namespace Go.Proofs.YtnbabfjacnonfaaDoor.Clock
open Go.RowKit Go.Proofs.YtnbabfjacnonfaaDoor.Digit

set_option maxRecDepth 100000 in
set_option maxHeartbeats 1000000 in
theorem rtwo_any (s : ByteArray) (k : Nat) (hk : k ≤ 17) (w : World) :
    Calls Tryd.prog 29 #[.string s, .int .i64 k] w fun e w' => e = .returned (.int .i64 (twoI s.data.toList k)) ∧ ∃ n, w' = w.drewN n := by
  by_cases hs : s.size < k + 2
  · have H := Lib.hid (twoI_none hs)
    go_enter Tryd.func29, Tryd.ntmps29
    go_wp2_with fail
    go_ret
    exact ⟨ret_i64 (by rw [H.out]), 0, rfl⟩
  · have hs' : k + 1 < s.size := by omega
    have h0 : k < s.size := by omega
    have H := Lib.hid (twoI_some hs')
    have e1 : ((k : Int) + 1).toNat = k + 1 := by omega
    clear hs
    by_cases c : 48 ≤ (s[k].toNat : Int) ∧ (s[k].toNat : Int) ≤ 57 ∧ 48 ≤ (s[k + 1].toNat : Int) ∧ (s[k + 1].toNat : Int) ≤ 57
    · have G := Lib.hid (H.out.trans (if_pos (by omega)))
      clear H
      obtain ⟨c1, c2, c3, c4⟩ := c
      go_enter Tryd.func29, Tryd.ntmps29
      go_wp2_with fail
      go_quiet (fail)
      go_wp2_with fail
      go_ret
      exact ⟨ret_i64 (by rw [G.out]), _, rfl⟩
    · have G := Lib.hid (H.out.trans (if_neg (by omega)))
      clear H
      have c' : (s[k].toNat : Int) < 48 ∨ (48 ≤ (s[k].toNat : Int) ∧ 57 < (s[k].toNat : Int)) ∨ (48 ≤ (s[k].toNat : Int) ∧ (s[k].toNat : Int) ≤ 57 ∧ (s[k + 1].toNat : Int) < 48) ∨ (48 ≤ (s[k].toNat : Int) ∧ (s[k].toNat : Int) ≤ 57 ∧ 48 ≤ (s[k + 1].toNat : Int) ∧ 57 < (s[k + 1].toNat : Int)) := by omega
      clear c
      rcases c' with c1 | ⟨c1, c2⟩ | ⟨c1, c2, c3⟩ | ⟨c1, c2, c3, c4⟩
      all_goals
        go_enter Tryd.func29, Tryd.ntmps29
        go_wp2_with fail
        go_ret
        exact ⟨ret_i64 (by rw [G.out]), 0, rfl⟩

theorem rtwo_calls (s : ByteArray) (k : Int) (h0 : 0 ≤ k) (h1 : k ≤ 17) (w : World) :
    Calls Tryd.prog 29 #[.string s, .int .i64 k] w fun e w' => e = .returned (.int .i64 (twoI s.data.toList k)) ∧ Below w.heap.size w w' := by
  obtain ⟨j, rfl⟩ : ∃ j : Nat, k = j := ⟨k.toNat, by omega⟩
  refine (rtwo_any s j (by omega) w).mono ?_
  rintro e w' ⟨rfl, n, rfl⟩
  exact ⟨rfl, below_drewN (Below.refl _ _) n⟩

theorem rstamp_at (t n : Int) (h : n = t) (w : World) :
    Calls Tryd.prog 14 #[.int .i64 n] w fun e w' => e = .returned (.string ⟨(stmp t).toArray⟩) ∧ w = w' := by
  subst h; exact rstamp_calls n w

end Go.Proofs.YtnbabfjacnonfaaDoor.Clock
