/-
  Layer 3 (clock): the walks of the four laws.
-/
import Derived.Test.YtnbabfjacnonfaaDoorClockWorks
namespace Go.Proofs.YtnbabfjacnonfaaDoor.Clock
open Go.RowKit Go.Proofs.YtnbabfjacnonfaaDoor.Digit

theorem wf_i64 {n : Int} (h : (Lit.int .i64 n).wf = true) : -9223372036854775808 ≤ n ∧ n ≤ 9223372036854775807 := by
  simpa [Lit.wf, IntKind.min, IntKind.max, IntKind.bits, IntKind.signed] using h
theorem wf_u64 {n : Int} (h : (Lit.int .u64 n).wf = true) : 0 ≤ n ∧ n ≤ 18446744073709551615 := by
  simpa [Lit.wf, IntKind.min, IntKind.max, IntKind.bits, IntKind.signed] using h

set_option maxRecDepth 100000 in
set_option maxHeartbeats 1000000 in
theorem stamps_walk (n : Int) (w : World) (hM : Months w) :
    Calls Tryd.prog 3 #[.int .i64 n] w fun e w' => e = .returned (.bool true) ∧ Below w.heap.size w w' := by
  replace hM := Lib.hid hM
  have hB := Below.refl w.heap.size w
  by_cases h : n < 0 ∨ 252455615999 < n
  · have H := Lib.hid h
    clear h
    go_enter Tryd.func3, Tryd.ntmps3
    go_wp2_with (first | (go_at_call 7; refine (date_none _ H.out _).mono ?_; rintro e w' ⟨rfl, rfl⟩) | (go_at_call 8; refine (rdate_none _ H.out _).mono ?_; rintro e w' ⟨rfl, rfl⟩) | (go_at_call 9; refine (time_none _ H.out _).mono ?_; rintro e w' ⟨rfl, rfl⟩) | (go_at_call 10; refine (rtime_none _ H.out _).mono ?_; rintro e w' ⟨rfl, rfl⟩) | (go_at_call 11; refine (weekday_none _ H.out _).mono ?_; rintro e w' ⟨rfl, rfl⟩) | (go_at_call 12; refine (rweekday_none _ H.out _).mono ?_; rintro e w' ⟨rfl, rfl⟩) | (go_at_call 13; refine (stamp_calls _ _ hM.out).mono ?_; rintro e w' ⟨rfl, hb⟩; replace hM := Lib.hid (hM.out.below hb); replace hB := hB.trans (hb.mono hB.size); clear hb) | (go_at_call 14; refine (rstamp_calls _ _).mono ?_; rintro e w' ⟨rfl, rfl⟩) | (go_at_call 15; refine (works_calls _ hM.out).mono ?_; rintro e w' ⟨rfl, hb⟩; replace hB := hB.trans (hb.mono hB.size); clear hb))
    go_ret
    exact ⟨rfl, hB⟩
  · obtain ⟨h0, h1⟩ : 0 ≤ n ∧ n ≤ 252455615999 := by omega
    obtain ⟨y, m, d, hd, -⟩ := has_day h0 h1
    have HD := Lib.hid hd
    clear h hd
    go_enter Tryd.func3, Tryd.ntmps3
    go_wp2_with (first | (go_at_call 7; refine (date_some _ y m d (by omega) (by omega) HD.out _ hM.out).mono ?_; rintro e w' ⟨rfl, rfl⟩) | (go_at_call 8; refine (rdate_some _ y m d (by omega) (by omega) HD.out _).mono ?_; rintro e w' ⟨rfl, rfl⟩) | (go_at_call 9; refine (time_some _ (by omega) (by omega) _).mono ?_; rintro e w' ⟨rfl, rfl⟩) | (go_at_call 10; refine (rtime_some _ (by omega) (by omega) _).mono ?_; rintro e w' ⟨rfl, rfl⟩) | (go_at_call 11; refine (weekday_some _ (by omega) (by omega) _).mono ?_; rintro e w' ⟨rfl, rfl⟩) | (go_at_call 12; refine (rweekday_some _ (by omega) (by omega) _).mono ?_; rintro e w' ⟨rfl, rfl⟩) | (go_at_call 13; refine (stamp_calls _ _ hM.out).mono ?_; rintro e w' ⟨rfl, hb⟩; replace hM := Lib.hid (hM.out.below hb); replace hB := hB.trans (hb.mono hB.size); clear hb) | (go_at_call 14; refine (rstamp_calls _ _).mono ?_; rintro e w' ⟨rfl, rfl⟩) | (go_at_call 15; refine (works_calls _ hM.out).mono ?_; rintro e w' ⟨rfl, hb⟩; replace hB := hB.trans (hb.mono hB.size); clear hb))
    go_ret
    exact ⟨rfl, hB⟩

theorem read_back (t : Int) (h0 : 0 ≤ t) (h1 : t ≤ 252455615999) (w : World) (hM : Months w) :
    Calls Tryd.prog 16 #[.string ⟨(stmp t).toArray⟩] w fun e w' => e = .returned (.tuple #[.int .i64 t, .int .i64 0]) ∧ Below w.heap.size w w' := read_stamp _ t ⟨h0, h1, rfl⟩ w hM

set_option maxRecDepth 100000 in
set_option maxHeartbeats 1000000 in
theorem reads_walk (s : ByteArray) (n : Int) (h0 : 0 ≤ n) (h1 : n ≤ 18446744073709551615) (w : World) (hM : Months w) :
    Calls Tryd.prog 4 #[.string s, .int .u64 n] w fun e w' => e = .returned (.bool true) ∧ Below w.heap.size w w' := by
  replace hM := Lib.hid hM
  have hB := Below.refl w.heap.size w
  by_cases h100 : s.size ≤ 100
  · by_cases ht : ∃ t, IsStamp s.data.toList t
    · obtain ⟨t, ht⟩ := ht
      have HT := Lib.hid ht
      clear ht
      go_enter Tryd.func4, Tryd.ntmps4
      go_wp2_with (first | (go_at_call 16; (with_reducible refine (read_back _ (by omega) (by omega) _ hM.out).mono ?_); rintro e w' ⟨rfl, hb⟩; replace hM := Lib.hid (hM.out.below hb); replace hB := hB.trans (hb.mono hB.size); clear hb) | (go_at_call 16; (with_reducible refine (read_stamp _ t HT.out _ hM.out).mono ?_); rintro e w' ⟨rfl, hb⟩; replace hM := Lib.hid (hM.out.below hb); replace hB := hB.trans (hb.mono hB.size); clear hb) | (go_at_call 17; refine (rread_stamp _ t HT.out _).mono ?_; rintro e w' ⟨rfl, hb⟩; replace hM := Lib.hid (hM.out.below hb); replace hB := hB.trans (hb.mono hB.size); clear hb) | (go_at_call 13; refine (stamp_calls _ _ hM.out).mono ?_; rintro e w' ⟨rfl, hb⟩; replace hM := Lib.hid (hM.out.below hb); replace hB := hB.trans (hb.mono hB.size); clear hb) | (go_at_call 15; refine (works_calls _ hM.out).mono ?_; rintro e w' ⟨rfl, hb⟩; replace hB := hB.trans (hb.mono hB.size); clear hb))
      go_ret
      exact ⟨rfl, hB⟩
    · have HT := Lib.hid ht
      clear ht
      go_enter Tryd.func4, Tryd.ntmps4
      go_wp2_with (first | (go_at_call 16; (with_reducible refine (read_back _ (by omega) (by omega) _ hM.out).mono ?_); rintro e w' ⟨rfl, hb⟩; replace hM := Lib.hid (hM.out.below hb); replace hB := hB.trans (hb.mono hB.size); clear hb) | (go_at_call 16; (with_reducible refine (read_none _ HT.out _ hM.out).mono ?_); rintro e w' ⟨rfl, hb⟩; replace hM := Lib.hid (hM.out.below hb); replace hB := hB.trans (hb.mono hB.size); clear hb) | (go_at_call 17; refine (rread_none _ HT.out _).mono ?_; rintro e w' ⟨rfl, hb⟩; replace hM := Lib.hid (hM.out.below hb); replace hB := hB.trans (hb.mono hB.size); clear hb) | (go_at_call 13; refine (stamp_calls _ _ hM.out).mono ?_; rintro e w' ⟨rfl, hb⟩; replace hM := Lib.hid (hM.out.below hb); replace hB := hB.trans (hb.mono hB.size); clear hb) | (go_at_call 15; refine (works_calls _ hM.out).mono ?_; rintro e w' ⟨rfl, hb⟩; replace hB := hB.trans (hb.mono hB.size); clear hb))
      go_ret
      exact ⟨rfl, hB⟩
  · go_enter Tryd.func4, Tryd.ntmps4
    go_wp2_with (go_at_call 15; refine (works_calls _ hM.out).mono ?_; rintro e w' ⟨rfl, hb⟩; replace hB := hB.trans (hb.mono hB.size); clear hb)
    go_ret
    exact ⟨rfl, hB⟩

theorem wkd_next (m : Int) : wkd (m + 86400) = wkd m % 7 + 1 := by unfold wkd; omega
theorem wkd_bd (m : Int) : 1 ≤ wkd m ∧ wkd m ≤ 7 := by unfold wkd; omega

set_option maxRecDepth 100000 in
set_option maxHeartbeats 1000000 in
theorem order_walk (a b : Int) (a0 : 0 ≤ a) (a1 : a ≤ 18446744073709551615) (b0 : 0 ≤ b) (b1 : b ≤ 18446744073709551615) (w : World) (hM : Months w) :
    Calls Tryd.prog 5 #[.int .u64 a, .int .u64 b] w fun e w' => e = .returned (.bool true) ∧ Below w.heap.size w w' := by
  replace hM := Lib.hid hM
  have hB := Below.refl w.heap.size w
  have hl : (stmp (a % 252455616000)).length = 19 := stmp_len (by omega) (by omega)
  obtain ⟨k1, k2⟩ := wkd_bd (a % 252455616000)
  have HK := wkd_next (a % 252455616000)
  have hk : (wkd (a % 252455616000 + 86400) == wkd (a % 252455616000) % 7 + 1) = true := by rw [HK]; simp
  clear HK
  have hc : (decide (a % 252455616000 < b % 252455616000) = true ∧ Op.bytesLess (stmp (a % 252455616000)) (stmp (b % 252455616000)) = true ∧ (a % 252455616000 == b % 252455616000) = false ∧ (stmp (a % 252455616000) == stmp (b % 252455616000)) = false)
      ∨ (decide (a % 252455616000 < b % 252455616000) = false ∧ Op.bytesLess (stmp (a % 252455616000)) (stmp (b % 252455616000)) = false ∧ (a % 252455616000 == b % 252455616000) = false ∧ (stmp (a % 252455616000) == stmp (b % 252455616000)) = false)
      ∨ (decide (a % 252455616000 < b % 252455616000) = false ∧ Op.bytesLess (stmp (a % 252455616000)) (stmp (b % 252455616000)) = false ∧ (a % 252455616000 == b % 252455616000) = true ∧ (stmp (a % 252455616000) == stmp (b % 252455616000)) = true) := by
    have ha : 0 ≤ a % 252455616000 ∧ a % 252455616000 ≤ 252455615999 := by omega
    have hb : 0 ≤ b % 252455616000 ∧ b % 252455616000 ≤ 252455615999 := by omega
    generalize a % 252455616000 = m at *
    generalize b % 252455616000 = n at *
    by_cases h1 : m < n
    · refine .inl ⟨by simp [h1], stmp_less ha.1 h1 hb.2, by simp; omega, ?_⟩
      rw [beq_eq_false_iff_ne]; intro e; have := stmp_inj ha.1 ha.2 hb.1 hb.2 e; omega
    · by_cases h2 : n < m
      · refine .inr (.inl ⟨by simp; omega, less_asym _ _ (stmp_less hb.1 h2 ha.2), by simp; omega, ?_⟩)
        rw [beq_eq_false_iff_ne]; intro e; have := stmp_inj ha.1 ha.2 hb.1 hb.2 e; omega
      · obtain rfl : m = n := by omega
        exact .inr (.inr ⟨by simp, less_irr _, by simp, by simp⟩)
  by_cases hx : 252455529599 < a % 252455616000
  all_goals
    rcases hc with ⟨q1, q2, q3, q4⟩ | ⟨q1, q2, q3, q4⟩ | ⟨q1, q2, q3, q4⟩
    all_goals
      go_enter Tryd.func5, Tryd.ntmps5
      go_wp2_with (first | (go_at_call 13; refine (stamp_calls _ _ hM.out).mono ?_; rintro e w' ⟨rfl, hb⟩; replace hM := Lib.hid (hM.out.below hb); replace hB := hB.trans (hb.mono hB.size); clear hb) | (go_at_call 11; refine (weekday_some _ (by omega) (by omega) _).mono ?_; rintro e w' ⟨rfl, rfl⟩) | (go_at_call 15; refine (works_calls _ hM.out).mono ?_; rintro e w' ⟨rfl, hb⟩; replace hB := hB.trans (hb.mono hB.size); clear hb))
      go_ret
      exact ⟨rfl, hB⟩

set_option maxHeartbeats 400000 in
theorem spans_walk (n : Int) (w : World) (hM : Months w) :
    Calls Tryd.prog 6 #[.int .i64 n] w fun e w' => e = .returned (.bool true) ∧ Below w.heap.size w w' := by
  replace hM := Lib.hid hM
  have hB := Below.refl w.heap.size w
  go_enter Tryd.func6, Tryd.ntmps6
  go_wp2_with (first | (go_at_call 18; refine (span_calls _ _).mono ?_; rintro e w' ⟨rfl, hb⟩; replace hM := Lib.hid (hM.out.below hb); replace hB := hB.trans (hb.mono hB.size); clear hb) | (go_at_call 19; refine (rspan_calls _ _).mono ?_; rintro e w' ⟨rfl, rfl⟩) | (go_at_call 15; refine (works_calls _ hM.out).mono ?_; rintro e w' ⟨rfl, hb⟩; replace hB := hB.trans (hb.mono hB.size); clear hb))
  go_ret
  exact ⟨rfl, hB⟩

end Go.Proofs.YtnbabfjacnonfaaDoor.Clock
