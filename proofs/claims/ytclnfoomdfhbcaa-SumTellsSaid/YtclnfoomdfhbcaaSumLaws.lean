/-
  Layer 7 (sum): the example, and the walks of SumTells and SumJoins.
-/
import Derived.Test.YtclnfoomdfhbcaaSumFits
namespace Go.Proofs.Ytclnfoomdfhbcaa.Sum
open Go.RowKit

theorem wf_i64 {n : Int} (h : (Lit.int .i64 n).wf = true) : -9223372036854775808 ≤ n ∧ n ≤ 9223372036854775807 := by
  simpa [Lit.wf, IntKind.min, IntKind.max, IntKind.bits, IntKind.signed] using h
theorem wf_u8 {n : Int} (h : (Lit.int .u8 n).wf = true) : 0 ≤ n ∧ n < 256 := by
  have : 0 ≤ n ∧ n ≤ 255 := by simpa [Lit.wf, IntKind.min, IntKind.max, IntKind.bits, IntKind.signed] using h
  omega
theorem wf_u16 {n : Int} (h : (Lit.int .u16 n).wf = true) : 0 ≤ n ∧ n < 65536 := by
  have : 0 ≤ n ∧ n ≤ 65535 := by simpa [Lit.wf, IntKind.min, IntKind.max, IntKind.bits, IntKind.signed] using h
  omega

theorem ex_join : jV (sumOf [97, 98]) (sumOf [99]) 1 = sumOf [97, 98, 99] ∧ jC (sumOf [97, 98]) (sumOf [99]) 1 = 0 := j_app [97, 98] [99]
theorem ex_none : jV (-1) 0 0 = 0 ∧ jC (-1) 0 0 = 1 := j_none (by omega)
theorem ex_over : rdV [255, 255, 255, 255] = 0 ∧ rdC [255, 255, 255, 255] = 2 := rd_over rfl (by decide)
theorem ex_size : rdV [97, 98, 99] = 0 ∧ rdC [97, 98, 99] = 5 := rd_size (by decide)
theorem ex_read : rdV [0, 0, 0, 98] = 98 ∧ rdC [0, 0, 0, 98] = 0 := rd_some rfl (by decide)
theorem ex_fits : fits [97, 0, 0, 0, 98] = true := by decide
theorem ex_not : fits [98, 0, 0, 0, 98] = false := by decide
theorem ex_nil : sumOf [] = 0 := rfl
theorem ex_a : sumOf [97] = 98 := rfl

set_option maxRecDepth 100000 in
set_option maxHeartbeats 1000000 in
theorem works_calls (w : World) :
    Calls Try.prog 6 #[] w fun e w' => e = .returned (.bool true) ∧ Below w.heap.size w w' := by
  obtain ⟨a1, a2⟩ := ex_join
  obtain ⟨b1, b2⟩ := ex_none
  obtain ⟨c1, c2⟩ := ex_over
  obtain ⟨d1, d2⟩ := ex_size
  obtain ⟨e1, e2⟩ := ex_read
  have f1 := ex_fits; have f2 := ex_not; have f3 := ex_nil; have f4 := ex_a
  have hB := Below.refl w.heap.size w
  go_enter Try.func6, Try.ntmps6
  go_wp2_with (first | (go_at_call 9; refine (of_calls _ (by decide) _).mono ?_; rintro e w' ⟨rfl, rfl⟩) | (go_at_call 15; refine (join_calls _ _ _ (by decide) _).mono ?_; rintro e w' ⟨rfl, rfl⟩) | (go_at_call 7; refine (read_calls _ _).mono ?_; rintro e w' ⟨rfl, rfl⟩) | (go_at_call 13; refine (fits_calls _ (by decide) _).mono ?_; rintro e w' ⟨rfl, hb⟩; replace hB := hB.trans (hb.mono hB.size); clear hb))
  go_ret
  exact ⟨rfl, hB⟩

theorem back_list (s : ByteArray) : (s ++ ⟨(putL (sumOf s.data.toList)).toArray⟩ : ByteArray).data.toList = s.data.toList ++ putL (sumOf s.data.toList) := by simp [ByteArray.data_append]
theorem back_size (s : ByteArray) (hs : s.size ≤ 2000) : (s ++ ⟨(putL (sumOf s.data.toList)).toArray⟩ : ByteArray).size ≤ 9223372036854775807 := by
  rw [← size_list, back_list, List.length_append, size_list, put_sum, four_len]; omega
theorem fits_back (s : ByteArray) : fits (s ++ ⟨(putL (sumOf s.data.toList)).toArray⟩ : ByteArray).data.toList = true := by rw [back_list, fits_put]

set_option maxRecDepth 100000 in
set_option maxHeartbeats 1000000 in
theorem tells_walk (s : ByteArray) (n : Int) (w : World) :
    Calls Try.prog 3 #[.string s, .int .i64 n] w fun e w' => e = .returned (.bool true) ∧ Below w.heap.size w w' := by
  have hB := Below.refl w.heap.size w
  by_cases hs : s.size ≤ 2000
  · obtain ⟨r0, r1⟩ := sumOf_range s.data.toList
    obtain ⟨g1, g2⟩ := rd_put r0 r1
    have k1 := fits_back s
    have k2 := fits_put s.data.toList
    have g3 : (putL (sumOf s.data.toList)).length = 4 := by rw [put_sum, four_len]
    go_enter Try.func3, Try.ntmps3
    go_wp2_with (first | (go_at_call 7; refine (read_calls _ _).mono ?_; rintro e w' ⟨rfl, rfl⟩) | (go_at_call 8; refine (rread_calls _ _).mono ?_; rintro e w' ⟨rfl, m, rfl⟩; replace hB := below_drewN hB m) | (go_at_call 9; refine (of_calls _ (by omega) _).mono ?_; rintro e w' ⟨rfl, rfl⟩) | (go_at_call 11; refine (rof_calls _ (by omega) _).mono ?_; rintro e w' ⟨rfl, rfl⟩) | (go_at_call 10; refine (put_calls _ _).mono ?_; rintro e w' ⟨rfl, hb⟩; replace hB := hB.trans (hb.mono hB.size); clear hb) | (go_at_call 12; refine (rput_calls _ _).mono ?_; rintro e w' ⟨rfl, hb⟩; replace hB := hB.trans (hb.mono hB.size); clear hb) | (go_at_call 13; refine (fits_calls _ (by first | omega | exact back_size s hs) _).mono ?_; rintro e w' ⟨rfl, hb⟩; replace hB := hB.trans (hb.mono hB.size); clear hb) | (go_at_call 14; refine (rfits_calls _ (by omega) _).mono ?_; rintro e w' ⟨rfl, hb⟩; replace hB := hB.trans (hb.mono hB.size); clear hb) | (go_at_call 6; refine (works_calls _).mono ?_; rintro e w' ⟨rfl, hb⟩; replace hB := hB.trans (hb.mono hB.size); clear hb))
    go_ret
    exact ⟨rfl, hB⟩
  · go_enter Try.func3, Try.ntmps3
    go_wp2_with (go_at_call 6; refine (works_calls _).mono ?_; rintro e w' ⟨rfl, hb⟩; replace hB := hB.trans (hb.mono hB.size); clear hb)
    go_ret
    exact ⟨rfl, hB⟩

theorem app_list (s t : ByteArray) : (s ++ t).data.toList = s.data.toList ++ t.data.toList := by simp [ByteArray.data_append]
theorem app_size (s t : ByteArray) (hs : s.size ≤ 1000) (ht : t.size ≤ 1000) : (s ++ t).size ≤ 9223372036854775807 := by
  rw [← size_list, app_list, List.length_append, size_list, size_list]; omega

set_option maxRecDepth 100000 in
set_option maxHeartbeats 1000000 in
theorem joins_walk (s t : ByteArray) (a b n : Int) (h0 : 0 ≤ n) (h1 : n < 65536) (w : World) :
    Calls Try.prog 4 #[.string s, .string t, .int .i64 a, .int .i64 b, .int .u16 n] w fun e w' => e = .returned (.bool true) ∧ Below w.heap.size w w' := by
  have hB := Below.refl w.heap.size w
  by_cases hs : s.size ≤ 1000
  · by_cases ht : t.size ≤ 1000
    · have j1 : jV (sumOf s.data.toList) (sumOf t.data.toList) t.size = sumOf (s ++ t).data.toList := by rw [app_list]; exact (j_app _ _).1
      have j2 : jC (sumOf s.data.toList) (sumOf t.data.toList) t.size = 0 := (j_app s.data.toList t.data.toList).2
      have j3 : jC 0 0 (-1 - n) = 1 := (j_none (by omega)).2
      go_enter Try.func4, Try.ntmps4
      go_wp2_with (first | (go_at_call 9; refine (of_calls _ (by first | omega | exact app_size s t hs ht) _).mono ?_; rintro e w' ⟨rfl, rfl⟩) | (go_at_call 15; refine (join_calls _ _ _ (by omega) _).mono ?_; rintro e w' ⟨rfl, rfl⟩) | (go_at_call 16; refine (rjoin_calls _ _ _ (by omega) _).mono ?_; rintro e w' ⟨rfl, rfl⟩) | (go_at_call 6; refine (works_calls _).mono ?_; rintro e w' ⟨rfl, hb⟩; replace hB := hB.trans (hb.mono hB.size); clear hb))
      go_ret
      exact ⟨rfl, hB⟩
    · go_enter Try.func4, Try.ntmps4
      go_wp2_with (go_at_call 6; refine (works_calls _).mono ?_; rintro e w' ⟨rfl, hb⟩; replace hB := hB.trans (hb.mono hB.size); clear hb)
      go_ret
      exact ⟨rfl, hB⟩
  · go_enter Try.func4, Try.ntmps4
    go_wp2_with (go_at_call 6; refine (works_calls _).mono ?_; rintro e w' ⟨rfl, hb⟩; replace hB := hB.trans (hb.mono hB.size); clear hb)
    go_ret
    exact ⟨rfl, hB⟩

end Go.Proofs.Ytclnfoomdfhbcaa.Sum
