/-
  Layer 7 (sum): the program's Fits, walked.
-/
import Derived.Test.YtfdpmbnjjnmdiaaSumPut
namespace Go.Proofs.Ytfdpmbnjjnmdiaa.Sum
open Go.RowKit

theorem cut_to {P : Program} (t : TypeId) (ht : P.underlying t = some .string) (s : ByteArray) (j : Int) (h0 : 0 ≤ j) (h : j ≤ s.size) (W : World) :
    (Instr.sliceAt t (.string s) none (some (.int .i64 j)) none).run P W = .ok (.string (s.extract 0 j.toNat)) W := by
  rw [run_sliceAt_string W t _ _ _ _ ht, run_slice_string_to_if W t s .i64 j ht, if_pos ⟨h0, h⟩]
theorem cut_from {P : Program} (t : TypeId) (ht : P.underlying t = some .string) (s : ByteArray) (i : Int) (h0 : 0 ≤ i) (h : i ≤ s.size) (W : World) :
    (Instr.sliceAt t (.string s) (some (.int .i64 i)) none none).run P W = .ok (.string (s.extract i.toNat s.size)) W := by
  rw [run_sliceAt_string W t _ _ _ _ ht, run_slice_string_from_if W t s .i64 i ht, if_pos ⟨h0, h⟩]
theorem extract_list (s : ByteArray) (i j : Nat) : (s.extract i j).data.toList = (s.data.toList.take j).drop i := by
  simp [ByteArray.data_extract, Array.toList_extract, List.drop_take]

/-- a text's two parts -/
theorem fits_parts (s : ByteArray) (h : 4 ≤ s.size) : ∃ p q : ByteArray, Hid (p.size ≤ s.size) ∧
    (∀ W, (Instr.sliceAt 9 (.string s) none (some (.int .i64 ((s.size : Int) - 4))) none).run Try.prog W = .ok (.string p) W) ∧
    (∀ W, (Instr.sliceAt 9 (.string s) (some (.int .i64 ((s.size : Int) - 4))) none none).run Try.prog W = .ok (.string q) W) ∧
    Hid (fits s.data.toList = (putL (sumOf p.data.toList) == q.toList)) := by
  refine ⟨_, _, ?_, fun W => cut_to 9 Try.underlying9 s _ (by omega) (by omega) W, fun W => cut_from 9 Try.underlying9 s _ (by omega) (by omega) W, Lib.hid ?_⟩
  · exact Lib.hid (by simp [ByteArray.size_extract]; omega)
  · rw [fits_long (by rw [size_list]; exact h), ByteArray.toList_eq, extract_list, extract_list, size_list, show ((s.size : Int) - 4).toNat = s.size - 4 by omega, List.drop_zero, List.take_of_length_le (i := s.size) (by rw [size_list]; omega)]

set_option maxRecDepth 100000 in
set_option maxHeartbeats 400000 in
theorem fits_calls (s : ByteArray) (hs : s.size ≤ 9223372036854775807) (w : World) :
    Calls Try.prog 25 #[.string s] w fun e w' => e = .returned (.bool (fits s.data.toList)) ∧ Below w.heap.size w w' := by
  by_cases h : 4 ≤ s.size
  · obtain ⟨p, q, hp, h1, h2, hf⟩ := fits_parts s h
    have d1 : decide ((4 : Int) ≤ (s.size : Int)) = true := decide_eq_true (by omega)
    have d2 : decide ((0 : Int) ≤ (s.size : Int) - 4) = true := decide_eq_true (by omega)
    have hB : Hid (Below w.heap.size w w) := Lib.hid (Below.refl _ _)
    go_enter Try.func25, Try.ntmps25
    go_wp2_with fail
    go_region_held3 (fun w' => Below w.heap.size w w')
      (first
        | exact hB.out.drew
        | (exact Below.trans (by assumption) (hb5.mono (Below.size (by assumption))))
        | assumption)
      (first
        | (go_at_call 30; refine (of_calls _ (Nat.le_trans hp.out hs) _).mono ?_; rintro e w5 ⟨rfl, rfl⟩)
        | (go_at_call 29; refine (put_calls _ _).mono ?_; rintro e w5 ⟨rfl, hb5⟩))
    all_goals (go_wp2_with fail; go_ret; exact ⟨ret_bool (by rw [hf.out]; exact Bool.eq_iff_iff.2 (by rw [beq_iff_eq, beq_iff_eq, eq_comm])), by assumption⟩)
  · have h4 : s.size < 4 := by omega
    rw [fits_short (by rw [size_list]; exact h4)]
    have d1 : decide ((4 : Int) ≤ (s.size : Int)) = false := decide_eq_false (by omega)
    have d2 : decide ((0 : Int) ≤ (s.size : Int) - 4) = false := decide_eq_false (by omega)
    go_enter Try.func25, Try.ntmps25
    go_wp2_with fail
    go_quiet (fail)
    go_wp2_with fail
    go_ret
    exact ⟨rfl, below_drewN (Below.refl _ _) _⟩

end Go.Proofs.Ytfdpmbnjjnmdiaa.Sum
