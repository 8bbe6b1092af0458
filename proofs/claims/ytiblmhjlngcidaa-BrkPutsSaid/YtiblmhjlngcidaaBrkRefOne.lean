/-
  Layer 14 (brk): the document's own one, walked.
-/
import Derived.Test.YtiblmhjlngcidaaBrkRefP
import Derived.Test.YtiblmhjlngcidaaBrkRead
import Derived.Test.YtiblmhjlngcidaaSignR
import Derived.Deep.DeepCutAuto
namespace Go.Proofs.Ytiblmhjlngcidaa.Brk
open Go.RowKit Go.Proofs.Ytiblmhjlngcidaa.Digit Go.Proofs.Ytiblmhjlngcidaa.Own

def ropE (r : Op × Nat) : Ending := .returned (.tuple #[.agg #[.int .i64 r.1.k, .string ⟨r.1.s.toArray⟩, .int .i64 r.1.n], .int .i64 r.2])
theorem cut_first (s : ByteArray) (k : Nat) (hk : k ≤ s.size) (W : World) :
    (Instr.sliceAt 9 (.string s) none (some (.int .i64 k)) none).run Try.prog W = .ok (.string ⟨(s.data.toList.take k).toArray⟩) W := by
  rw [run_sliceAt_string W 9 _ _ _ _ Try.underlying9, run_slice_string_to_if W 9 s .i64 k Try.underlying9, if_pos ⟨by omega, by omega⟩]
  have e : s.extract 0 k = ⟨(s.data.toList.take k).toArray⟩ := by
    apply ByteArray.ext; apply Array.toList_inj.1; simp [List.extract_eq_take_drop]
  rw [Int.toNat_natCast, e]
theorem rpad_two (n : Nat) (h : n ≤ 99) (w : World) : Calls Try.prog 27 #[.int .i64 n, .int .i64 2] w fun e w' => e = .returned (.string ⟨(two n).toArray⟩) ∧ w' = w := by
  refine (rpad_calls n 2 (by omega) (by omega) w).mono ?_
  rintro e w' ⟨rfl, rfl⟩
  rw [pad_two h]; exact ⟨rfl, rfl⟩
theorem rhex_one (n : Nat) (h : n < 256) (w : World) : Calls Try.prog 28 #[.int .u8 n] w fun e w' => e = .returned (.string ⟨(hexS n).toArray⟩) ∧ w = w' := by
  have := rhex_calls n (by omega) (by omega) w
  rwa [Int.toNat_natCast] at this
theorem rshow_one (n : Nat) (h : n < 256) (w : World) : Calls Try.prog 29 #[.string ⟨#[(n : Int).toNat.toUInt8]⟩] w fun e w' => e = .returned (.string ⟨(sgn n).toArray⟩) ∧ Below w.heap.size w w' := by
  have := rshow_calls ⟨#[(n : Int).toNat.toUInt8]⟩ (by show 1 ≤ _; omega) w
  have e : shw (⟨#[(n : Int).toNat.toUInt8]⟩ : ByteArray).data.toList = sgn n := by
    show shw [(n : Int).toNat.toUInt8] = _
    rw [shw_cons]
    have : (n : Int).toNat.toUInt8.toNat = n := by simp; omega
    rw [this]; simp [shw]
  rwa [e] at this

set_option maxRecDepth 100000 in
set_option maxHeartbeats 4000000 in
theorem rone_plain (s : ByteArray) (h1 : 0 < s.size) (h0 : ¬ (s[0].toNat : Int) = 92) (w : World) :
    Calls Try.prog 19 #[.string s] w fun e w' => e = ropE (one s.data.toList) ∧ Below w.heap.size w w' := by
  have e0 : s[0] ≠ 92 := ne_byte (n := 92) h0 (by omega)
  obtain ⟨t, e⟩ := list_one s h1
  have b0 : ((s[0].toNat : Int) != 92) = true := by simpa using h0
  by_cases hc : 32 ≤ (s[0].toNat : Int) ∧ (s[0].toNat : Int) ≤ 126
  · obtain ⟨q1, q2⟩ := hc
    have H := Lib.hid (show one s.data.toList = (⟨1, [s[0]], 0⟩, 1) by rw [e]; exact one_plain t (by omega) (by omega) e0)
    have HX := Lib.hid (show s.extract 0 1 = ⟨#[s[0]]⟩ by
      apply ByteArray.ext
      apply Array.toList_inj.1
      simp [ByteArray.data_extract, List.extract_eq_take_drop, e])
    have q3 : ¬ (s[0].toNat : Int) < 32 := by omega
    have q4 : ¬ 126 < (s[0].toNat : Int) := by omega
    clear e0 e h0
    go_enter Try.func19, Try.ntmps19
    go_wp2_with fail
    refine bodyPost_ret (v := .tuple #[.agg #[.int .i64 1, .string (s.extract 0 1), .int .i64 0], .int .i64 1]) ?_ rfl ⟨by rw [H.out, HX.out]; rfl, (Below.refl _ _).alloc (Nat.le_refl _) _⟩
    simp [results, Try.results19, go_sem, *]
  · have H := Lib.hid (show one s.data.toList = no by rw [e]; exact one_bad t (fun g => hc ⟨by omega, by omega⟩) e0)
    clear e0 e h0
    rcases (show (s[0].toNat : Int) < 32 ∨ (¬ (s[0].toNat : Int) < 32 ∧ 126 < (s[0].toNat : Int)) by omega) with q | ⟨q, q2⟩
    all_goals
      clear hc
      go_enter Try.func19, Try.ntmps19
      go_wp2_with fail
      refine bodyPost_ret (v := .tuple #[.agg #[.int .i64 0, .string ⟨#[]⟩, .int .i64 0], .int .i64 0]) ?_ rfl ⟨by rw [H.out]; rfl, (Below.refl _ _).alloc (Nat.le_refl _) _⟩
      simp [results, Try.results19, go_sem, *]

set_option maxRecDepth 100000 in
set_option maxHeartbeats 4000000 in
theorem rone_quick (s : ByteArray) (h1 : 2 ≤ s.size) (h0 : (s[0].toNat : Int) = 92) (h : (s[1].toNat : Int) = 100 ∨ (s[1].toNat : Int) = 122) (w : World) :
    Calls Try.prog 19 #[.string s] w fun e w' => e = ropE (one s.data.toList) ∧ Below w.heap.size w w' := by
  have e0 : s[0] = 92 := eq_byte (n := 92) h0
  have b0 : ((s[0].toNat : Int) != 92) = false := by simp [h0]
  have e := list_three s (by omega)
  rcases h with h | h
  · have H := Lib.hid (show one s.data.toList = (⟨2, [], 1⟩, 2) by rw [e, e0, eq_byte (n := 100) h]; exact one_esc 100 _)
    clear e0 e
    go_enter Try.func19, Try.ntmps19
    go_wp2_with fail
    refine bodyPost_ret (v := .tuple #[.agg #[.int .i64 2, .string ⟨#[]⟩, .int .i64 1], .int .i64 2]) ?_ rfl ⟨by rw [H.out]; rfl, (Below.refl _ _).alloc (Nat.le_refl _) _⟩
    simp [results, Try.results19, go_sem, *]
  · have H := Lib.hid (show one s.data.toList = (⟨3, [], 0⟩, 2) by rw [e, e0, eq_byte (n := 122) h]; exact one_esc 122 _)
    clear e0 e
    go_enter Try.func19, Try.ntmps19
    go_wp2_with fail
    refine bodyPost_ret (v := .tuple #[.agg #[.int .i64 3, .string ⟨#[]⟩, .int .i64 0], .int .i64 2]) ?_ rfl ⟨by rw [H.out]; rfl, (Below.refl _ _).alloc (Nat.le_refl _) _⟩
    simp [results, Try.results19, go_sem, *]
end Go.Proofs.Ytiblmhjlngcidaa.Brk
