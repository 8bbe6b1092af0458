/-
  Layer 18 (backoff): within, Check, left, Bounds, walked.
-/
import Derived.Test.YtblmjacphhpekaaBkfPlain
import Derived.Test.YtblmjacphhpekaaCalcDbl
import Derived.Test.YtblmjacphhpekaaOwnOut
namespace Go.Proofs.Ytblmjacphhpekaa.Bkf
open Go.RowKit Go.Proofs.Ytblmjacphhpekaa.Own Go.Proofs.Ytblmjacphhpekaa.Rw Go.Proofs.Ytblmjacphhpekaa.Tree Go.Proofs.Ytblmjacphhpekaa.Calc

theorem ret_bool {a b : Bool} (h : a = b) : Ending.returned (.bool a) = .returned (.bool b) := by rw [h]
theorem ret_int {a b : Int} (h : a = b) : Ending.returned (.int .i64 a) = .returned (.int .i64 b) := by rw [h]
/-- whether it stands between -/
def inB (n low high : Int) : Bool := decide (low ≤ n ∧ n ≤ high)
set_option maxHeartbeats 1000000 in
theorem within_calls (n low high : Int) (w : World) :
    Calls Try.prog 15 #[.int .i64 n, .int .i64 low, .int .i64 high] w fun e w' => e = .returned (.bool (inB n low high)) ∧ w = w' := by
  by_cases h0 : low ≤ n
  · by_cases h1 : n ≤ high
    · have H : Hid (inB n low high = true) := Lib.hid (by simp [inB, h0, h1])
      go_enter Try.func15, Try.ntmps15
      go_wp2
      go_ret
      exact ⟨ret_bool (by rw [H.out]), rfl⟩
    · have H : Hid (inB n low high = false) := Lib.hid (by simp [inB, h1])
      go_enter Try.func15, Try.ntmps15
      go_wp2
      go_ret
      exact ⟨ret_bool (by rw [H.out]), rfl⟩
  · have H : Hid (inB n low high = false) := Lib.hid (by simp [inB, h0])
    go_enter Try.func15, Try.ntmps15
    go_wp2
    go_ret
    exact ⟨ret_bool (by rw [H.out]), rfl⟩
theorem ok_split (b c j : Int) : okR b c j ↔ (inB b 1 3600 = true ∧ inB c b 86400 = true ∧ inB j 0 3600 = true) := by
  unfold okR inB; simp; omega
abbrev ruleV (b c j : Int) : Value := .agg #[.int .i64 b, .int .i64 c, .int .i64 j]
set_option maxHeartbeats 2000000 in
theorem check_calls (b c j : Int) (w : World) :
    Calls Try.prog 8 #[.agg #[.int .i64 b, .int .i64 c, .int .i64 j]] w fun e w' => e = .returned (.int .i64 (chkR b c j)) ∧ Below w.heap.size w w' := by
  have hs := ok_split b c j
  have HB := Lib.hid ((Below.refl w.heap.size w).alloc (Nat.le_refl _) (.cells #[.int .i64 b, .int .i64 c, .int .i64 j] 23 (0, 0)))
  cases h0 : inB b 1 3600 with
  | false =>
    have H := Lib.hid (chk_no (b := b) (c := c) (j := j) (by rw [hs]; simp [h0]))
    go_enter Try.func8, Try.ntmps8
    go_wp2_with (go_at_call 15; refine (within_calls _ _ _ _).mono ?_; rintro e w' ⟨rfl, rfl⟩)
    go_ret
    exact ⟨ret_int H.out.symm, HB.out⟩
  | true => cases h1 : inB c b 86400 with
    | false =>
      have H := Lib.hid (chk_no (b := b) (c := c) (j := j) (by rw [hs]; simp [h1]))
      go_enter Try.func8, Try.ntmps8
      go_wp2_with (go_at_call 15; refine (within_calls _ _ _ _).mono ?_; rintro e w' ⟨rfl, rfl⟩)
      go_ret
      exact ⟨ret_int H.out.symm, HB.out⟩
    | true => cases h2 : inB j 0 3600 with
      | false =>
        have H := Lib.hid (chk_no (b := b) (c := c) (j := j) (by rw [hs]; simp [h2]))
        go_enter Try.func8, Try.ntmps8
        go_wp2_with (go_at_call 15; refine (within_calls _ _ _ _).mono ?_; rintro e w' ⟨rfl, rfl⟩)
        go_ret
        exact ⟨ret_int H.out.symm, HB.out⟩
      | true =>
        have H := Lib.hid (chk_ok (b := b) (c := c) (j := j) (by rw [hs]; simp [h0, h1, h2]))
        go_enter Try.func8, Try.ntmps8
        go_wp2_with (go_at_call 15; refine (within_calls _ _ _ _).mono ?_; rintro e w' ⟨rfl, rfl⟩)
        go_ret
        exact ⟨ret_int H.out.symm, HB.out⟩
set_option maxHeartbeats 1000000 in
theorem left_calls (r m : Int) (h0 : 0 < m) (h1 : m ≤ 1000000) (w : World) :
    Calls Try.prog 19 #[.int .i64 r, .int .i64 m] w fun e w' => e = .returned (.int .i64 (lf r m)) ∧ w = w' := by
  obtain ⟨h2, h3, h4, h5⟩ := lf_tmod (r := r) h0
  have hm : (m == 0) = false := by simp; omega
  by_cases hn : Int.tmod r m < 0
  · have H := Lib.hid (h2 hn)
    clear h2 h3
    go_enter Try.func19, Try.ntmps19
    go_wp2
    go_ret
    exact ⟨ret_int H.out.symm, rfl⟩
  · have H := Lib.hid (h3 hn)
    clear h2 h3
    go_enter Try.func19, Try.ntmps19
    go_wp2
    go_ret
    exact ⟨ret_int H.out.symm, rfl⟩
theorem row3i {w : World} {B : Nat} {x0 x1 x2 : Value} {T : TypeId} (h : w.heap[B]? = some (.cells #[x0, x1, x2] T (0, 0))) : w.cell? ⟨B, 0, none⟩ = some x0 ∧ w.cell? ⟨B, 1, none⟩ = some x1 ∧ w.cell? ⟨B, 2, none⟩ = some x2 := ⟨at_cell h 0, at_cell h 1, at_cell h 2⟩
set_option maxRecDepth 100000 in
set_option maxHeartbeats 2000000 in
theorem bounds_calls (b c j : Int) (h : okR b c j) (n : Nat) (w : World) :
    Calls Try.prog 13 #[.agg #[.int .i64 b, .int .i64 c, .int .i64 j], .int .i64 n] w fun e w' => e = .returned (.tuple #[.int .i64 (lowR b c n), .int .i64 (lowR b c n + j)]) ∧ Below w.heap.size w w' := by
  have h1 := low_rng h n
  have HV := Lib.hid (low_val h n)
  have HC := Lib.hid (chk_ok h)
  have hn0 : (0 : Int) ≤ (n : Int) := by omega
  have hn : ¬ ((n : Int) < 0) := by omega
  obtain ⟨h2, h3, h4, h5, h6, h7⟩ := h
  generalize hlv : lowR b c n = lv at *
  go_enter Try.func13, Try.ntmps13
  go_wp2_with fail
  refine (check_calls b c j _).mono ?_
  rintro e w1 ⟨rfl, hb⟩
  rw [HC.out]
  obtain ⟨c0, c1, c2⟩ := row3i ((hb.block w.heap.size (by simp)).trans (at_new w _))
  have B1 := Lib.hid (((Below.refl w.heap.size w).alloc (Nat.le_refl _) _).trans (hb.mono (by simp)))
  clear hb
  go_wp2_with fail
  refine (dbl_calls b n c w1).mono ?_
  rintro e w' ⟨rfl, rfl⟩
  rw [HV.out]
  go_wp2_with fail
  go_quiet (fail)
  go_wp2_with fail
  go_ret2
  exact ⟨rfl, below_drew B1.out⟩
end Go.Proofs.Ytblmjacphhpekaa.Bkf
