/-
  Layer 18 (backoff): the document's own Check, Low, At, walked.
-/
import Derived.Test.YtblmjacphhpekaaBkfPlain
import Derived.Test.YtblmjacphhpekaaCalcRefD
import Derived.Test.YtblmjacphhpekaaRow1
namespace Go.Proofs.Ytblmjacphhpekaa.Bkf
open Go.RowKit Go.Proofs.Ytblmjacphhpekaa.Own Go.Proofs.Ytblmjacphhpekaa.Rw Go.Proofs.Ytblmjacphhpekaa.Calc

theorem ret_int' {a b : Int} (h : a = b) : Ending.returned (.int .i64 a) = .returned (.int .i64 b) := by rw [h]
set_option maxHeartbeats 1000000 in
theorem rcheck_calls (b c j : Int) (w : World) :
    Calls Try.prog 7 #[.int .i64 b, .int .i64 c, .int .i64 j] w fun e w' => e = .returned (.int .i64 (chkR b c j)) ∧ w = w' := by
  by_cases h : okR b c j
  · have H := Lib.hid (chk_ok h)
    obtain ⟨h1, h2, h3, h4, h5, h6⟩ := h
    go_enter Try.func7, Try.ntmps7
    go_wp2
    go_ret
    exact ⟨ret_int' H.out.symm, rfl⟩
  · have H := Lib.hid (chk_no h)
    have hs : ¬ 1 ≤ b ∨ (1 ≤ b ∧ ¬ b ≤ 3600) ∨ (1 ≤ b ∧ b ≤ 3600 ∧ ¬ b ≤ c) ∨ (1 ≤ b ∧ b ≤ 3600 ∧ b ≤ c ∧ ¬ c ≤ 86400) ∨ (1 ≤ b ∧ b ≤ 3600 ∧ b ≤ c ∧ c ≤ 86400 ∧ ¬ 0 ≤ j) ∨ (1 ≤ b ∧ b ≤ 3600 ∧ b ≤ c ∧ c ≤ 86400 ∧ 0 ≤ j ∧ ¬ j ≤ 3600) := by unfold okR at h; omega
    clear h
    rcases hs with h1 | ⟨h1, h2⟩ | ⟨h1, h2, h3⟩ | ⟨h1, h2, h3, h4⟩ | ⟨h1, h2, h3, h4, h5⟩ | ⟨h1, h2, h3, h4, h5, h6⟩ <;>
    · go_enter Try.func7, Try.ntmps7
      go_wp2
      go_ret
      exact ⟨ret_int' H.out.symm, rfl⟩
set_option maxHeartbeats 1000000 in
theorem rlow_calls (b c j : Int) (h : okR b c j) (n : Nat) (w : World) :
    Calls Try.prog 14 #[.int .i64 b, .int .i64 c, .int .i64 n] w fun e w' => e = .returned (.int .i64 (lowR b c n)) ∧ w = w' := by
  have HV := Lib.hid (low_val h n)
  clear h
  go_enter Try.func14, Try.ntmps14
  go_wp2_with fail
  refine (rdbl_calls b n c w).mono ?_
  rintro e w' ⟨rfl, rfl⟩
  rw [HV.out]
  go_wp2_with fail
  go_ret
  exact ⟨rfl, rfl⟩
/-- whether that is a tick -/
def atB (b c j : Int) (n : Nat) (now r : Int) : Bool := decide (atR b c j n now r ≤ 1099511627776)
set_option maxHeartbeats 1000000 in
theorem rat_calls (b c j : Int) (h : okR b c j) (n : Nat) (now r : Int) (hn : isT now = true) (w : World) :
    Calls Try.prog 11 #[.int .i64 b, .int .i64 c, .int .i64 j, .int .i64 n, .int .i64 now, .int .i64 r] w fun e w' => e = .returned (.tuple #[.int .i64 (atR b c j n now r), .bool (atB b c j n now r)]) ∧ w = w' := by
  have HL := Lib.hid (rlow_calls b c j h n)
  obtain ⟨n0, n1⟩ := isT_iff.1 hn
  have hl := low_rng h n
  obtain ⟨g1, g2, g3, g4, g5, g6⟩ := h
  obtain ⟨h2, h3, h4, h5⟩ := lf_tmod (r := r) (m := j + 1) (by omega)
  have hm : (j + 1 == 0) = false := by simp; omega
  have hr := lf_rng (r := r) (m := j + 1) (by omega)
  have HA : Hid (atR b c j n now r = now + lowR b c n + lf r (j + 1)) := Lib.hid rfl
  have HB : Hid (atB b c j n now r = decide (atR b c j n now r ≤ 1099511627776)) := Lib.hid rfl
  generalize atR b c j n now r = av at *
  generalize atB b c j n now r = ab at *
  generalize lowR b c n = lv at *
  by_cases ht : Int.tmod r (j + 1) < 0
  · have H := Lib.hid (h2 ht)
    clear h2 h3 hn
    go_enter Try.func11, Try.ntmps11
    go_wp2_with (go_at_call 14; refine (HL.out _).mono ?_; rintro e w' ⟨rfl, rfl⟩)
    go_ret2
    have := HA.out
    have := H.out
    exact ⟨by rw [HB.out, HA.out, H.out]; simp [← Int.add_assoc], rfl⟩
  · have H := Lib.hid (h3 ht)
    clear h2 h3 hn
    go_enter Try.func11, Try.ntmps11
    go_wp2_with (go_at_call 14; refine (HL.out _).mono ?_; rintro e w' ⟨rfl, rfl⟩)
    go_ret2
    exact ⟨by rw [HB.out, HA.out, H.out]; rfl, rfl⟩
end Go.Proofs.Ytblmjacphhpekaa.Bkf
