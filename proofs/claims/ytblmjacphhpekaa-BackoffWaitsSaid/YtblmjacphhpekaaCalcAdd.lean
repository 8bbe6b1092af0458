/-
  Layer 1 (calc): the walks of Is, tick, Add.
-/
import Derived.Test.YtblmjacphhpekaaProg
import Derived.Test.YtblmjacphhpekaaCalcPlain
import Derived.Lib.Hide
namespace Go.Proofs.Ytblmjacphhpekaa.Calc
open Go.RowKit

theorem ret_bool {a b : Bool} (h : a = b) : Ending.returned (.bool a) = .returned (.bool b) := by rw [h]
theorem ret_two {a b c d : Int} (h : a = b) (g : c = d) : Ending.returned (.tuple #[.int .i64 a, .int .i64 c]) = .returned (.tuple #[.int .i64 b, .int .i64 d]) := by rw [h, g]

theorem is_calls (n : Int) (w : World) :
    Calls Try.prog 17 #[.int .i64 n] w fun e w' => e = .returned (.bool (isT n)) ∧ w = w' := by
  by_cases h0 : 0 ≤ n
  · by_cases h1 : n ≤ 1099511627776
    · go_enter Try.func17, Try.ntmps17
      go_wp2
      go_ret
      exact ⟨ret_bool (by rw [isT_iff.2 ⟨h0, h1⟩]), rfl⟩
    · go_enter Try.func17, Try.ntmps17
      go_wp2
      go_ret
      exact ⟨ret_bool (by rw [isT_not.2 (by omega)]), rfl⟩
  · go_enter Try.func17, Try.ntmps17
    go_wp2
    go_ret
    exact ⟨ret_bool (by rw [isT_not.2 (by omega)]), rfl⟩

theorem tick_calls (n : Int) (w : World) :
    Calls Try.prog 24 #[.int .i64 n] w fun e w' => e = .returned (.tuple #[.int .i64 (if isT n = true then n else 0), .int .i64 (if isT n = true then 0 else 2)]) ∧ w = w' := by
  cases h : isT n
  · go_enter Try.func24, Try.ntmps24
    go_wp2_with (go_at_call 17; refine (is_calls _ _).mono ?_; rintro e w' ⟨rfl, rfl⟩)
    go_ret2
    exact ⟨rfl, rfl⟩
  · go_enter Try.func24, Try.ntmps24
    go_wp2_with (go_at_call 17; refine (is_calls _ _).mono ?_; rintro e w' ⟨rfl, rfl⟩)
    go_ret2
    exact ⟨rfl, rfl⟩

theorem add_calls (a b : Int) (w : World) :
    Calls Try.prog 22 #[.int .i64 a, .int .i64 b] w fun e w' => e = .returned (.tuple #[.int .i64 (addV a b), .int .i64 (addC a b)]) ∧ w = w' := by
  cases ha : isT a
  · have hc := addC_one (a := a) (b := b) (.inl ha)
    have hv := addV_none (a := a) (b := b) (by omega)
    have H := Lib.hid (And.intro hc hv); clear hc hv
    go_enter Try.func22, Try.ntmps22
    go_wp2_with (go_at_call 17; refine (is_calls _ _).mono ?_; rintro e w' ⟨rfl, rfl⟩)
    go_ret2
    exact ⟨ret_two H.out.2.symm H.out.1.symm, rfl⟩
  · cases hb : isT b
    · have hc := addC_one (a := a) (b := b) (.inr hb)
      have hv := addV_none (a := a) (b := b) (by omega)
      have H := Lib.hid (And.intro hc hv); clear hc hv
      go_enter Try.func22, Try.ntmps22
      go_wp2_with (go_at_call 17; refine (is_calls _ _).mono ?_; rintro e w' ⟨rfl, rfl⟩)
      go_ret2
      exact ⟨ret_two H.out.2.symm H.out.1.symm, rfl⟩
    · obtain ⟨a0, a1⟩ := isT_iff.1 ha
      obtain ⟨b0, b1⟩ := isT_iff.1 hb
      cases h : isT (a + b)
      · have hc := addC_two ha hb h
        have hv := addV_none (a := a) (b := b) (by omega)
        have H := Lib.hid (And.intro hc hv); clear hc hv
        go_enter Try.func22, Try.ntmps22
        go_wp2_with (first | (go_at_call 17; refine (is_calls _ _).mono ?_; rintro e w' ⟨rfl, rfl⟩) | (go_at_call 24; refine (tick_calls _ _).mono ?_; rintro e w' ⟨rfl, rfl⟩))
        go_ret2
        exact ⟨ret_two H.out.2.symm H.out.1.symm, rfl⟩
      · have hc := addC_nought ha hb h
        have hv := addV_some hc
        have H := Lib.hid (And.intro hc hv); clear hc hv
        go_enter Try.func22, Try.ntmps22
        go_wp2_with (first | (go_at_call 17; refine (is_calls _ _).mono ?_; rintro e w' ⟨rfl, rfl⟩) | (go_at_call 24; refine (tick_calls _ _).mono ?_; rintro e w' ⟨rfl, rfl⟩))
        go_ret2
        exact ⟨ret_two H.out.2.symm H.out.1.symm, rfl⟩
end Go.Proofs.Ytblmjacphhpekaa.Calc
