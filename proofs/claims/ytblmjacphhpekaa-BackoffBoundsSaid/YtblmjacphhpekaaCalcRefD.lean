/-
  Layer 1 (calc): the walks of the document's own Is and Double.
-/
import Derived.Test.YtblmjacphhpekaaCalcAdd
import Derived.LoopTactic
namespace Go.Proofs.Ytblmjacphhpekaa.Calc
open Go.RowKit

theorem ris_calls (n : Int) (w : World) :
    Calls Try.prog 23 #[.int .i64 n] w fun e w' => e = .returned (.bool (isT n)) ∧ w = w' := by
  by_cases h0 : 0 ≤ n
  · by_cases h1 : n ≤ 1099511627776
    · go_enter Try.func23, Try.ntmps23
      go_wp2
      go_ret
      exact ⟨ret_bool (by rw [isT_iff.2 ⟨h0, h1⟩]), rfl⟩
    · go_enter Try.func23, Try.ntmps23
      go_wp2
      go_ret
      exact ⟨ret_bool (by rw [isT_not.2 (by omega)]), rfl⟩
  · go_enter Try.func23, Try.ntmps23
    go_wp2
    go_ret
    exact ⟨ret_bool (by rw [isT_not.2 (by omega)]), rfl⟩

theorem rdbl_calls (base n most : Int) (w : World) :
    Calls Try.prog 21 #[.int .i64 base, .int .i64 n, .int .i64 most] w fun e w' => e = .returned (.tuple #[.int .i64 (dblV base n most), .int .i64 (dblC base n most)]) ∧ w = w' := by
  cases ha : isT base
  · have H : Hid (dblB base n most = false) := Lib.hid (by unfold dblB; rw [ha]; rfl)
    go_enter Try.func21, Try.ntmps21
    go_wp2_with (go_at_call 23; refine (ris_calls _ _).mono ?_; rintro e w' ⟨rfl, rfl⟩)
    go_ret2
    exact ⟨ret_two (by rw [dblV, H.out]; rfl) (by rw [dblC, H.out]; rfl), rfl⟩
  · cases hb : isT most
    · have H : Hid (dblB base n most = false) := Lib.hid (by unfold dblB; rw [ha, hb]; rfl)
      go_enter Try.func21, Try.ntmps21
      go_wp2_with (go_at_call 23; refine (ris_calls _ _).mono ?_; rintro e w' ⟨rfl, rfl⟩)
      go_ret2
      exact ⟨ret_two (by rw [dblV, H.out]; rfl) (by rw [dblC, H.out]; rfl), rfl⟩
    · by_cases hm : most < base
      · have H : Hid (dblB base n most = false) := Lib.hid (by unfold dblB; rw [ha, hb, decide_eq_false (by omega)]; rfl)
        go_enter Try.func21, Try.ntmps21
        go_wp2_with (go_at_call 23; refine (ris_calls _ _).mono ?_; rintro e w' ⟨rfl, rfl⟩)
        go_ret2
        exact ⟨ret_two (by rw [dblV, H.out]; rfl) (by rw [dblC, H.out]; rfl), rfl⟩
      · by_cases hn : n < 0
        · have H : Hid (dblB base n most = false) := Lib.hid (by unfold dblB; rw [decide_eq_false (p := 0 ≤ n) (by omega)]; simp)
          go_enter Try.func21, Try.ntmps21
          go_wp2_with (go_at_call 23; refine (ris_calls _ _).mono ?_; rintro e w' ⟨rfl, rfl⟩)
          go_ret2
          exact ⟨ret_two (by rw [dblV, H.out]; rfl) (by rw [dblC, H.out]; rfl), rfl⟩
        · obtain ⟨a0, a1⟩ := isT_iff.1 ha
          obtain ⟨b0, b1⟩ := isT_iff.1 hb
          have n0 : 0 ≤ n := by omega
          have H : Hid (dblB base n most = true) := Lib.hid (dblB_iff.2 ⟨ha, hb, by omega, n0⟩)
          have HC : Hid (dbl base (min n.toNat 64) most = dbl base n.toNat most) := Lib.hid (dbl_cap base most n a0 (by omega) b1)
          go_enter Try.func21, Try.ntmps21
          go_wp2_with (go_at_call 23; refine (ris_calls _ _).mono ?_; rintro e w' ⟨rfl, rfl⟩)
          go_loop [0, 8] (fun x i => ∃ k : Nat, k ≤ min n.toNat 64 ∧ i = .int .i64 k ∧ x = .int .i64 (dbl base k most)) (fun _ i => 64 - (intOf i).toNat)
          case atStart => exact ⟨0, by omega, rfl, by rw [show dbl base 0 most = base by unfold dbl; simp; omega]⟩
          case round =>
            obtain ⟨k, hk, rfl, rfl⟩ := hrel
            have hmo := dbl_mono base k most a0 (by omega)
            have HS : Hid (dbl base (k + 1) most = min (dbl base k most + dbl base k most) most) := Lib.hid (dbl_succ base k most a0 b0)
            by_cases hlt : (k : Int) < n
            · by_cases h64 : k < 64
              · by_cases hmin : dbl base k most + dbl base k most < most
                all_goals
                  go_wp2
                  go_round
                  case rel => exact ⟨k + 1, by omega, by go_num, by rw [HS.out]; go_num⟩
                  case measure => simp [intOf]; omega
              · go_wp2
                go_ret2
                exact ⟨ret_two (by rw [dblV, H.out, ← HC.out, show min n.toNat 64 = k by omega]; rfl) (by rw [dblC, H.out]; rfl), rfl⟩
            · go_wp2
              go_ret2
              exact ⟨ret_two (by rw [dblV, H.out, ← HC.out, show min n.toNat 64 = k by omega]; rfl) (by rw [dblC, H.out]; rfl), rfl⟩
end Go.Proofs.Ytblmjacphhpekaa.Calc
