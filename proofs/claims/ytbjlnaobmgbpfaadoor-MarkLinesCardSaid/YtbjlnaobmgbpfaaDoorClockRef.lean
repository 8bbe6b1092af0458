/-
  Layer 3 (clock): the document's own answers, walked.
-/
import Derived.Test.YtbjlnaobmgbpfaaDoorNumRef
import Derived.Test.YtbjlnaobmgbpfaaDoorClockPlain
import Derived.OwnWalk
namespace Go.Proofs.YtbjlnaobmgbpfaaDoor.Clock
open Go.RowKit Go.Proofs.YtbjlnaobmgbpfaaDoor.Digit

theorem ret_i64 {a b : Int} (h : a = b) : Ending.returned (.int .i64 a) = .returned (.int .i64 b) := by rw [h]
theorem ret_3 {a b c a' b' c' : Int} (h : a = a') (g : b = b') (i : c = c') : Ending.returned (.tuple #[.int .i64 a, .int .i64 b, .int .i64 c]) = .returned (.tuple #[.int .i64 a', .int .i64 b', .int .i64 c']) := by rw [h, g, i]

theorem leap_yes {y : Int} (h : y % 400 = 0 ∨ (¬ y % 100 = 0 ∧ y % 4 = 0)) : leapI y = 1 := if_pos h
theorem leap_no {y : Int} (h : ¬ (y % 400 = 0 ∨ (¬ y % 100 = 0 ∧ y % 4 = 0))) : leapI y = 0 := if_neg h

set_option maxHeartbeats 400000 in
theorem rlong_calls (y m : Int) (h0 : 0 ≤ y) (h1 : y ≤ 300000) (m1 : 1 ≤ m) (m2 : m ≤ 12) (w : World) :
    Calls Tryd.prog 38 #[.int .i64 y, .int .i64 m] w fun e w' => e = .returned (.int .i64 (lng y m)) ∧ w = w' := by
  by_cases hm : m = 2
  · subst hm
    by_cases a : y % 400 = 0
    · have H := Lib.hid (leap_yes (y := y) (.inl a))
      have e : (y % 400 == 0) = true := by simp [a]
      have f : (y % 400 != 0) = false := by simp [a]
      clear a
      go_enter Tryd.func38, Tryd.ntmps38
      go_wp2_with fail
      go_ret
      exact ⟨ret_i64 (by simp [lng, mdt, H.out]), rfl⟩
    · have e : (y % 400 == 0) = false := by simp [a]
      have f : (y % 400 != 0) = true := by simp [a]
      by_cases b : y % 100 = 0
      · have H := Lib.hid (leap_no (y := y) (by omega))
        have e2 : (y % 100 == 0) = true := by simp [b]
        have f2 : (y % 100 != 0) = false := by simp [b]
        clear a b
        go_enter Tryd.func38, Tryd.ntmps38
        go_wp2_with fail
        go_ret
        exact ⟨ret_i64 (by simp [lng, mdt, H.out]), rfl⟩
      · have e2 : (y % 100 == 0) = false := by simp [b]
        have f2 : (y % 100 != 0) = true := by simp [b]
        by_cases c : y % 4 = 0
        · have H := Lib.hid (leap_yes (y := y) (.inr ⟨b, c⟩))
          have e3 : (y % 4 == 0) = true := by simp [c]
          clear a b c
          go_enter Tryd.func38, Tryd.ntmps38
          go_wp2_with fail
          go_ret
          exact ⟨ret_i64 (by simp [lng, mdt, H.out]), rfl⟩
        · have H := Lib.hid (leap_no (y := y) (by omega))
          have e3 : (y % 4 == 0) = false := by simp [c]
          clear a b c
          go_enter Tryd.func38, Tryd.ntmps38
          go_wp2_with fail
          go_ret
          exact ⟨ret_i64 (by simp [lng, mdt, H.out]), rfl⟩
  · have h : m = 1 ∨ m = 3 ∨ m = 4 ∨ m = 5 ∨ m = 6 ∨ m = 7 ∨ m = 8 ∨ m = 9 ∨ m = 10 ∨ m = 11 ∨ m = 12 := by omega
    rcases h with rfl | rfl | rfl | rfl | rfl | rfl | rfl | rfl | rfl | rfl | rfl
    all_goals
      go_enter Tryd.func38, Tryd.ntmps38
      go_wp2_with fail
      go_ret
      exact ⟨rfl, rfl⟩

theorem year_le {c k y : Int} (h : dty c ≤ k) (h1 : k < dty (y + 1)) (hy : 2000 ≤ y) : c ≤ y := by
  by_cases e : c ≤ y
  · exact e
  · have := dty_mono (a := y + 1) (b := c) (by omega) (by omega); omega
theorem dty_400 {y : Int} (h : 1 ≤ y) : dty (y + 400) = dty y + 146097 := by
  unfold dty lp; rw [if_neg (by omega), if_neg (by omega)]; omega
theorem lng_feb (y : Int) : 337 + lng y 2 = 365 + leapI y := by simp [lng, mdt]; omega
theorem year_next {y : Int} (h : 1 ≤ y) : dty (y + 1) = dty y + (337 + lng y 2) := by rw [dty_step h, lng_feb]; omega

set_option maxRecDepth 100000 in
set_option maxHeartbeats 1000000 in
theorem rdate_some (n y m d : Int) (h0 : 0 ≤ n) (h1 : n ≤ 252455615999) (hd : IsDay (n / 86400) y m d) (w : World) :
    Calls Tryd.prog 30 #[.int .i64 n] w fun e w' => e = .returned (.tuple #[.int .i64 y, .int .i64 m, .int .i64 d]) ∧ w = w' := by
  have hy9 := isday_9999 (k := (n / 86400).toNat) (by rwa [show ((n / 86400).toNat : Int) = n / 86400 by omega]) (by omega)
  obtain ⟨y1, y2⟩ := isday_year hd
  obtain ⟨h2000, m1, m2, d1, d2, hk⟩ := hd
  have HK := Lib.hid hk
  clear hk
  go_enter Tryd.func30, Tryd.ntmps30
  go_wp2_with fail
  go_loop [5, 6] (fun x z => ∃ c : Int, 2000 ≤ c ∧ c ≤ y ∧ dty c ≤ n / 86400 ∧ z = .int .i64 c ∧ x = .int .i64 (n / 86400 - dty c)) (fun x _ => (intOf x).toNat)
  case atStart => exact ⟨2000, by omega, by omega, by rw [dty_2000]; omega, rfl, by rw [dty_2000]; go_num⟩
  case round =>
    obtain ⟨c, hc1, hc2, hc3, rfl, rfl⟩ := hrel
    have hdc := dty_bd (y := c) (by omega) (by omega)
    by_cases hlt : n / 86400 - dty c < 146097
    · go_wp2_with fail
      go_loop [5, 6] (fun x z => ∃ c : Int, 2000 ≤ c ∧ c ≤ y ∧ dty c ≤ n / 86400 ∧ z = .int .i64 c ∧ x = .int .i64 (n / 86400 - dty c)) (fun x _ => (intOf x).toNat)
      case atStart => exact ⟨c, hc1, hc2, hc3, rfl, rfl⟩
      case round =>
        clear hlt hc1 hc2 hc3 hdc
        obtain ⟨g, hc1, hc2, hc3, rfl, rfl⟩ := hrel
        have hdc := dty_bd (y := g) (by omega) (by omega)
        have hl2 := lng_bd (y := g) (m := 2)
        have HN := Lib.hid (year_next (y := g) (by omega))
        by_cases hlt : n / 86400 - dty g < 337 + lng g 2
        · obtain rfl : y = g := by
            have h1 := HN.out
            by_cases e : y = g
            · exact e
            · have := dty_mono (a := g + 1) (b := y) (by omega) (by omega); omega
          go_wp2_with (go_at_call 38; refine (rlong_calls _ _ (by omega) (by omega) (by omega) (by omega) _).mono ?_; rintro e w' ⟨rfl, rfl⟩)
          go_loop [5, 7] (fun x z => ∃ j : Int, 1 ≤ j ∧ j ≤ m ∧ z = .int .i64 j ∧ x = .int .i64 (n / 86400 - dty y - cum y j)) (fun _ z => (12 - intOf z).toNat)
          case atStart => exact ⟨1, by omega, m1, rfl, by rw [cum_1]; go_num⟩
          case round =>
            obtain ⟨j, hj1, hj2, rfl, rfl⟩ := hrel
            have hl3 := lng_bd (y := y) (m := j)
            have hcp := cum_pos y j
            have hcl := cum_lng (y := y) hj1 (by omega)
            have hly := leap_bd y
            by_cases hjm : j < m
            · have hcm := cum_mono (y := y) hj1 hjm m2
              have hge : lng y j ≤ n / 86400 - dty y - cum y j := by have := HK.out; omega
              have HS := Lib.hid (cum_step (y := y) hj1 (by omega))
              go_wp2_with (go_at_call 38; refine (rlong_calls _ _ (by omega) (by omega) (by omega) (by omega) _).mono ?_; rintro e w' ⟨rfl, rfl⟩)
              go_round
              case rel => exact ⟨j + 1, by omega, by omega, rfl, by rw [HS.out]; go_num⟩
              case measure => simp [intOf]; omega
            · obtain rfl : m = j := by omega
              have hge : n / 86400 - dty y - cum y m < lng y m := by have := HK.out; omega
              go_wp2_with (go_at_call 38; refine (rlong_calls _ _ (by omega) (by omega) (by omega) (by omega) _).mono ?_; rintro e w' ⟨rfl, rfl⟩)
              go_ret3
              exact ⟨ret_3 rfl rfl (by have := HK.out; omega), rfl⟩
        · have hcy : g + 1 ≤ y := year_le (k := n / 86400) (by rw [HN.out]; omega) y2 (by omega)
          go_wp2_with (go_at_call 38; refine (rlong_calls _ _ (by omega) (by omega) (by omega) (by omega) _).mono ?_; rintro e w' ⟨rfl, rfl⟩)
          go_round
          case rel => exact ⟨g + 1, by omega, hcy, by rw [HN.out]; omega, rfl, by rw [HN.out]; go_num⟩
          case measure => simp [intOf]; omega
    · have H4 := Lib.hid (dty_400 (y := c) (by omega))
      have hcy : c + 400 ≤ y := year_le (k := n / 86400) (by rw [H4.out]; omega) y2 (by omega)
      go_wp2_with fail
      go_round
      case rel => exact ⟨c + 400, by omega, hcy, by rw [H4.out]; omega, rfl, by rw [H4.out]; go_num⟩
      case measure => simp [intOf]; omega

end Go.Proofs.YtbjlnaobmgbpfaaDoor.Clock
