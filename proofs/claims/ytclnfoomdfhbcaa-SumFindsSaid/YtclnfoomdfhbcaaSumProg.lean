/-
  Layer 7 (sum): the program's is, of, Of, power, Join and the document's Read, walked.
-/
import Derived.Test.YtclnfoomdfhbcaaSumRef
import Derived.Laws.BitsLemmas
import Derived.WalkSmall
import Derived.Deep.Draws
import Derived.Deep.QuietTactic
import Derived.BigQuiet
namespace Go.Proofs.Ytclnfoomdfhbcaa.Sum
open Go.RowKit

theorem be_size (s : ByteArray) (h : s.size = 4) : be s.data.toList = (((s[0].toNat : Int) * (256 : Int) + (s[1].toNat : Int)) * (256 : Int) + (s[2].toNat : Int)) * (256 : Int) + (s[3].toNat : Int) := by
  obtain ⟨⟨l⟩⟩ := s
  match l, h with
  | [a, b, c, d], _ => exact be_four a b c d

set_option maxRecDepth 100000 in
set_option maxHeartbeats 400000 in
theorem rread_calls (s : ByteArray) (w : World) :
    Calls Try.prog 8 #[.string s] w fun e w' => e = .returned (.tuple #[.int .i64 (rdV s.data.toList), .int .i64 (rdC s.data.toList)]) ∧ ∃ m, w' = w.drewN m := by
  by_cases h : s.size = 4
  · have hb := be_size s h
    have c0 : (s[0].toNat : Int) < 256 := by have := s[0].toNat_lt; omega
    have c1 : (s[1].toNat : Int) < 256 := by have := s[1].toNat_lt; omega
    have c2 : (s[2].toNat : Int) < 256 := by have := s[2].toNat_lt; omega
    have c3 : (s[3].toNat : Int) < 256 := by have := s[3].toNat_lt; omega
    by_cases h2 : be s.data.toList < 2147483647
    · obtain ⟨e1, e2⟩ := rd_some (l := s.data.toList) h h2
      rw [e1, e2]
      rw [hb] at h2
      have HB := Lib.hid hb
      have H2 := Lib.hid h2
      clear e1 e2 hb h2
      go_enter Try.func8, Try.ntmps8
      go_wp2_with fail
      go_quiet (fail)
      have h2 := H2.out
      have hb := HB.out
      clear H2 HB
      generalize ((((s[0].toNat : Int) * (256 : Int) + (s[1].toNat : Int)) * (256 : Int) + (s[2].toNat : Int)) * (256 : Int) + (s[3].toNat : Int)) = v at h2 hb ⊢
      have HB := Lib.hid hb
      clear hb
      go_wp2_with fail
      go_ret2
      exact ⟨ret_two HB.out.symm rfl, _, rfl⟩
    · obtain ⟨e1, e2⟩ := rd_over (l := s.data.toList) h h2
      rw [e1, e2]
      rw [hb] at h2
      clear e1 e2 hb
      go_enter Try.func8, Try.ntmps8
      go_wp2_with fail
      go_quiet (fail)
      go_wp2_with fail
      go_ret2
      exact ⟨rfl, _, rfl⟩
  · obtain ⟨e1, e2⟩ := rd_size (l := s.data.toList) h
    rw [e1, e2]
    clear e1 e2
    go_enter Try.func8, Try.ntmps8
    go_wp2_with fail
    go_ret2
    exact ⟨rfl, 0, rfl⟩

theorem is_calls (n : Int) (w : World) :
    Calls Try.prog 17 #[.int .i64 n] w fun e w' => e = .returned (.bool (isSum n)) ∧ w = w' := by
  by_cases h0 : 0 ≤ n
  · by_cases h1 : n < 2147483647
    · go_enter Try.func17, Try.ntmps17
      go_wp2_with fail
      go_ret
      exact ⟨ret_bool (by rw [isSum_iff.2 ⟨h0, h1⟩]), rfl⟩
    · go_enter Try.func17, Try.ntmps17
      go_wp2_with fail
      go_ret
      exact ⟨ret_bool (by rw [isSum_not.2 (by omega)]), rfl⟩
  · go_enter Try.func17, Try.ntmps17
    go_wp2_with fail
    go_ret
    exact ⟨ret_bool (by rw [isSum_not.2 (by omega)]), rfl⟩

set_option maxHeartbeats 400000 in
theorem of0_calls (s : ByteArray) (hs : s.size ≤ 9223372036854775807) (w : World) :
    Calls Try.prog 18 #[.string s] w fun e w' => e = .returned (.int .i64 (sumOf s.data.toList)) ∧ w = w' := by
  go_enter Try.func18, Try.ntmps18
  go_wp2_with fail
  go_loop [3, 7] (fun n i => ∃ k : Nat, k ≤ s.size ∧ i = .int .i64 k ∧ n = .int .i64 (sumOf (s.data.toList.take k))) (fun _ i => s.size - (intOf i).toNat)
  case atStart => exact ⟨0, Nat.zero_le _, rfl, rfl⟩
  case round =>
    obtain ⟨k, hk, rfl, rfl⟩ := hrel
    obtain ⟨hb1, hb2⟩ := sumOf_range (s.data.toList.take k)
    by_cases hlt : k < s.size
    · have HS := Lib.hid (sum_snoc s k hlt)
      have hc : (s[k].toNat : Int) < 256 := by have := s[k].toNat_lt; omega
      go_wp2_with fail
      go_round
      case rel => exact ⟨k + 1, by omega, by go_num, by rw [HS.out]⟩
      case measure => simp [intOf]; omega
    · have he : s.data.toList.take k = s.data.toList := List.take_of_length_le (by rw [size_list]; omega)
      rw [he] at *
      clear he
      go_wp2_with fail
      go_ret
      exact ⟨rfl, rfl⟩
theorem of_calls (s : ByteArray) (hs : s.size ≤ 9223372036854775807) (w : World) :
    Calls Try.prog 9 #[.string s] w fun e w' => e = .returned (.int .i64 (sumOf s.data.toList)) ∧ w = w' := by
  go_enter Try.func9, Try.ntmps9
  go_wp2_with (go_at_call 18; refine (of0_calls _ hs _).mono ?_; rintro e w' ⟨rfl, rfl⟩)
  go_ret
  exact ⟨rfl, rfl⟩

set_option maxHeartbeats 400000 in
theorem power_calls (n : Int) (h0 : 0 ≤ n) (h1 : n ≤ 9223372036854775807) (w : World) :
    Calls Try.prog 19 #[.int .i64 n] w fun e w' => e = .returned (.int .i64 (pw n)) ∧ w = w' := by
  go_enter Try.func19, Try.ntmps19
  go_wp2_with fail
  go_loop [0, 3, 4] (fun x y z => ∃ m p q : Int, 0 ≤ m ∧ m ≤ 9223372036854775807 ∧ 0 ≤ p ∧ p < 2147483647 ∧ 0 ≤ q ∧ q < 2147483647 ∧ x = .int .i64 m ∧ y = .int .i64 p ∧ z = .int .i64 q ∧ Hid (Left n m p q)) (fun x _ _ => (intOf x).toNat)
  case atStart => exact ⟨n, 1, 257, h0, h1, by omega, by omega, by omega, by omega, rfl, rfl, rfl, Lib.hid (left_start n)⟩
  case round =>
    obtain ⟨m, p, q, m0, m1, p0, p1, q0, q1, rfl, rfl, rfl, HL⟩ := hrel
    obtain ⟨r0, r1⟩ := prod_range p0 p1 q0 q1
    obtain ⟨t0, t1⟩ := prod_range q0 q1 q0 q1
    by_cases hm : 0 < m
    · by_cases ho : m % 2 = 1
      · go_wp2_with fail
        go_round
        case rel => exact ⟨m / 2, p * q % 2147483647, q * q % 2147483647, by omega, by omega, by omega, by omega, by omega, by omega, rfl, rfl, rfl, Lib.hid (left_odd HL.out hm ho)⟩
        case measure => simp [intOf]; omega
      · have he : m % 2 = 0 := by omega
        clear ho
        go_wp2_with fail
        go_round
        case rel => exact ⟨m / 2, p, q * q % 2147483647, by omega, by omega, by omega, by omega, by omega, by omega, rfl, rfl, rfl, Lib.hid (left_even HL.out hm he)⟩
        case measure => simp [intOf]; omega
    · obtain rfl : m = 0 := by omega
      go_wp2_with fail
      go_ret
      exact ⟨ret_i64 (left_end HL.out p0 p1), rfl⟩

set_option maxRecDepth 100000 in
set_option maxHeartbeats 400000 in
theorem join_calls (a b n : Int) (hn : n ≤ 9223372036854775807) (w : World) :
    Calls Try.prog 15 #[.int .i64 a, .int .i64 b, .int .i64 n] w fun e w' => e = .returned (.tuple #[.int .i64 (jV a b n), .int .i64 (jC a b n)]) ∧ w = w' := by
  by_cases h : 0 ≤ a ∧ a < 2147483647 ∧ 0 ≤ b ∧ b < 2147483647 ∧ 0 ≤ n
  · obtain ⟨e1, e2⟩ := j_some h
    rw [e1, e2]
    obtain ⟨a0, a1, b0, b1, n0⟩ := h
    clear e1 e2
    rw [← shift_pw a0 a1 b n]
    have ka := isSum_iff.2 ⟨a0, a1⟩
    have kb := isSum_iff.2 ⟨b0, b1⟩
    obtain ⟨q0, q1⟩ := pw_range n
    have HP := fun W => power_calls n n0 hn W
    generalize pw n = q at q0 q1 HP ⊢
    obtain ⟨r0, r1⟩ := prod_range a0 a1 q0 q1
    have HQ := Lib.hid HP; clear HP
    go_enter Try.func15, Try.ntmps15
    go_wp2_with (first | (go_at_call 17; refine (is_calls _ _).mono ?_; rintro e w' ⟨rfl, rfl⟩) | (go_at_call 19; refine (HQ.out _).mono ?_; rintro e w' ⟨rfl, rfl⟩))
    go_ret2
    exact ⟨rfl, rfl⟩
  · obtain ⟨e1, e2⟩ := j_none h
    rw [e1, e2]
    have hh : isSum a = false ∨ (isSum a = true ∧ isSum b = false) ∨ (isSum a = true ∧ isSum b = true ∧ n < 0) := by
      cases ka : isSum a
      · exact .inl rfl
      · cases kb : isSum b
        · exact .inr (.inl ⟨rfl, rfl⟩)
        · refine .inr (.inr ⟨rfl, rfl, ?_⟩)
          have := isSum_iff.1 ka
          have := isSum_iff.1 kb
          omega
    clear h e1 e2
    rcases hh with h | ⟨h, h2⟩ | ⟨h, h2, h3⟩
    all_goals
      go_enter Try.func15, Try.ntmps15
      go_wp2_with (go_at_call 17; refine (is_calls _ _).mono ?_; rintro e w' ⟨rfl, rfl⟩)
      go_ret2
      exact ⟨rfl, rfl⟩

end Go.Proofs.Ytclnfoomdfhbcaa.Sum
