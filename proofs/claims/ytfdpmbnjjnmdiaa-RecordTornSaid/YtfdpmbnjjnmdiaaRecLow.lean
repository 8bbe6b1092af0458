/-
  Layer 8 (record): Check, Len, the numbers that bytes tell, walked.
-/
import Derived.Test.YtfdpmbnjjnmdiaaRecPlain
import Derived.Test.YtfdpmbnjjnmdiaaSumFit
import Derived.Test.YtfdpmbnjjnmdiaaOwn
namespace Go.Proofs.Ytfdpmbnjjnmdiaa.Rec
open Go.RowKit Go.Proofs.Ytfdpmbnjjnmdiaa.Sum

/-- may a number be a tick? -/
def isT (n : Int) : Bool := decide (0 ≤ n) && decide (n ≤ 1099511627776)
theorem isT_iff {n : Int} : isT n = true ↔ 0 ≤ n ∧ n ≤ 1099511627776 := by simp [isT]
theorem isT_not {n : Int} : isT n = false ↔ n < 0 ∨ 1099511627776 < n := by
  rw [← Bool.not_eq_true, isT_iff]; omega
theorem ist_calls (n : Int) (w : World) :
    Calls Try.prog 22 #[.int .i64 n] w fun e w' => e = .returned (.bool (isT n)) ∧ w = w' := by
  by_cases h0 : 0 ≤ n
  · by_cases h1 : n ≤ 1099511627776
    · go_enter Try.func22, Try.ntmps22
      go_wp2
      go_ret
      exact ⟨ret_bool (by rw [isT_iff.2 ⟨h0, h1⟩]), rfl⟩
    · go_enter Try.func22, Try.ntmps22
      go_wp2
      go_ret
      exact ⟨ret_bool (by rw [isT_not.2 (by omega)]), rfl⟩
  · go_enter Try.func22, Try.ntmps22
    go_wp2
    go_ret
    exact ⟨ret_bool (by rw [isT_not.2 (by omega)]), rfl⟩

/-- the ways through an item's check -/
theorem chk_ways (k a : Int) (b : ByteArray) :
    (k < 1 ∧ chk ⟨k, a, b⟩ = 1) ∨ (1 ≤ k ∧ 15 < k ∧ chk ⟨k, a, b⟩ = 1) ∨ (1 ≤ k ∧ k ≤ 15 ∧ a < 0 ∧ chk ⟨k, a, b⟩ = 2) ∨ (1 ≤ k ∧ k ≤ 15 ∧ 0 ≤ a ∧ 1099511627776 < a ∧ chk ⟨k, a, b⟩ = 2) ∨
    (1 ≤ k ∧ k ≤ 15 ∧ 0 ≤ a ∧ a ≤ 1099511627776 ∧ 4096 < b.size ∧ chk ⟨k, a, b⟩ = 5) ∨ (1 ≤ k ∧ k ≤ 15 ∧ 0 ≤ a ∧ a ≤ 1099511627776 ∧ b.size ≤ 4096 ∧ chk ⟨k, a, b⟩ = 0) := by
  by_cases h1 : k < 1
  · exact .inl ⟨h1, chk_arg (.inl h1)⟩
  · by_cases h2 : 15 < k
    · exact .inr (.inl ⟨by omega, h2, chk_arg (.inr h2)⟩)
    · have k1 : 1 ≤ k := by omega
      have k2 : k ≤ 15 := by omega
      by_cases h3 : a < 0
      · exact .inr (.inr (.inl ⟨k1, k2, h3, chk_range k1 k2 (.inl h3)⟩))
      · by_cases h4 : 1099511627776 < a
        · exact .inr (.inr (.inr (.inl ⟨k1, k2, by omega, h4, chk_range k1 k2 (.inr h4)⟩)))
        · by_cases h5 : 4096 < b.size
          · exact .inr (.inr (.inr (.inr (.inl ⟨k1, k2, by omega, by omega, h5, chk_size k1 k2 (show (0 : Int) ≤ a by omega) (show a ≤ 1099511627776 by omega) h5⟩))))
          · exact .inr (.inr (.inr (.inr (.inr ⟨k1, k2, by omega, by omega, by omega, chk_ok.2 ⟨k1, k2, by show (0 : Int) ≤ a; omega, by show a ≤ 1099511627776; omega, by show b.size ≤ 4096; omega⟩⟩))))

set_option maxHeartbeats 400000 in
theorem check_calls (k a : Int) (b : ByteArray) (w : World) :
    Calls Try.prog 10 #[.agg #[.int .i64 k, .int .i64 a, .string b]] w fun e w' => e = .returned (.int .i64 (chk ⟨k, a, b⟩)) ∧ Below w.heap.size w w' := by
  rcases chk_ways k a b with ⟨h1, e⟩ | ⟨h1, h2, e⟩ | ⟨h1, h2, h3, e⟩ | ⟨h1, h2, h3, h4, e⟩ | ⟨h1, h2, h3, h4, h5, e⟩ | ⟨h1, h2, h3, h4, h5, e⟩
  all_goals
    have HE := Lib.hid e; clear e
  · go_enter Try.func10, Try.ntmps10
    go_wp2_with fail
    go_ret
    exact ⟨ret_i64 HE.out.symm, (Below.refl _ _).alloc (Nat.le_refl _) _⟩
  · go_enter Try.func10, Try.ntmps10
    go_wp2_with fail
    go_ret
    exact ⟨ret_i64 HE.out.symm, (Below.refl _ _).alloc (Nat.le_refl _) _⟩
  · have hT : isT a = false := isT_not.2 (by omega)
    go_enter Try.func10, Try.ntmps10
    go_wp2_with (go_at_call 22; refine (ist_calls _ _).mono ?_; rintro e w' ⟨rfl, rfl⟩)
    go_ret
    exact ⟨ret_i64 HE.out.symm, (Below.refl _ _).alloc (Nat.le_refl _) _⟩
  · have hT : isT a = false := isT_not.2 (by omega)
    go_enter Try.func10, Try.ntmps10
    go_wp2_with (go_at_call 22; refine (ist_calls _ _).mono ?_; rintro e w' ⟨rfl, rfl⟩)
    go_ret
    exact ⟨ret_i64 HE.out.symm, (Below.refl _ _).alloc (Nat.le_refl _) _⟩
  · have hT : isT a = true := isT_iff.2 (by omega)
    go_enter Try.func10, Try.ntmps10
    go_wp2_with (go_at_call 22; refine (ist_calls _ _).mono ?_; rintro e w' ⟨rfl, rfl⟩)
    go_ret
    exact ⟨ret_i64 HE.out.symm, (Below.refl _ _).alloc (Nat.le_refl _) _⟩
  · have hT : isT a = true := isT_iff.2 (by omega)
    go_enter Try.func10, Try.ntmps10
    go_wp2_with (go_at_call 22; refine (ist_calls _ _).mono ?_; rintro e w' ⟨rfl, rfl⟩)
    go_ret
    exact ⟨ret_i64 HE.out.symm, (Below.refl _ _).alloc (Nat.le_refl _) _⟩

set_option maxHeartbeats 400000 in
theorem rcheck_calls (k a : Int) (b : ByteArray) (w : World) :
    Calls Try.prog 19 #[.agg #[.int .i64 k, .int .i64 a, .string b]] w fun e w' => e = .returned (.int .i64 (chk ⟨k, a, b⟩)) ∧ Below w.heap.size w w' := by
  rcases chk_ways k a b with ⟨h1, e⟩ | ⟨h1, h2, e⟩ | ⟨h1, h2, h3, e⟩ | ⟨h1, h2, h3, h4, e⟩ | ⟨h1, h2, h3, h4, h5, e⟩ | ⟨h1, h2, h3, h4, h5, e⟩
  all_goals
    have HE := Lib.hid e; clear e
    go_enter Try.func19, Try.ntmps19
    go_wp2_with fail
    go_ret
    exact ⟨ret_i64 HE.out.symm, (Below.refl _ _).alloc (Nat.le_refl _) _⟩

theorem whole_calls (n : Int) (h0 : 0 ≤ n) (h1 : n ≤ 4611686018427387904) (w : World) :
    Calls Try.prog 23 #[.int .i64 n] w fun e w' => e = .returned (.int .i64 (14 + n)) ∧ w = w' := by
  go_enter Try.func23, Try.ntmps23
  go_wp2_with fail
  go_ret
  exact ⟨ret_i64 (by omega), rfl⟩

theorem len_calls (k a : Int) (b : ByteArray) (hb : b.size ≤ 4611686018427387904) (w : World) :
    Calls Try.prog 11 #[.agg #[.int .i64 k, .int .i64 a, .string b]] w fun e w' => e = .returned (.int .i64 (14 + (b.size : Int))) ∧ Below w.heap.size w w' := by
  have h0 : (0 : Int) ≤ (b.size : Int) := by omega
  have h1 : (b.size : Int) ≤ 4611686018427387904 := by omega
  go_enter Try.func11, Try.ntmps11
  go_wp2_with (go_at_call 23; refine (whole_calls _ (by omega) (by omega) _).mono ?_; rintro e w' ⟨rfl, rfl⟩)
  go_ret
  exact ⟨rfl, (Below.refl _ _).alloc (Nat.le_refl _) _⟩

theorem or_more {x c : Int} (h0 : 0 ≤ x) (h1 : x < 1099511627776) (c0 : 0 ≤ c) (c1 : c < 256) : bits .or .i64 (x * 256) c = x * 256 + c := by
  exact bits_join .i64 63 (by decide) (fun n a b => by rw [IntKind.wrap_i64]; omega) 8 _ _ (by omega) (by omega) (by omega) c0 (by omega) (by omega)
theorem be_less (s : ByteArray) (hs : s.size ≤ 6) (k : Nat) (h : k < s.size) : 0 ≤ be (s.data.toList.take k) ∧ be (s.data.toList.take k) < 1099511627776 := by
  have hb := be_range s k (by omega)
  refine ⟨hb.1, Int.lt_of_lt_of_le hb.2 ?_⟩
  have : k = 0 ∨ k = 1 ∨ k = 2 ∨ k = 3 ∨ k = 4 ∨ k = 5 := by omega
  rcases this with rfl | rfl | rfl | rfl | rfl | rfl <;> decide

set_option maxHeartbeats 400000 in
theorem number_calls (s : ByteArray) (hs : s.size ≤ 6) (w : World) :
    Calls Try.prog 28 #[.string s] w fun e w' => e = .returned (.int .i64 (be s.data.toList)) ∧ w = w' := by
  go_enter Try.func28, Try.ntmps28
  go_wp2_with fail
  go_loop [3, 7] (fun n i => ∃ k : Nat, k ≤ s.size ∧ i = .int .i64 k ∧ n = .int .i64 (be (s.data.toList.take k))) (fun _ i => s.size - (intOf i).toNat)
  case atStart => exact ⟨0, Nat.zero_le _, rfl, rfl⟩
  case round =>
    obtain ⟨k, hk, rfl, rfl⟩ := hrel
    by_cases hlt : k < s.size
    · have HS := Lib.hid (be_snoc s k hlt)
      have hc : (s[k].toNat : Int) < 256 := by have := s[k].toNat_lt; omega
      obtain ⟨hb0, hb2⟩ := be_less s hs k hlt
      generalize be (s.data.toList.take k) = v at hb0 hb2 HS ⊢
      have ho := or_more hb0 hb2 (c := (s[k].toNat : Int)) (by omega) (by omega)
      go_wp2_with fail
      go_round
      case rel => exact ⟨k + 1, by omega, by go_num, by rw [HS.out]⟩
      case measure => simp [intOf]; omega
    · have he : s.data.toList.take k = s.data.toList := List.take_of_length_le (by rw [size_list]; omega)
      rw [he] at *
      clear he
      go_wp2_with fail
      go_ret
      exact ⟨rfl, rfl⟩

set_option maxHeartbeats 400000 in
theorem rnumber_calls (s : ByteArray) (hs : s.size ≤ 6) (w : World) :
    Calls Try.prog 26 #[.string s] w fun e w' => e = .returned (.int .i64 (be s.data.toList)) ∧ w = w' := by
  go_enter Try.func26, Try.ntmps26
  go_wp2_with fail
  go_loop [3, 4] (fun n i => ∃ k : Nat, k ≤ s.size ∧ i = .int .i64 k ∧ n = .int .i64 (be (s.data.toList.take k))) (fun _ i => s.size - (intOf i).toNat)
  case atStart => exact ⟨0, Nat.zero_le _, rfl, rfl⟩
  case round =>
    obtain ⟨k, hk, rfl, rfl⟩ := hrel
    by_cases hlt : k < s.size
    · have HS := Lib.hid (be_snoc s k hlt)
      have hc : (s[k].toNat : Int) < 256 := by have := s[k].toNat_lt; omega
      obtain ⟨hb0, hb2⟩ := be_less s hs k hlt
      generalize be (s.data.toList.take k) = v at hb0 hb2 HS ⊢
      go_wp2_with fail
      go_round
      case rel => exact ⟨k + 1, by omega, by go_num, by rw [HS.out, Int.mul_comm]⟩
      case measure => simp [intOf]; omega
    · have he : s.data.toList.take k = s.data.toList := List.take_of_length_le (by rw [size_list]; omega)
      rw [he] at *
      clear he
      go_wp2_with fail
      go_ret
      exact ⟨rfl, rfl⟩

end Go.Proofs.Ytfdpmbnjjnmdiaa.Rec
