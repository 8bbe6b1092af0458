/-
  Layer 2 (digit): the document's own answers, walked: digits, decimals, padding, hex.
-/
import Derived.WalkKit
import Derived.WalkSpells
import Derived.Test.YtpdjjcgffnkhcaaProg
import Derived.Test.YtpdjjcgffnkhcaaDigitPlain
import Derived.Lib.Hide
namespace Go.Proofs.Ytpdjjcgffnkhcaa.Digit
open Go.RowKit

theorem ret_string {a b : ByteArray} (h : a = b) : Ending.returned (.string a) = .returned (.string b) := by rw [h]

theorem bytes_add (a b : List UInt8) : ((⟨a.toArray⟩ : ByteArray) ++ ⟨b.toArray⟩) = ⟨(a ++ b).toArray⟩ := by
  apply ByteArray.ext; simp

set_option maxHeartbeats 400000 in
theorem rdigit_calls (n : Int) (h0 : 0 ≤ n) (h1 : n < 16) (w : World) :
    Calls Try.prog 23 #[.int .i64 n] w fun e w' => e = .returned (.string ⟨#[hexd n.toNat]⟩) ∧ w = w' := by
  have h : n = 0 ∨ n = 1 ∨ n = 2 ∨ n = 3 ∨ n = 4 ∨ n = 5 ∨ n = 6 ∨ n = 7 ∨ n = 8 ∨ n = 9 ∨ n = 10 ∨ n = 11 ∨ n = 12 ∨ n = 13 ∨ n = 14 ∨ n = 15 := by omega
  rcases h with rfl | rfl | rfl | rfl | rfl | rfl | rfl | rfl | rfl | rfl | rfl | rfl | rfl | rfl | rfl | rfl
  all_goals
    go_enter Try.func23, Try.ntmps23
    go_wp2
    go_ret
    exact ⟨rfl, rfl⟩

theorem rput_any (k : Nat) : ∀ (n : Int) (w : World), n.natAbs < k → -9223372036854775808 ≤ n → n ≤ 9223372036854775807 →
    Calls Try.prog 8 #[.int .i64 n] w fun e w' => e = .returned (.string ⟨(dec n).toArray⟩) ∧ w = w' := by
  induction k with
  | zero => intro n w hk; omega
  | succ k ih =>
    intro n w hk h1 h2
    by_cases hp : 0 ≤ n
    · by_cases h10 : n < 10
      · go_enter Try.func8, Try.ntmps8
        go_wp2_with (go_at_call 23; refine (rdigit_calls _ (by omega) (by omega) _).mono ?_; rintro e w' ⟨rfl, rfl⟩)
        go_ret
        exact ⟨ret_string (by rw [dec_lt (by omega) (by omega)]), rfl⟩
      · have H := Lib.hid (dec_ge (n := n) (by omega))
        have L := dec_len (n := n / 10) (by omega) (by omega)
        go_enter Try.func8, Try.ntmps8
        go_wp2_with (first | (go_at_call 23; refine (rdigit_calls _ (by omega) (by omega) _).mono ?_; rintro e w' ⟨rfl, rfl⟩) | (go_at_call 8; refine (ih _ _ (by omega) (by omega) (by omega)).mono ?_; rintro e w' ⟨rfl, rfl⟩))
        go_ret
        exact ⟨ret_string (by rw [H.out]; exact bytes_add _ [_]), rfl⟩
    · by_cases h10 : -10 < n
      · go_enter Try.func8, Try.ntmps8
        go_wp2_with (go_at_call 23; refine (rdigit_calls _ (by omega) (by omega) _).mono ?_; rintro e w' ⟨rfl, rfl⟩)
        go_ret
        exact ⟨ret_string (by rw [dec_neg_lt (by omega) (by omega)]; rfl), rfl⟩
      · have H := Lib.hid (dec_le (n := n) (by omega))
        obtain ⟨t1, t2, t3, t4⟩ := tdiv_facts (n := n) (by omega)
        have L := dec_len (n := n.tdiv 10) (by omega) (by omega)
        by_cases hm : n.tmod 10 < 0
        · go_enter Try.func8, Try.ntmps8
          go_wp2_with (first | (go_at_call 23; refine (rdigit_calls _ (by omega) (by omega) _).mono ?_; rintro e w' ⟨rfl, rfl⟩) | (go_at_call 8; refine (ih _ _ (by omega) (by omega) (by omega)).mono ?_; rintro e w' ⟨rfl, rfl⟩))
          go_ret
          exact ⟨ret_string (by rw [H.out]; exact bytes_add _ [_]), rfl⟩
        · go_enter Try.func8, Try.ntmps8
          go_wp2_with (first | (go_at_call 23; refine (rdigit_calls _ (by omega) (by omega) _).mono ?_; rintro e w' ⟨rfl, rfl⟩) | (go_at_call 8; refine (ih _ _ (by omega) (by omega) (by omega)).mono ?_; rintro e w' ⟨rfl, rfl⟩))
          go_ret
          exact ⟨ret_string (by rw [H.out, show n.tmod 10 = 0 by omega]; exact bytes_add _ [_]), rfl⟩
theorem rput_calls (n : Int) (h1 : -9223372036854775808 ≤ n) (h2 : n ≤ 9223372036854775807) (w : World) :
    Calls Try.prog 8 #[.int .i64 n] w fun e w' => e = .returned (.string ⟨(dec n).toArray⟩) ∧ w = w' :=
  rput_any (n.natAbs + 1) n w (by omega) h1 h2

theorem ret_byte {a b c d : Int} (h : a = b) (g : c = d) : Ending.returned (.tuple #[.int .u8 a, .int .i64 c]) = .returned (.tuple #[.int .u8 b, .int .i64 d]) := by rw [h, g]
theorem ret_num {a b c d : Int} (h : a = b) (g : c = d) : Ending.returned (.tuple #[.int .i64 a, .int .i64 c]) = .returned (.tuple #[.int .i64 b, .int .i64 d]) := by rw [h, g]
theorem size_mk (l : List UInt8) : (⟨l.toArray⟩ : ByteArray).size = l.length := rfl
def lenOf : Value → Nat | .string b => b.size | _ => 0

theorem string_cons (c : UInt8) (l : List UInt8) : Value.string ((⟨#[c]⟩ : ByteArray) ++ ⟨l.toArray⟩) = .string ⟨(c :: l).toArray⟩ := congrArg _ (bytes_add [c] l)

set_option maxHeartbeats 400000 in
theorem rpad_calls (n width : Int) (h1 : -9223372036854775808 ≤ n) (h2 : n ≤ 9223372036854775807) (w : World) :
    Calls Try.prog 10 #[.int .i64 n, .int .i64 width] w fun e w' => e = .returned (.string ⟨(padI n width).toArray⟩) ∧ w = w' := by
  by_cases hn : n < 0
  · have H := Lib.hid (padI_none (n := n) (width := width) (.inl hn))
    go_enter Try.func10, Try.ntmps10
    go_wp2
    go_ret
    exact ⟨ret_string (by rw [H.out]), rfl⟩
  · by_cases hw : width < 0
    · have H := Lib.hid (padI_none (n := n) (width := width) (.inr (.inl hw)))
      go_enter Try.func10, Try.ntmps10
      go_wp2
      go_ret
      exact ⟨ret_string (by rw [H.out]), rfl⟩
    · by_cases hv : 20 < width
      · have H := Lib.hid (padI_none (n := n) (width := width) (.inr (.inr hv)))
        go_enter Try.func10, Try.ntmps10
        go_wp2
        go_ret
        exact ⟨ret_string (by rw [H.out]), rfl⟩
      · have H := Lib.hid (padI_some (n := n) (width := width) (by omega))
        have L := dec_len h1 h2
        obtain ⟨m, rfl⟩ : ∃ m : Nat, width = m := ⟨width.toNat, by omega⟩
        go_enter Try.func10, Try.ntmps10
        go_wp2_with (go_at_call 8; refine (rput_calls _ (by omega) (by omega) _).mono ?_; rintro e w' ⟨rfl, rfl⟩)
        go_loop [5] (fun s => ∃ l : List UInt8, PadAt (dec n) l m ∧ l.length ≤ 20 ∧ s = .string ⟨l.toArray⟩) (fun s => 20 - lenOf s)
        case atStart => exact ⟨_, pad_start _ _, L, rfl⟩
        case round =>
          obtain ⟨l, hp, hl, rfl⟩ := hrel
          by_cases hlt : l.length < m
          · have hp' := pad_next hp hlt
            go_wp2_with fail
            go_round
            case rel => exact ⟨48 :: l, hp', by simp; omega, string_cons _ _⟩
            case measure => rw [string_cons]; simp only [lenOf, size_mk, List.length_cons]; omega
          · have he := Lib.hid (pad_done hp hlt)
            go_wp2_with fail
            go_ret
            exact ⟨ret_string (by rw [H.out, he.out]; rfl), rfl⟩

theorem rhex_calls (c : Int) (h0 : 0 ≤ c) (h1 : c < 256) (w : World) :
    Calls Try.prog 17 #[.int .u8 c] w fun e w' => e = .returned (.string ⟨(hexS c.toNat).toArray⟩) ∧ w = w' := by
  go_enter Try.func17, Try.ntmps17
  go_wp2_with (go_at_call 23; refine (rdigit_calls _ (by omega) (by omega) _).mono ?_; rintro e w' ⟨rfl, rfl⟩)
  go_ret
  exact ⟨ret_string (by rw [show (c / 16).toNat = c.toNat / 16 by omega, show (c % 16).toNat = c.toNat % 16 by omega]; exact bytes_add [_] [_]), rfl⟩

set_option maxRecDepth 100000 in
set_option maxHeartbeats 400000 in
theorem rreadhex_calls (s : List UInt8) (w : World) :
    Calls Try.prog 15 #[.string ⟨s.toArray⟩] w fun e w' => e = .returned (.tuple #[.int .u8 (rhV s), .int .i64 (rhC s)]) ∧ w = w' := by
  by_cases hs : ∃ c : Nat, c < 256 ∧ hexS c = s
  · obtain ⟨c, hc, rfl⟩ := hs
    have H := Lib.hid (rh_some hc)
    go_enter Try.func15, Try.ntmps15
    go_wp2
    go_loop [4] (fun i => ∃ k : Nat, k ≤ c ∧ i = .int .i64 k) (fun i => 256 - (intOf i).toNat)
    case atStart => exact ⟨0, Nat.zero_le _, rfl⟩
    case round =>
      obtain ⟨k, hk, rfl⟩ := hrel
      by_cases he : k = c
      · subst he
        go_wp2_with (go_at_call 17; refine (rhex_calls _ (by omega) (by omega) _).mono ?_; rintro e w' ⟨rfl, rfl⟩)
        go_ret2
        exact ⟨ret_byte H.out.1.symm H.out.2.symm, rfl⟩
      · have hx : (hexS k == hexS c) = false := by rw [beq_eq_false_iff_ne]; exact fun h => he (hexS_inj (by omega) hc h)
        go_wp2_with (go_at_call 17; refine (rhex_calls _ (by omega) (by omega) _).mono ?_; rintro e w' ⟨rfl, rfl⟩)
        go_round
        case rel => exact ⟨k + 1, by omega, by go_num⟩
        case measure => simp [intOf]; omega
  · have H := Lib.hid (rh_none hs)
    have G := Lib.hid hs
    clear hs
    go_enter Try.func15, Try.ntmps15
    go_wp2
    go_loop [4] (fun i => ∃ k : Nat, k ≤ 256 ∧ i = .int .i64 k) (fun i => 256 - (intOf i).toNat)
    case atStart => exact ⟨0, Nat.zero_le _, rfl⟩
    case round =>
      obtain ⟨k, hk, rfl⟩ := hrel
      by_cases he : k < 256
      · have hx : (hexS k == s) = false := by rw [beq_eq_false_iff_ne]; exact fun h => G.out ⟨k, he, h⟩
        go_wp2_with (go_at_call 17; refine (rhex_calls _ (by omega) (by omega) _).mono ?_; rintro e w' ⟨rfl, rfl⟩)
        go_round
        case rel => exact ⟨k + 1, by omega, by go_num⟩
        case measure => simp [intOf]; omega
      · go_wp2_with fail
        go_ret2
        exact ⟨ret_byte H.out.1.symm H.out.2.symm, rfl⟩

end Go.Proofs.Ytpdjjcgffnkhcaa.Digit
