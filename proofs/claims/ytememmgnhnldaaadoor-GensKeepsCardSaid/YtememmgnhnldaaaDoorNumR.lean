/-
  Layer 2 (digit): the document's own answers, walked: digits, decimals.
-/
import Derived.WalkKit
import Derived.WalkSpells
import Derived.Test.YtememmgnhnldaaaDoorProg
import Derived.Test.YtememmgnhnldaaaDoorDigitPlain
import Derived.Lib.Hide
namespace Go.Proofs.YtememmgnhnldaaaDoor.Digit
open Go.RowKit

theorem ret_string {a b : ByteArray} (h : a = b) : Ending.returned (.string a) = .returned (.string b) := by rw [h]

theorem bytes_add (a b : List UInt8) : ((⟨a.toArray⟩ : ByteArray) ++ ⟨b.toArray⟩) = ⟨(a ++ b).toArray⟩ := by
  apply ByteArray.ext; simp

set_option maxHeartbeats 400000 in
theorem rdigit_calls (n : Int) (h0 : 0 ≤ n) (h1 : n < 16) (w : World) :
    Calls Tryd.prog 41 #[.int .i64 n] w fun e w' => e = .returned (.string ⟨#[hexd n.toNat]⟩) ∧ w = w' := by
  have h : n = 0 ∨ n = 1 ∨ n = 2 ∨ n = 3 ∨ n = 4 ∨ n = 5 ∨ n = 6 ∨ n = 7 ∨ n = 8 ∨ n = 9 ∨ n = 10 ∨ n = 11 ∨ n = 12 ∨ n = 13 ∨ n = 14 ∨ n = 15 := by omega
  rcases h with rfl | rfl | rfl | rfl | rfl | rfl | rfl | rfl | rfl | rfl | rfl | rfl | rfl | rfl | rfl | rfl
  all_goals
    go_enter Tryd.func41, Tryd.ntmps41
    go_wp2
    go_ret
    exact ⟨rfl, rfl⟩

theorem rput_any (k : Nat) : ∀ (n : Int) (w : World), n.natAbs < k → -9223372036854775808 ≤ n → n ≤ 9223372036854775807 →
    Calls Tryd.prog 29 #[.int .i64 n] w fun e w' => e = .returned (.string ⟨(dec n).toArray⟩) ∧ w = w' := by
  induction k with
  | zero => intro n w hk; omega
  | succ k ih =>
    intro n w hk h1 h2
    by_cases hp : 0 ≤ n
    · by_cases h10 : n < 10
      · go_enter Tryd.func29, Tryd.ntmps29
        go_wp2_with (go_at_call 41; refine (rdigit_calls _ (by omega) (by omega) _).mono ?_; rintro e w' ⟨rfl, rfl⟩)
        go_ret
        exact ⟨ret_string (by rw [dec_lt (by omega) (by omega)]), rfl⟩
      · have H := Lib.hid (dec_ge (n := n) (by omega))
        have L := dec_len (n := n / 10) (by omega) (by omega)
        go_enter Tryd.func29, Tryd.ntmps29
        go_wp2_with (first | (go_at_call 41; refine (rdigit_calls _ (by omega) (by omega) _).mono ?_; rintro e w' ⟨rfl, rfl⟩) | (go_at_call 29; refine (ih _ _ (by omega) (by omega) (by omega)).mono ?_; rintro e w' ⟨rfl, rfl⟩))
        go_ret
        exact ⟨ret_string (by rw [H.out]; exact bytes_add _ [_]), rfl⟩
    · by_cases h10 : -10 < n
      · go_enter Tryd.func29, Tryd.ntmps29
        go_wp2_with (go_at_call 41; refine (rdigit_calls _ (by omega) (by omega) _).mono ?_; rintro e w' ⟨rfl, rfl⟩)
        go_ret
        exact ⟨ret_string (by rw [dec_neg_lt (by omega) (by omega)]; rfl), rfl⟩
      · have H := Lib.hid (dec_le (n := n) (by omega))
        obtain ⟨t1, t2, t3, t4⟩ := tdiv_facts (n := n) (by omega)
        have L := dec_len (n := n.tdiv 10) (by omega) (by omega)
        by_cases hm : n.tmod 10 < 0
        · go_enter Tryd.func29, Tryd.ntmps29
          go_wp2_with (first | (go_at_call 41; refine (rdigit_calls _ (by omega) (by omega) _).mono ?_; rintro e w' ⟨rfl, rfl⟩) | (go_at_call 29; refine (ih _ _ (by omega) (by omega) (by omega)).mono ?_; rintro e w' ⟨rfl, rfl⟩))
          go_ret
          exact ⟨ret_string (by rw [H.out]; exact bytes_add _ [_]), rfl⟩
        · go_enter Tryd.func29, Tryd.ntmps29
          go_wp2_with (first | (go_at_call 41; refine (rdigit_calls _ (by omega) (by omega) _).mono ?_; rintro e w' ⟨rfl, rfl⟩) | (go_at_call 29; refine (ih _ _ (by omega) (by omega) (by omega)).mono ?_; rintro e w' ⟨rfl, rfl⟩))
          go_ret
          exact ⟨ret_string (by rw [H.out, show n.tmod 10 = 0 by omega]; exact bytes_add _ [_]), rfl⟩
theorem rput_calls (n : Int) (h1 : -9223372036854775808 ≤ n) (h2 : n ≤ 9223372036854775807) (w : World) :
    Calls Tryd.prog 29 #[.int .i64 n] w fun e w' => e = .returned (.string ⟨(dec n).toArray⟩) ∧ w = w' :=
  rput_any (n.natAbs + 1) n w (by omega) h1 h2

theorem ret_byte {a b c d : Int} (h : a = b) (g : c = d) : Ending.returned (.tuple #[.int .u8 a, .int .i64 c]) = .returned (.tuple #[.int .u8 b, .int .i64 d]) := by rw [h, g]
theorem ret_num {a b c d : Int} (h : a = b) (g : c = d) : Ending.returned (.tuple #[.int .i64 a, .int .i64 c]) = .returned (.tuple #[.int .i64 b, .int .i64 d]) := by rw [h, g]
theorem size_mk (l : List UInt8) : (⟨l.toArray⟩ : ByteArray).size = l.length := rfl
def lenOf : Value → Nat | .string b => b.size | _ => 0

theorem string_cons (c : UInt8) (l : List UInt8) : Value.string ((⟨#[c]⟩ : ByteArray) ++ ⟨l.toArray⟩) = .string ⟨(c :: l).toArray⟩ := congrArg _ (bytes_add [c] l)

end Go.Proofs.YtememmgnhnldaaaDoor.Digit
