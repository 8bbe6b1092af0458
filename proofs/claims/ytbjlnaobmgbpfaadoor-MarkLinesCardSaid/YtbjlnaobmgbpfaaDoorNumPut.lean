/-
  Layer 2 (digit): the program's Pad, walked.
-/
import Derived.Test.YtbjlnaobmgbpfaaDoorNumP
import Derived.Test.YtbjlnaobmgbpfaaDoorNumRef
import Derived.Test.YtbjlnaobmgbpfaaDoorShelf
namespace Go.Proofs.YtbjlnaobmgbpfaaDoor.Digit
open Go.RowKit

theorem repeat_one (c : UInt8) (k : Nat) : Lib.repeatL [c] k = List.replicate k c := by
  induction k with
  | zero => rfl
  | succ k ih => rw [Lib.repeatL, ih]; rfl
theorem rep_calls (c : Int) (h0 : 0 ≤ c) (h1 : c ≤ 20) (w : World) :
    Calls Tryd.prog 47 #[.string ⟨#[48]⟩, .int .i64 c] w fun e w' => e = .returned (.string ⟨(List.replicate c.toNat 48).toArray⟩) ∧ Below w.heap.size w w' := by
  obtain ⟨k, rfl⟩ : ∃ k : Nat, c = k := ⟨c.toNat, by omega⟩
  have h := Tryd.strings_Repeat ⟨#[48]⟩ k w (by omega) (by show 1 * k ≤ _; omega)
  rw [repeat_one] at h
  exact h

set_option maxHeartbeats 400000 in
theorem pad_calls (n width : Int) (h1 : -9223372036854775808 ≤ n) (h2 : n ≤ 9223372036854775807) (w : World) :
    Calls Tryd.prog 42 #[.int .i64 n, .int .i64 width] w fun e w' => e = .returned (.string ⟨(padI n width).toArray⟩) ∧ Below w.heap.size w w' := by
  by_cases hn : n < 0
  · have H := Lib.hid (padI_none (n := n) (width := width) (.inl hn))
    go_enter Tryd.func42, Tryd.ntmps42
    go_wp2_with fail
    go_ret
    exact ⟨ret_string (by rw [H.out]), Below.refl _ _⟩
  · by_cases hw : width < 0
    · have H := Lib.hid (padI_none (n := n) (width := width) (.inr (.inl hw)))
      go_enter Tryd.func42, Tryd.ntmps42
      go_wp2_with fail
      go_ret
      exact ⟨ret_string (by rw [H.out]), Below.refl _ _⟩
    · by_cases hv : 20 < width
      · have H := Lib.hid (padI_none (n := n) (width := width) (.inr (.inr hv)))
        go_enter Tryd.func42, Tryd.ntmps42
        go_wp2_with fail
        go_ret
        exact ⟨ret_string (by rw [H.out]), Below.refl _ _⟩
      · have H := Lib.hid (padI_some (n := n) (width := width) (by omega))
        have L := dec_len h1 h2
        obtain ⟨m, rfl⟩ : ∃ m : Nat, width = m := ⟨width.toNat, by omega⟩
        go_enter Tryd.func42, Tryd.ntmps42
        go_wp2_with (first | (go_at_call 46; refine (put_calls _ (by omega) (by omega) _).mono ?_; rintro e w' ⟨rfl, hb⟩) | (go_at_call 47; refine (rep_calls _ (by omega) (by omega) _).mono ?_; rintro e w' ⟨rfl, hb2⟩))
        go_ret
        exact ⟨ret_string (by rw [H.out, bytes_add, padL, show (max 0 ((m : Int) - (dec n).length)).toNat = (m : Int).toNat - (dec n).length by omega, Array.toList_replicate]), hb.trans (hb2.mono hb.size)⟩

end Go.Proofs.YtbjlnaobmgbpfaaDoor.Digit
