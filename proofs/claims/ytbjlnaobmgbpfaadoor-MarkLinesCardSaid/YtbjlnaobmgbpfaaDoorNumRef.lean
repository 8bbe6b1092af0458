/-
  Layer 2 (digit): the document's own answers, walked: padding.
-/
import Derived.Test.YtbjlnaobmgbpfaaDoorNumR
namespace Go.Proofs.YtbjlnaobmgbpfaaDoor.Digit
open Go.RowKit

set_option maxHeartbeats 400000 in
theorem rpad_calls (n width : Int) (h1 : -9223372036854775808 ≤ n) (h2 : n ≤ 9223372036854775807) (w : World) :
    Calls Tryd.prog 33 #[.int .i64 n, .int .i64 width] w fun e w' => e = .returned (.string ⟨(padI n width).toArray⟩) ∧ w = w' := by
  by_cases hn : n < 0
  · have H := Lib.hid (padI_none (n := n) (width := width) (.inl hn))
    go_enter Tryd.func33, Tryd.ntmps33
    go_wp2
    go_ret
    exact ⟨ret_string (by rw [H.out]), rfl⟩
  · by_cases hw : width < 0
    · have H := Lib.hid (padI_none (n := n) (width := width) (.inr (.inl hw)))
      go_enter Tryd.func33, Tryd.ntmps33
      go_wp2
      go_ret
      exact ⟨ret_string (by rw [H.out]), rfl⟩
    · by_cases hv : 20 < width
      · have H := Lib.hid (padI_none (n := n) (width := width) (.inr (.inr hv)))
        go_enter Tryd.func33, Tryd.ntmps33
        go_wp2
        go_ret
        exact ⟨ret_string (by rw [H.out]), rfl⟩
      · have H := Lib.hid (padI_some (n := n) (width := width) (by omega))
        have L := dec_len h1 h2
        obtain ⟨m, rfl⟩ : ∃ m : Nat, width = m := ⟨width.toNat, by omega⟩
        go_enter Tryd.func33, Tryd.ntmps33
        go_wp2_with (go_at_call 32; refine (rput_calls _ (by omega) (by omega) _).mono ?_; rintro e w' ⟨rfl, rfl⟩)
        go_loop [5] (fun s => ∃ l : List UInt8, PadAt (dec n) l m ∧ l.length ≤ 20 ∧ s = .string ⟨l.toArray⟩) (fun s => 20 - lenOf s)
        case atStart => exact ⟨_, pad_start _ _, L, rfl⟩
        case round =>
          obtain ⟨l, hp, hl, rfl⟩ := hrel
          by_cases hlt : l.length < m
          · have hp' := pad_next hp hlt
            go_wp2_with fail
            go_round
            case rel => exact ⟨48 :: l, hp', by simp; omega, string_cons _ _⟩
            case measure => rw [string_cons]; simp only [lenOf, size_mk, List.length_cons]; omega
          · have he := Lib.hid (pad_done hp hlt)
            go_wp2_with fail
            go_ret
            exact ⟨ret_string (by rw [H.out, he.out]; rfl), rfl⟩

end Go.Proofs.YtbjlnaobmgbpfaaDoor.Digit
