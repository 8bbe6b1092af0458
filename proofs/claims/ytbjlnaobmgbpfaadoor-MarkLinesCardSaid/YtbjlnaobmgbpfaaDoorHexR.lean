/-
  Layer 2 (digit): the document's own answers, walked: hex.
-/
import Derived.Test.YtbjlnaobmgbpfaaDoorNumRef
namespace Go.Proofs.YtbjlnaobmgbpfaaDoor.Digit
open Go.RowKit

theorem rhex_calls (c : Int) (h0 : 0 ≤ c) (h1 : c < 256) (w : World) :
    Calls Tryd.prog 34 #[.int .u8 c] w fun e w' => e = .returned (.string ⟨(hexS c.toNat).toArray⟩) ∧ w = w' := by
  go_enter Tryd.func34, Tryd.ntmps34
  go_wp2_with (go_at_call 39; refine (rdigit_calls _ (by omega) (by omega) _).mono ?_; rintro e w' ⟨rfl, rfl⟩)
  go_ret
  exact ⟨ret_string (by rw [show (c / 16).toNat = c.toNat / 16 by omega, show (c % 16).toNat = c.toNat % 16 by omega]; exact bytes_add [_] [_]), rfl⟩

end Go.Proofs.YtbjlnaobmgbpfaaDoor.Digit
