/-
  Layer 9 (fault): the laws on words, and on what is wrapped, walked.
-/
import Derived.Test.YtpjjfcgebgejaaaDoorFltWorks
namespace Go.Proofs.YtpjjfcgebgejaaaDoor.Flt
open Go.RowKit Go.Proofs.YtpjjfcgebgejaaaDoor.Own Go.Proofs.YtpjjfcgebgejaaaDoor.Digit

set_option maxRecDepth 100000 in
set_option maxHeartbeats 2000000 in
theorem words_walk (c : Int) (h1 : -9223372036854775808 ≤ c) (h2 : c ≤ 9223372036854775807) (w : World) (hT : Tab w) :
    Calls Tryd.prog 5 #[.int .i64 c] w fun e w' => e = .returned (.bool true) ∧ Below w.heap.size w w' := by
  have HT := Lib.hid hT
  clear hT
  go_enter Tryd.func5, Tryd.ntmps5
  go_wp2_with fail
  refine (word_calls _ h1 h2 _ HT.out).mono ?_
  rintro e w2 ⟨rfl, hb⟩
  have HB := Lib.hid hb
  clear hb
  go_wp2_with fail
  refine (rword_calls _ h1 h2 _).mono ?_
  rintro e w3 ⟨rfl, hb⟩
  replace HB := Lib.hid (HB.out.trans (hb.mono HB.out.size))
  clear hb
  go_wp2_with fail
  refine (works_calls _ (HT.out.below HB.out)).mono ?_
  rintro e w4 ⟨rfl, hb⟩
  replace HB := Lib.hid (HB.out.trans (hb.mono HB.out.size))
  clear hb
  go_wp2_with fail
  go_ret
  exact ⟨rfl, HB.out⟩
end Go.Proofs.YtpjjfcgebgejaaaDoor.Flt
