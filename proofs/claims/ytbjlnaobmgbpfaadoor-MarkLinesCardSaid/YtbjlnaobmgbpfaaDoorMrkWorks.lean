/-
  Layer 20 (mark): the law's example.
-/
import Derived.Test.YtbjlnaobmgbpfaaDoorMrkFew
namespace Go.Proofs.YtbjlnaobmgbpfaaDoor.Mark
open Go.RowKit Go.Proofs.YtbjlnaobmgbpfaaDoor.Own Go.Proofs.YtbjlnaobmgbpfaaDoor.Rw Go.Proofs.YtbjlnaobmgbpfaaDoor.Rec Go.Proofs.YtbjlnaobmgbpfaaDoor.Bld Go.Proofs.YtbjlnaobmgbpfaaDoor.Digit Go.Proofs.YtbjlnaobmgbpfaaDoor.Clock

theorem exI (w : World) : Its (w.alloc (.cells #[.int .i64 1, .int .i64 0, .string ⟨#[97, 98, 10, 99]⟩, .int .i64 2, .int .i64 1, .string ⟨#[97, 110, 110, 32, 105, 110]⟩, .int .i64 1, .int .i64 2, .string ⟨#[100, 10]⟩, .int .i64 3, .int .i64 3, .string ⟨#[55]⟩, .int .i64 9, .int .i64 0, .string ⟨#[120]⟩] 28 (0, 0))) exL (some ⟨w.heap.size, 0, none⟩) 5 := by
  refine ⟨by decide, by unfold maxLen; omega, .inr ⟨_, 0, rfl, by simp, fun i hi => ?_⟩⟩
  have hc := fun o => at_cell (at_new w (.cells #[.int .i64 1, .int .i64 0, .string ⟨#[97, 98, 10, 99]⟩, .int .i64 2, .int .i64 1, .string ⟨#[97, 110, 110, 32, 105, 110]⟩, .int .i64 1, .int .i64 2, .string ⟨#[100, 10]⟩, .int .i64 3, .int .i64 3, .string ⟨#[55]⟩, .int .i64 9, .int .i64 0, .string ⟨#[120]⟩] 28 (0, 0))) o
  have h5 : i < 5 := hi
  have hcs : i = 0 ∨ i = 1 ∨ i = 2 ∨ i = 3 ∨ i = 4 := by omega
  rcases hcs with rfl | rfl | rfl | rfl | rfl
  all_goals exact ⟨hc _, hc _, hc _⟩

set_option maxRecDepth 100000 in
set_option maxHeartbeats 4000000 in
theorem works_calls (w : World) (hM : Months w) :
    Calls Tryd.prog 13 #[] w fun e w' => e = .returned (.bool true) ∧ Below w.heap.size w w' := by
  have HA := Lib.hid fun (W : World) (hI : Its W exL (some ⟨w.heap.size, 0, none⟩) 5) (hM : Months W) => all_calls exL (some ⟨w.heap.size, 0, none⟩) 5 5 rfl W hI hM (by decide) (by decide)
  have hb1 : Below w.heap.size w (w.alloc (.cells #[.int .i64 1, .int .i64 0, .string ⟨#[97, 98, 10, 99]⟩, .int .i64 2, .int .i64 1, .string ⟨#[97, 110, 110, 32, 105, 110]⟩, .int .i64 1, .int .i64 2, .string ⟨#[100, 10]⟩, .int .i64 3, .int .i64 3, .string ⟨#[55]⟩, .int .i64 9, .int .i64 0, .string ⟨#[120]⟩] 28 (0, 0))) := (Below.refl _ _).alloc (Nat.le_refl _) _
  have HM := Lib.hid hM
  have HB1 := Lib.hid hb1
  clear hM hb1
  go_enter Tryd.func13, Tryd.ntmps13
  go_wp2_with fail
  refine (HA.out _ (exI w) (HM.out.below HB1.out)).mono ?_
  rintro e w5 ⟨rfl, hb5⟩
  rw [exT]
  have B5 := Lib.hid (HB1.out.trans (hb5.mono HB1.out.size))
  clear hb5 HA
  have hm : Mk w5.heap.size false (w5.alloc (.cells #[.bool false] 25 (0, 0))) := at_new w5 _
  have hs5 := B5.out.size
  have hb6 := B5.out.alloc hs5 (.cells #[.bool false] 25 (0, 0))
  have HAD := Lib.hid (add_calls w5.heap.size false ⟨1, 0, ⟨#[120]⟩⟩ _ (HM.out.below hb6) hm (by decide))
  have HB6 := Lib.hid hb6
  clear hm hb6
  go_wp2_with fail
  refine HAD.out.mono ?_
  rintro e w7 ⟨rfl, h7, h8⟩
  rw [show itT false ⟨1, 0, ⟨#[120]⟩⟩ = [91, 50, 48, 48, 48, 45, 48, 49, 45, 48, 49, 32, 48, 48, 58, 48, 48, 58, 48, 48, 93, 32, 120] by decide]
  rw [show itO false ⟨1, 0, ⟨#[120]⟩⟩ = true by decide] at h7
  have B7 := Lib.hid (HB6.out.trans (h8.below (B := w.heap.size) (by simp; omega) fun i e => by omega))
  have H7 := Lib.hid h7
  clear h7 h8 HAD
  go_wp2_with fail
  refine (open_calls _ _ _ H7.out).mono ?_
  rintro e w8 ⟨rfl, rfl⟩
  go_wp2_with fail
  refine (add_nil ⟨1, 0, ⟨#[120]⟩⟩ _).mono ?_
  rintro e w9 ⟨rfl, h9⟩
  have B9 := Lib.hid (B7.out.trans (h9.mono B7.out.size))
  clear h9
  go_wp2_with fail
  refine (open_nil _).mono ?_
  rintro e w8 ⟨rfl, rfl⟩
  go_wp2_with fail
  go_ret
  exact ⟨rfl, B9.out⟩
end Go.Proofs.YtbjlnaobmgbpfaaDoor.Mark
