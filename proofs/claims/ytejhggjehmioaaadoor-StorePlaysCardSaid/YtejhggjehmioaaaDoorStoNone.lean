/-
  Layer 11 (store): the law on a store that nobody made.
-/
import Derived.Test.YtejhggjehmioaaaDoorStoWorks
import Derived.Test.YtejhggjehmioaaaDoorStoNil
namespace Go.Proofs.YtejhggjehmioaaaDoor.Sto
open Go.RowKit Go.Proofs.YtejhggjehmioaaaDoor.Own Go.Proofs.YtejhggjehmioaaaDoor.KM Go.Proofs.YtejhggjehmioaaaDoor.Flt

theorem told_new (w : World) (c : Int) (hc : c ≠ 0) : EAt (w.alloc (fblk c)) (errv w) c w.heap.size := .inr ⟨hc, rfl, at_new _ _⟩
theorem tab_alloc {w : World} (h : Tab w) (o : Obj) : Tab (w.alloc o) := h.below ((Below.refl _ _).alloc (Nat.le_refl _) _)

set_option maxRecDepth 100000 in
set_option maxHeartbeats 8000000 in
theorem none_walk (a b : ByteArray) (n : Int) (w : World) (hT : Tab w) : Calls Tryd.prog 6 #[.string a, .string b, .int .i64 n] w fun e w' => e = .returned (.bool true) ∧ Below w.heap.size w w' := by
  have HT := Lib.hid (fun W (hb : Below w.heap.size w W) => hT.below hb)
  clear hT
  go_enter Tryd.func6, Tryd.ntmps6
  go_wp2_with fail
  refine (nil_fail _ _).mono ?_
  rintro e w1 ⟨rfl, rfl⟩
  go_wp2_with fail
  refine (nil_crash _ _).mono ?_
  rintro e w1 ⟨rfl, rfl⟩
  go_wp2_with fail
  refine (nil_read _ _).mono ?_
  rintro e w1 ⟨rfl, rfl⟩
  go_wp2_with fail
  refine (nil_size _ _).mono ?_
  rintro e w1 ⟨rfl, rfl⟩
  have B0 := Lib.hid ((Below.refl w.heap.size w).alloc (Nat.le_refl _) (.cells #[.int .i64 n] 3 (0, 0)))
  obtain ⟨V0, hV0⟩ : ∃ V, w.alloc (.cells #[.int .i64 n] 3 (0, 0)) = V := ⟨_, rfl⟩
  rw [hV0] at B0
  go_wp2_with fail
  clear hV0
  refine (app_none a b _).mono ?_
  rintro e w1 ⟨rfl, rfl⟩
  go_wp2_with fail
  refine (of_told (told_new _ 14 (by decide)) (HT.out _ (B0.out.alloc B0.out.size _))).mono ?_
  rintro e V1 ⟨rfl, hb⟩
  have B1 := Lib.hid ((B0.out.alloc B0.out.size (fblk 14)).trans (hb.mono (B0.out.alloc B0.out.size (fblk 14)).size))
  clear hb B0
  go_wp2_with fail
  refine (syn_none a _).mono ?_
  rintro e w1 ⟨rfl, rfl⟩
  go_wp2_with fail
  refine (of_told (told_new _ 14 (by decide)) (HT.out _ (B1.out.alloc B1.out.size _))).mono ?_
  rintro e V2 ⟨rfl, hb⟩
  have B2 := Lib.hid ((B1.out.alloc B1.out.size (fblk 14)).trans (hb.mono (B1.out.alloc B1.out.size (fblk 14)).size))
  clear hb B1
  go_wp2_with fail
  refine (ren_none a b _).mono ?_
  rintro e w1 ⟨rfl, rfl⟩
  go_wp2_with fail
  refine (of_told (told_new _ 14 (by decide)) (HT.out _ (B2.out.alloc B2.out.size _))).mono ?_
  rintro e V3 ⟨rfl, hb⟩
  have B3 := Lib.hid ((B2.out.alloc B2.out.size (fblk 14)).trans (hb.mono (B2.out.alloc B2.out.size (fblk 14)).size))
  clear hb B2
  go_wp2_with fail
  refine (rem_none a _).mono ?_
  rintro e w1 ⟨rfl, rfl⟩
  go_wp2_with fail
  refine (of_told (told_new _ 14 (by decide)) (HT.out _ (B3.out.alloc B3.out.size _))).mono ?_
  rintro e V4 ⟨rfl, hb⟩
  have B4 := Lib.hid ((B3.out.alloc B3.out.size (fblk 14)).trans (hb.mono (B3.out.alloc B3.out.size (fblk 14)).size))
  clear hb B3
  go_wp2_with fail
  refine (nil_total _).mono ?_
  rintro e w1 ⟨rfl, rfl⟩
  go_wp2_with fail
  refine (nil_names _).mono ?_
  rintro e w1 ⟨rfl, rfl⟩
  go_wp2_with fail
  refine (nil_copy _).mono ?_
  rintro e w1 ⟨rfl, rfl⟩
  go_wp2_with fail
  refine (works_walk _ (HT.out _ B4.out)).mono ?_
  rintro e V5 ⟨rfl, hb⟩
  have B5 := Lib.hid (B4.out.trans (hb.mono B4.out.size))
  clear hb
  go_wp2_with fail
  go_ret
  exact ⟨rfl, B5.out⟩
end Go.Proofs.YtejhggjehmioaaaDoor.Sto
