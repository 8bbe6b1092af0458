/-
  Layer 16 (rights): the law's works.
-/
import Derived.Test.YtomnkmcabkoagaaRgtCf
import Derived.Test.YtomnkmcabkoagaaRgtFacts
namespace Go.Proofs.Ytomnkmcabkoagaa.Rgt
open Go.RowKit Go.Proofs.Ytomnkmcabkoagaa.Own Go.Proofs.Ytomnkmcabkoagaa.Rw Go.Proofs.Ytomnkmcabkoagaa.Tree Go.Proofs.Ytomnkmcabkoagaa.Conf

set_option maxRecDepth 100000 in
set_option maxHeartbeats 8000000 in
theorem works_calls (w : World) : Calls Try.prog 16 #[] w fun e w' => e = .returned (.bool true) ∧ Below w.heap.size w w' := by
  go_enter Try.func16, Try.ntmps16
  go_wp2_with fail
  refine (sample_calls _).mono ?_
  rintro e w1 ⟨q0, q1, q2, q3, rfl, hr, hb1⟩
  have hB := (Below.refl w1.heap.size w1).alloc (Nat.le_refl _) (.cells #[.slice (some ⟨q0, 0, none⟩) 3 3, .slice (some ⟨q1, 0, none⟩) 1 1, .slice (some ⟨q2, 0, none⟩) 1 1, .slice (some ⟨q3, 0, none⟩) 2 2, .string ⟨#[]⟩, .string ⟨#[]⟩, .string ⟨#[]⟩, .string ⟨#[]⟩, .string ⟨#[]⟩, .string ⟨#[]⟩, .string ⟨#[]⟩, .string ⟨#[]⟩, .string ⟨#[]⟩, .string ⟨#[]⟩] 28)
  have NK := Lib.hid (at_new w1 (.cells #[.slice (some ⟨q0, 0, none⟩) 3 3, .slice (some ⟨q1, 0, none⟩) 1 1, .slice (some ⟨q2, 0, none⟩) 1 1, .slice (some ⟨q3, 0, none⟩) 2 2, .string ⟨#[]⟩, .string ⟨#[]⟩, .string ⟨#[]⟩, .string ⟨#[]⟩, .string ⟨#[]⟩, .string ⟨#[]⟩, .string ⟨#[]⟩, .string ⟨#[]⟩, .string ⟨#[]⟩, .string ⟨#[]⟩] 28))
  have HR := Lib.hid (hr.below hB)
  have HB := Lib.hid (hb1.trans (hB.mono hb1.size))
  clear hr hB hb1
  unfold smpV confV
  go_wp2_with fail
  generalize (w1.alloc (.cells #[.slice (some ⟨q0, 0, none⟩) 3 3, .slice (some ⟨q1, 0, none⟩) 1 1, .slice (some ⟨q2, 0, none⟩) 1 1, .slice (some ⟨q3, 0, none⟩) 2 2, .string ⟨#[]⟩, .string ⟨#[]⟩, .string ⟨#[]⟩, .string ⟨#[]⟩, .string ⟨#[]⟩, .string ⟨#[]⟩, .string ⟨#[]⟩, .string ⟨#[]⟩, .string ⟨#[]⟩, .string ⟨#[]⟩] 28)) = X0 at *
  generalize w1.heap.size = b at *
  have hc := Group_cf few_sample [] [] [] [] [] [] [] [] [] [] HR.out sWebs
  rw [f1] at hc
  unfold confV at hc
  unfold GrPost at hc
  refine hc.mono ?_
  rintro e X1 ⟨v, rfl, ho, hb⟩
  obtain ⟨ql, cl, rfl, hl⟩ := own_rd ho
  have HB := Lib.hid (HB.out.trans (hb.mono HB.out.size))
  have NK := Lib.hid ((hb.block _ (at_lt NK.out)).trans NK.out)
  have HR := Lib.hid (HR.out.below hb)
  have HL := Lib.hid hl
  clear hl
  clear hc hb ho
  have y0 : X1.cell? ⟨b, 0, none⟩ = some (.slice (some ⟨q0, 0, none⟩) 3 3) := (at_cell NK.out 0).trans rfl
  have y1 : X1.cell? ⟨b, 1, none⟩ = some (.slice (some ⟨q1, 0, none⟩) 1 1) := (at_cell NK.out 1).trans rfl
  have y2 : X1.cell? ⟨b, 2, none⟩ = some (.slice (some ⟨q2, 0, none⟩) 1 1) := (at_cell NK.out 2).trans rfl
  have y3 : X1.cell? ⟨b, 3, none⟩ = some (.slice (some ⟨q3, 0, none⟩) 2 2) := (at_cell NK.out 3).trans rfl
  have y4 : X1.cell? ⟨b, 4, none⟩ = some (.string ⟨#[]⟩) := (at_cell NK.out 4).trans rfl
  have y5 : X1.cell? ⟨b, 5, none⟩ = some (.string ⟨#[]⟩) := (at_cell NK.out 5).trans rfl
  have y6 : X1.cell? ⟨b, 6, none⟩ = some (.string ⟨#[]⟩) := (at_cell NK.out 6).trans rfl
  have y7 : X1.cell? ⟨b, 7, none⟩ = some (.string ⟨#[]⟩) := (at_cell NK.out 7).trans rfl
  have y8 : X1.cell? ⟨b, 8, none⟩ = some (.string ⟨#[]⟩) := (at_cell NK.out 8).trans rfl
  have y9 : X1.cell? ⟨b, 9, none⟩ = some (.string ⟨#[]⟩) := (at_cell NK.out 9).trans rfl
  have y10 : X1.cell? ⟨b, 10, none⟩ = some (.string ⟨#[]⟩) := (at_cell NK.out 10).trans rfl
  have y11 : X1.cell? ⟨b, 11, none⟩ = some (.string ⟨#[]⟩) := (at_cell NK.out 11).trans rfl
  have y12 : X1.cell? ⟨b, 12, none⟩ = some (.string ⟨#[]⟩) := (at_cell NK.out 12).trans rfl
  have y13 : X1.cell? ⟨b, 13, none⟩ = some (.string ⟨#[]⟩) := (at_cell NK.out 13).trans rfl
  go_wp2_with fail
  clear y0 y1 y2 y3 y4 y5 y6 y7 y8 y9 y10 y11 y12 y13
  have hc := Group_cf few_sample [] [] [] [] [] [] [] [] [] [] HR.out sX
  rw [f2] at hc
  unfold confV at hc
  unfold GrPost at hc
  refine hc.mono ?_
  rintro e X2 ⟨v, rfl, ho, hb⟩
  obtain ⟨ql, cl, rfl, hl⟩ := own_rd ho
  have HB := Lib.hid (HB.out.trans (hb.mono HB.out.size))
  have NK := Lib.hid ((hb.block _ (at_lt NK.out)).trans NK.out)
  have HR := Lib.hid (HR.out.below hb)
  have HL := Lib.hid (HL.out.below hb)
  clear hl
  clear hc hb ho
  have y0 : X2.cell? ⟨b, 0, none⟩ = some (.slice (some ⟨q0, 0, none⟩) 3 3) := (at_cell NK.out 0).trans rfl
  have y1 : X2.cell? ⟨b, 1, none⟩ = some (.slice (some ⟨q1, 0, none⟩) 1 1) := (at_cell NK.out 1).trans rfl
  have y2 : X2.cell? ⟨b, 2, none⟩ = some (.slice (some ⟨q2, 0, none⟩) 1 1) := (at_cell NK.out 2).trans rfl
  have y3 : X2.cell? ⟨b, 3, none⟩ = some (.slice (some ⟨q3, 0, none⟩) 2 2) := (at_cell NK.out 3).trans rfl
  have y4 : X2.cell? ⟨b, 4, none⟩ = some (.string ⟨#[]⟩) := (at_cell NK.out 4).trans rfl
  have y5 : X2.cell? ⟨b, 5, none⟩ = some (.string ⟨#[]⟩) := (at_cell NK.out 5).trans rfl
  have y6 : X2.cell? ⟨b, 6, none⟩ = some (.string ⟨#[]⟩) := (at_cell NK.out 6).trans rfl
  have y7 : X2.cell? ⟨b, 7, none⟩ = some (.string ⟨#[]⟩) := (at_cell NK.out 7).trans rfl
  have y8 : X2.cell? ⟨b, 8, none⟩ = some (.string ⟨#[]⟩) := (at_cell NK.out 8).trans rfl
  have y9 : X2.cell? ⟨b, 9, none⟩ = some (.string ⟨#[]⟩) := (at_cell NK.out 9).trans rfl
  have y10 : X2.cell? ⟨b, 10, none⟩ = some (.string ⟨#[]⟩) := (at_cell NK.out 10).trans rfl
  have y11 : X2.cell? ⟨b, 11, none⟩ = some (.string ⟨#[]⟩) := (at_cell NK.out 11).trans rfl
  have y12 : X2.cell? ⟨b, 12, none⟩ = some (.string ⟨#[]⟩) := (at_cell NK.out 12).trans rfl
  have y13 : X2.cell? ⟨b, 13, none⟩ = some (.string ⟨#[]⟩) := (at_cell NK.out 13).trans rfl
  go_wp2_with fail
  clear y0 y1 y2 y3 y4 y5 y6 y7 y8 y9 y10 y11 y12 y13
  have hc := Pick_cf few_sample [] [] [] [] [] [] [] [] [] [] HR.out sAnn sWeb2 (by decide)
  rw [f3] at hc
  unfold confV at hc
  refine hc.mono ?_
  rintro e X3 ⟨rfl, hb⟩
  have HB := Lib.hid (HB.out.trans (hb.mono HB.out.size))
  have NK := Lib.hid ((hb.block _ (at_lt NK.out)).trans NK.out)
  have HR := Lib.hid (HR.out.below hb)
  have HL := Lib.hid (HL.out.below hb)
  clear hc hb
  have y0 : X3.cell? ⟨b, 0, none⟩ = some (.slice (some ⟨q0, 0, none⟩) 3 3) := (at_cell NK.out 0).trans rfl
  have y1 : X3.cell? ⟨b, 1, none⟩ = some (.slice (some ⟨q1, 0, none⟩) 1 1) := (at_cell NK.out 1).trans rfl
  have y2 : X3.cell? ⟨b, 2, none⟩ = some (.slice (some ⟨q2, 0, none⟩) 1 1) := (at_cell NK.out 2).trans rfl
  have y3 : X3.cell? ⟨b, 3, none⟩ = some (.slice (some ⟨q3, 0, none⟩) 2 2) := (at_cell NK.out 3).trans rfl
  have y4 : X3.cell? ⟨b, 4, none⟩ = some (.string ⟨#[]⟩) := (at_cell NK.out 4).trans rfl
  have y5 : X3.cell? ⟨b, 5, none⟩ = some (.string ⟨#[]⟩) := (at_cell NK.out 5).trans rfl
  have y6 : X3.cell? ⟨b, 6, none⟩ = some (.string ⟨#[]⟩) := (at_cell NK.out 6).trans rfl
  have y7 : X3.cell? ⟨b, 7, none⟩ = some (.string ⟨#[]⟩) := (at_cell NK.out 7).trans rfl
  have y8 : X3.cell? ⟨b, 8, none⟩ = some (.string ⟨#[]⟩) := (at_cell NK.out 8).trans rfl
  have y9 : X3.cell? ⟨b, 9, none⟩ = some (.string ⟨#[]⟩) := (at_cell NK.out 9).trans rfl
  have y10 : X3.cell? ⟨b, 10, none⟩ = some (.string ⟨#[]⟩) := (at_cell NK.out 10).trans rfl
  have y11 : X3.cell? ⟨b, 11, none⟩ = some (.string ⟨#[]⟩) := (at_cell NK.out 11).trans rfl
  have y12 : X3.cell? ⟨b, 12, none⟩ = some (.string ⟨#[]⟩) := (at_cell NK.out 12).trans rfl
  have y13 : X3.cell? ⟨b, 13, none⟩ = some (.string ⟨#[]⟩) := (at_cell NK.out 13).trans rfl
  go_wp2_with fail
  clear y0 y1 y2 y3 y4 y5 y6 y7 y8 y9 y10 y11 y12 y13
  have hc := Pick_cf few_sample [] [] [] [] [] [] [] [] [] [] HR.out sAnn sWeb (by decide)
  rw [f4] at hc
  unfold confV at hc
  refine hc.mono ?_
  rintro e X4 ⟨rfl, hb⟩
  have HB := Lib.hid (HB.out.trans (hb.mono HB.out.size))
  have NK := Lib.hid ((hb.block _ (at_lt NK.out)).trans NK.out)
  have HR := Lib.hid (HR.out.below hb)
  have HL := Lib.hid (HL.out.below hb)
  clear hc hb
  have y0 : X4.cell? ⟨b, 0, none⟩ = some (.slice (some ⟨q0, 0, none⟩) 3 3) := (at_cell NK.out 0).trans rfl
  have y1 : X4.cell? ⟨b, 1, none⟩ = some (.slice (some ⟨q1, 0, none⟩) 1 1) := (at_cell NK.out 1).trans rfl
  have y2 : X4.cell? ⟨b, 2, none⟩ = some (.slice (some ⟨q2, 0, none⟩) 1 1) := (at_cell NK.out 2).trans rfl
  have y3 : X4.cell? ⟨b, 3, none⟩ = some (.slice (some ⟨q3, 0, none⟩) 2 2) := (at_cell NK.out 3).trans rfl
  have y4 : X4.cell? ⟨b, 4, none⟩ = some (.string ⟨#[]⟩) := (at_cell NK.out 4).trans rfl
  have y5 : X4.cell? ⟨b, 5, none⟩ = some (.string ⟨#[]⟩) := (at_cell NK.out 5).trans rfl
  have y6 : X4.cell? ⟨b, 6, none⟩ = some (.string ⟨#[]⟩) := (at_cell NK.out 6).trans rfl
  have y7 : X4.cell? ⟨b, 7, none⟩ = some (.string ⟨#[]⟩) := (at_cell NK.out 7).trans rfl
  have y8 : X4.cell? ⟨b, 8, none⟩ = some (.string ⟨#[]⟩) := (at_cell NK.out 8).trans rfl
  have y9 : X4.cell? ⟨b, 9, none⟩ = some (.string ⟨#[]⟩) := (at_cell NK.out 9).trans rfl
  have y10 : X4.cell? ⟨b, 10, none⟩ = some (.string ⟨#[]⟩) := (at_cell NK.out 10).trans rfl
  have y11 : X4.cell? ⟨b, 11, none⟩ = some (.string ⟨#[]⟩) := (at_cell NK.out 11).trans rfl
  have y12 : X4.cell? ⟨b, 12, none⟩ = some (.string ⟨#[]⟩) := (at_cell NK.out 12).trans rfl
  have y13 : X4.cell? ⟨b, 13, none⟩ = some (.string ⟨#[]⟩) := (at_cell NK.out 13).trans rfl
  go_wp2_with fail
  clear y0 y1 y2 y3 y4 y5 y6 y7 y8 y9 y10 y11 y12 y13
  have hc := Pick_cf few_sample [] [] [] [] [] [] [] [] [] [] HR.out sAnn sDb (by decide)
  rw [f5] at hc
  unfold confV at hc
  refine hc.mono ?_
  rintro e X5 ⟨rfl, hb⟩
  have HB := Lib.hid (HB.out.trans (hb.mono HB.out.size))
  have NK := Lib.hid ((hb.block _ (at_lt NK.out)).trans NK.out)
  have HR := Lib.hid (HR.out.below hb)
  have HL := Lib.hid (HL.out.below hb)
  clear hc hb
  have y0 : X5.cell? ⟨b, 0, none⟩ = some (.slice (some ⟨q0, 0, none⟩) 3 3) := (at_cell NK.out 0).trans rfl
  have y1 : X5.cell? ⟨b, 1, none⟩ = some (.slice (some ⟨q1, 0, none⟩) 1 1) := (at_cell NK.out 1).trans rfl
  have y2 : X5.cell? ⟨b, 2, none⟩ = some (.slice (some ⟨q2, 0, none⟩) 1 1) := (at_cell NK.out 2).trans rfl
  have y3 : X5.cell? ⟨b, 3, none⟩ = some (.slice (some ⟨q3, 0, none⟩) 2 2) := (at_cell NK.out 3).trans rfl
  have y4 : X5.cell? ⟨b, 4, none⟩ = some (.string ⟨#[]⟩) := (at_cell NK.out 4).trans rfl
  have y5 : X5.cell? ⟨b, 5, none⟩ = some (.string ⟨#[]⟩) := (at_cell NK.out 5).trans rfl
  have y6 : X5.cell? ⟨b, 6, none⟩ = some (.string ⟨#[]⟩) := (at_cell NK.out 6).trans rfl
  have y7 : X5.cell? ⟨b, 7, none⟩ = some (.string ⟨#[]⟩) := (at_cell NK.out 7).trans rfl
  have y8 : X5.cell? ⟨b, 8, none⟩ = some (.string ⟨#[]⟩) := (at_cell NK.out 8).trans rfl
  have y9 : X5.cell? ⟨b, 9, none⟩ = some (.string ⟨#[]⟩) := (at_cell NK.out 9).trans rfl
  have y10 : X5.cell? ⟨b, 10, none⟩ = some (.string ⟨#[]⟩) := (at_cell NK.out 10).trans rfl
  have y11 : X5.cell? ⟨b, 11, none⟩ = some (.string ⟨#[]⟩) := (at_cell NK.out 11).trans rfl
  have y12 : X5.cell? ⟨b, 12, none⟩ = some (.string ⟨#[]⟩) := (at_cell NK.out 12).trans rfl
  have y13 : X5.cell? ⟨b, 13, none⟩ = some (.string ⟨#[]⟩) := (at_cell NK.out 13).trans rfl
  go_wp2_with fail
  clear y0 y1 y2 y3 y4 y5 y6 y7 y8 y9 y10 y11 y12 y13
  have hc := Pick_cf few_sample [] [] [] [] [] [] [] [] [] [] HR.out sBob sWeb1 (by decide)
  rw [f6] at hc
  unfold confV at hc
  refine hc.mono ?_
  rintro e X6 ⟨rfl, hb⟩
  have HB := Lib.hid (HB.out.trans (hb.mono HB.out.size))
  have NK := Lib.hid ((hb.block _ (at_lt NK.out)).trans NK.out)
  have HR := Lib.hid (HR.out.below hb)
  have HL := Lib.hid (HL.out.below hb)
  clear hc hb
  have y0 : X6.cell? ⟨b, 0, none⟩ = some (.slice (some ⟨q0, 0, none⟩) 3 3) := (at_cell NK.out 0).trans rfl
  have y1 : X6.cell? ⟨b, 1, none⟩ = some (.slice (some ⟨q1, 0, none⟩) 1 1) := (at_cell NK.out 1).trans rfl
  have y2 : X6.cell? ⟨b, 2, none⟩ = some (.slice (some ⟨q2, 0, none⟩) 1 1) := (at_cell NK.out 2).trans rfl
  have y3 : X6.cell? ⟨b, 3, none⟩ = some (.slice (some ⟨q3, 0, none⟩) 2 2) := (at_cell NK.out 3).trans rfl
  have y4 : X6.cell? ⟨b, 4, none⟩ = some (.string ⟨#[]⟩) := (at_cell NK.out 4).trans rfl
  have y5 : X6.cell? ⟨b, 5, none⟩ = some (.string ⟨#[]⟩) := (at_cell NK.out 5).trans rfl
  have y6 : X6.cell? ⟨b, 6, none⟩ = some (.string ⟨#[]⟩) := (at_cell NK.out 6).trans rfl
  have y7 : X6.cell? ⟨b, 7, none⟩ = some (.string ⟨#[]⟩) := (at_cell NK.out 7).trans rfl
  have y8 : X6.cell? ⟨b, 8, none⟩ = some (.string ⟨#[]⟩) := (at_cell NK.out 8).trans rfl
  have y9 : X6.cell? ⟨b, 9, none⟩ = some (.string ⟨#[]⟩) := (at_cell NK.out 9).trans rfl
  have y10 : X6.cell? ⟨b, 10, none⟩ = some (.string ⟨#[]⟩) := (at_cell NK.out 10).trans rfl
  have y11 : X6.cell? ⟨b, 11, none⟩ = some (.string ⟨#[]⟩) := (at_cell NK.out 11).trans rfl
  have y12 : X6.cell? ⟨b, 12, none⟩ = some (.string ⟨#[]⟩) := (at_cell NK.out 12).trans rfl
  have y13 : X6.cell? ⟨b, 13, none⟩ = some (.string ⟨#[]⟩) := (at_cell NK.out 13).trans rfl
  go_wp2_with fail
  clear y0 y1 y2 y3 y4 y5 y6 y7 y8 y9 y10 y11 y12 y13
  have hc := Level_cf few_sample [] [] [] [] [] [] [] [] [] [] HR.out sAnn sWeb1 (by decide) (by decide)
  rw [f7] at hc
  unfold confV at hc
  refine hc.mono ?_
  rintro e X7 ⟨rfl, hb⟩
  have HB := Lib.hid (HB.out.trans (hb.mono HB.out.size))
  have NK := Lib.hid ((hb.block _ (at_lt NK.out)).trans NK.out)
  have HR := Lib.hid (HR.out.below hb)
  have HL := Lib.hid (HL.out.below hb)
  clear hc hb
  have y0 : X7.cell? ⟨b, 0, none⟩ = some (.slice (some ⟨q0, 0, none⟩) 3 3) := (at_cell NK.out 0).trans rfl
  have y1 : X7.cell? ⟨b, 1, none⟩ = some (.slice (some ⟨q1, 0, none⟩) 1 1) := (at_cell NK.out 1).trans rfl
  have y2 : X7.cell? ⟨b, 2, none⟩ = some (.slice (some ⟨q2, 0, none⟩) 1 1) := (at_cell NK.out 2).trans rfl
  have y3 : X7.cell? ⟨b, 3, none⟩ = some (.slice (some ⟨q3, 0, none⟩) 2 2) := (at_cell NK.out 3).trans rfl
  have y4 : X7.cell? ⟨b, 4, none⟩ = some (.string ⟨#[]⟩) := (at_cell NK.out 4).trans rfl
  have y5 : X7.cell? ⟨b, 5, none⟩ = some (.string ⟨#[]⟩) := (at_cell NK.out 5).trans rfl
  have y6 : X7.cell? ⟨b, 6, none⟩ = some (.string ⟨#[]⟩) := (at_cell NK.out 6).trans rfl
  have y7 : X7.cell? ⟨b, 7, none⟩ = some (.string ⟨#[]⟩) := (at_cell NK.out 7).trans rfl
  have y8 : X7.cell? ⟨b, 8, none⟩ = some (.string ⟨#[]⟩) := (at_cell NK.out 8).trans rfl
  have y9 : X7.cell? ⟨b, 9, none⟩ = some (.string ⟨#[]⟩) := (at_cell NK.out 9).trans rfl
  have y10 : X7.cell? ⟨b, 10, none⟩ = some (.string ⟨#[]⟩) := (at_cell NK.out 10).trans rfl
  have y11 : X7.cell? ⟨b, 11, none⟩ = some (.string ⟨#[]⟩) := (at_cell NK.out 11).trans rfl
  have y12 : X7.cell? ⟨b, 12, none⟩ = some (.string ⟨#[]⟩) := (at_cell NK.out 12).trans rfl
  have y13 : X7.cell? ⟨b, 13, none⟩ = some (.string ⟨#[]⟩) := (at_cell NK.out 13).trans rfl
  go_wp2_with fail
  clear y0 y1 y2 y3 y4 y5 y6 y7 y8 y9 y10 y11 y12 y13
  have hc := Level_cf few_sample [] [] [] [] [] [] [] [] [] [] HR.out sAnn sDb (by decide) (by decide)
  rw [f8] at hc
  unfold confV at hc
  refine hc.mono ?_
  rintro e X8 ⟨rfl, hb⟩
  have HB := Lib.hid (HB.out.trans (hb.mono HB.out.size))
  have NK := Lib.hid ((hb.block _ (at_lt NK.out)).trans NK.out)
  have HR := Lib.hid (HR.out.below hb)
  have HL := Lib.hid (HL.out.below hb)
  clear hc hb
  have y0 : X8.cell? ⟨b, 0, none⟩ = some (.slice (some ⟨q0, 0, none⟩) 3 3) := (at_cell NK.out 0).trans rfl
  have y1 : X8.cell? ⟨b, 1, none⟩ = some (.slice (some ⟨q1, 0, none⟩) 1 1) := (at_cell NK.out 1).trans rfl
  have y2 : X8.cell? ⟨b, 2, none⟩ = some (.slice (some ⟨q2, 0, none⟩) 1 1) := (at_cell NK.out 2).trans rfl
  have y3 : X8.cell? ⟨b, 3, none⟩ = some (.slice (some ⟨q3, 0, none⟩) 2 2) := (at_cell NK.out 3).trans rfl
  have y4 : X8.cell? ⟨b, 4, none⟩ = some (.string ⟨#[]⟩) := (at_cell NK.out 4).trans rfl
  have y5 : X8.cell? ⟨b, 5, none⟩ = some (.string ⟨#[]⟩) := (at_cell NK.out 5).trans rfl
  have y6 : X8.cell? ⟨b, 6, none⟩ = some (.string ⟨#[]⟩) := (at_cell NK.out 6).trans rfl
  have y7 : X8.cell? ⟨b, 7, none⟩ = some (.string ⟨#[]⟩) := (at_cell NK.out 7).trans rfl
  have y8 : X8.cell? ⟨b, 8, none⟩ = some (.string ⟨#[]⟩) := (at_cell NK.out 8).trans rfl
  have y9 : X8.cell? ⟨b, 9, none⟩ = some (.string ⟨#[]⟩) := (at_cell NK.out 9).trans rfl
  have y10 : X8.cell? ⟨b, 10, none⟩ = some (.string ⟨#[]⟩) := (at_cell NK.out 10).trans rfl
  have y11 : X8.cell? ⟨b, 11, none⟩ = some (.string ⟨#[]⟩) := (at_cell NK.out 11).trans rfl
  have y12 : X8.cell? ⟨b, 12, none⟩ = some (.string ⟨#[]⟩) := (at_cell NK.out 12).trans rfl
  have y13 : X8.cell? ⟨b, 13, none⟩ = some (.string ⟨#[]⟩) := (at_cell NK.out 13).trans rfl
  go_wp2_with fail
  clear y0 y1 y2 y3 y4 y5 y6 y7 y8 y9 y10 y11 y12 y13
  have hc := Level_cf few_sample [] [] [] [] [] [] [] [] [] [] HR.out sBob sDb (by decide) (by decide)
  rw [f9] at hc
  unfold confV at hc
  refine hc.mono ?_
  rintro e X9 ⟨rfl, hb⟩
  have HB := Lib.hid (HB.out.trans (hb.mono HB.out.size))
  have NK := Lib.hid ((hb.block _ (at_lt NK.out)).trans NK.out)
  have HR := Lib.hid (HR.out.below hb)
  have HL := Lib.hid (HL.out.below hb)
  clear hc hb
  have y0 : X9.cell? ⟨b, 0, none⟩ = some (.slice (some ⟨q0, 0, none⟩) 3 3) := (at_cell NK.out 0).trans rfl
  have y1 : X9.cell? ⟨b, 1, none⟩ = some (.slice (some ⟨q1, 0, none⟩) 1 1) := (at_cell NK.out 1).trans rfl
  have y2 : X9.cell? ⟨b, 2, none⟩ = some (.slice (some ⟨q2, 0, none⟩) 1 1) := (at_cell NK.out 2).trans rfl
  have y3 : X9.cell? ⟨b, 3, none⟩ = some (.slice (some ⟨q3, 0, none⟩) 2 2) := (at_cell NK.out 3).trans rfl
  have y4 : X9.cell? ⟨b, 4, none⟩ = some (.string ⟨#[]⟩) := (at_cell NK.out 4).trans rfl
  have y5 : X9.cell? ⟨b, 5, none⟩ = some (.string ⟨#[]⟩) := (at_cell NK.out 5).trans rfl
  have y6 : X9.cell? ⟨b, 6, none⟩ = some (.string ⟨#[]⟩) := (at_cell NK.out 6).trans rfl
  have y7 : X9.cell? ⟨b, 7, none⟩ = some (.string ⟨#[]⟩) := (at_cell NK.out 7).trans rfl
  have y8 : X9.cell? ⟨b, 8, none⟩ = some (.string ⟨#[]⟩) := (at_cell NK.out 8).trans rfl
  have y9 : X9.cell? ⟨b, 9, none⟩ = some (.string ⟨#[]⟩) := (at_cell NK.out 9).trans rfl
  have y10 : X9.cell? ⟨b, 10, none⟩ = some (.string ⟨#[]⟩) := (at_cell NK.out 10).trans rfl
  have y11 : X9.cell? ⟨b, 11, none⟩ = some (.string ⟨#[]⟩) := (at_cell NK.out 11).trans rfl
  have y12 : X9.cell? ⟨b, 12, none⟩ = some (.string ⟨#[]⟩) := (at_cell NK.out 12).trans rfl
  have y13 : X9.cell? ⟨b, 13, none⟩ = some (.string ⟨#[]⟩) := (at_cell NK.out 13).trans rfl
  go_wp2_with fail
  clear y0 y1 y2 y3 y4 y5 y6 y7 y8 y9 y10 y11 y12 y13
  have hc := Sees_cf few_sample [] [] [] [] [] [] [] [] [] [] HR.out sAnn (by decide)
  rw [f10] at hc
  unfold confV at hc
  unfold PlPost at hc
  refine hc.mono ?_
  rintro e X10 ⟨v, rfl, ho, hb⟩
  obtain ⟨qs, cs, rfl, hs⟩ := own_rd ho
  have HB := Lib.hid (HB.out.trans (hb.mono HB.out.size))
  have NK := Lib.hid ((hb.block _ (at_lt NK.out)).trans NK.out)
  have HR := Lib.hid (HR.out.below hb)
  have HL := Lib.hid (HL.out.below hb)
  have HS := Lib.hid hs
  clear hs
  clear hc hb ho
  have y0 : X10.cell? ⟨b, 0, none⟩ = some (.slice (some ⟨q0, 0, none⟩) 3 3) := (at_cell NK.out 0).trans rfl
  have y1 : X10.cell? ⟨b, 1, none⟩ = some (.slice (some ⟨q1, 0, none⟩) 1 1) := (at_cell NK.out 1).trans rfl
  have y2 : X10.cell? ⟨b, 2, none⟩ = some (.slice (some ⟨q2, 0, none⟩) 1 1) := (at_cell NK.out 2).trans rfl
  have y3 : X10.cell? ⟨b, 3, none⟩ = some (.slice (some ⟨q3, 0, none⟩) 2 2) := (at_cell NK.out 3).trans rfl
  have y4 : X10.cell? ⟨b, 4, none⟩ = some (.string ⟨#[]⟩) := (at_cell NK.out 4).trans rfl
  have y5 : X10.cell? ⟨b, 5, none⟩ = some (.string ⟨#[]⟩) := (at_cell NK.out 5).trans rfl
  have y6 : X10.cell? ⟨b, 6, none⟩ = some (.string ⟨#[]⟩) := (at_cell NK.out 6).trans rfl
  have y7 : X10.cell? ⟨b, 7, none⟩ = some (.string ⟨#[]⟩) := (at_cell NK.out 7).trans rfl
  have y8 : X10.cell? ⟨b, 8, none⟩ = some (.string ⟨#[]⟩) := (at_cell NK.out 8).trans rfl
  have y9 : X10.cell? ⟨b, 9, none⟩ = some (.string ⟨#[]⟩) := (at_cell NK.out 9).trans rfl
  have y10 : X10.cell? ⟨b, 10, none⟩ = some (.string ⟨#[]⟩) := (at_cell NK.out 10).trans rfl
  have y11 : X10.cell? ⟨b, 11, none⟩ = some (.string ⟨#[]⟩) := (at_cell NK.out 11).trans rfl
  have y12 : X10.cell? ⟨b, 12, none⟩ = some (.string ⟨#[]⟩) := (at_cell NK.out 12).trans rfl
  have y13 : X10.cell? ⟨b, 13, none⟩ = some (.string ⟨#[]⟩) := (at_cell NK.out 13).trans rfl
  go_wp2_with fail
  clear y0 y1 y2 y3 y4 y5 y6 y7 y8 y9 y10 y11 y12 y13
  have hal := (Below.refl X10.heap.size X10).alloc (Nat.le_refl _) (.cells #[.int .i64 0, .int .i64 1] 3)
  have hc := same_calls [0, 1] _ _ _ _ 2 _ (HS.out.below hal) (rd_lit (n := 2) (k := 1) (at_new X10 (.cells #[.int .i64 0, .int .i64 1] 3)) rfl rfl (by unfold maxLen; decide))
  refine hc.mono ?_
  rintro e X11 ⟨rfl, hb0⟩
  have hb := hal.trans (hb0.mono hal.size)
  have HB := Lib.hid (HB.out.trans (hb.mono HB.out.size))
  have NK := Lib.hid ((hb.block _ (at_lt NK.out)).trans NK.out)
  have HR := Lib.hid (HR.out.below hb)
  have HL := Lib.hid (HL.out.below hb)
  clear hc hb hb0 hal
  have y0 : X11.cell? ⟨b, 0, none⟩ = some (.slice (some ⟨q0, 0, none⟩) 3 3) := (at_cell NK.out 0).trans rfl
  have y1 : X11.cell? ⟨b, 1, none⟩ = some (.slice (some ⟨q1, 0, none⟩) 1 1) := (at_cell NK.out 1).trans rfl
  have y2 : X11.cell? ⟨b, 2, none⟩ = some (.slice (some ⟨q2, 0, none⟩) 1 1) := (at_cell NK.out 2).trans rfl
  have y3 : X11.cell? ⟨b, 3, none⟩ = some (.slice (some ⟨q3, 0, none⟩) 2 2) := (at_cell NK.out 3).trans rfl
  have y4 : X11.cell? ⟨b, 4, none⟩ = some (.string ⟨#[]⟩) := (at_cell NK.out 4).trans rfl
  have y5 : X11.cell? ⟨b, 5, none⟩ = some (.string ⟨#[]⟩) := (at_cell NK.out 5).trans rfl
  have y6 : X11.cell? ⟨b, 6, none⟩ = some (.string ⟨#[]⟩) := (at_cell NK.out 6).trans rfl
  have y7 : X11.cell? ⟨b, 7, none⟩ = some (.string ⟨#[]⟩) := (at_cell NK.out 7).trans rfl
  have y8 : X11.cell? ⟨b, 8, none⟩ = some (.string ⟨#[]⟩) := (at_cell NK.out 8).trans rfl
  have y9 : X11.cell? ⟨b, 9, none⟩ = some (.string ⟨#[]⟩) := (at_cell NK.out 9).trans rfl
  have y10 : X11.cell? ⟨b, 10, none⟩ = some (.string ⟨#[]⟩) := (at_cell NK.out 10).trans rfl
  have y11 : X11.cell? ⟨b, 11, none⟩ = some (.string ⟨#[]⟩) := (at_cell NK.out 11).trans rfl
  have y12 : X11.cell? ⟨b, 12, none⟩ = some (.string ⟨#[]⟩) := (at_cell NK.out 12).trans rfl
  have y13 : X11.cell? ⟨b, 13, none⟩ = some (.string ⟨#[]⟩) := (at_cell NK.out 13).trans rfl
  go_wp2_with fail
  clear y0 y1 y2 y3 y4 y5 y6 y7 y8 y9 y10 y11 y12 y13
  have hal := (Below.refl X11.heap.size X11).alloc (Nat.le_refl _) (.cells #[.int .i64 0, .int .i64 1] 3)
  have hc := same_calls [0, 1] _ _ _ _ 2 _ (HL.out.below hal) (rd_lit (n := 2) (k := 1) (at_new X11 (.cells #[.int .i64 0, .int .i64 1] 3)) rfl rfl (by unfold maxLen; decide))
  refine hc.mono ?_
  rintro e X12 ⟨rfl, hb0⟩
  have hb := hal.trans (hb0.mono hal.size)
  have HB := Lib.hid (HB.out.trans (hb.mono HB.out.size))
  have NK := Lib.hid ((hb.block _ (at_lt NK.out)).trans NK.out)
  have HR := Lib.hid (HR.out.below hb)
  clear hc hb hb0 hal
  have y0 : X12.cell? ⟨b, 0, none⟩ = some (.slice (some ⟨q0, 0, none⟩) 3 3) := (at_cell NK.out 0).trans rfl
  have y1 : X12.cell? ⟨b, 1, none⟩ = some (.slice (some ⟨q1, 0, none⟩) 1 1) := (at_cell NK.out 1).trans rfl
  have y2 : X12.cell? ⟨b, 2, none⟩ = some (.slice (some ⟨q2, 0, none⟩) 1 1) := (at_cell NK.out 2).trans rfl
  have y3 : X12.cell? ⟨b, 3, none⟩ = some (.slice (some ⟨q3, 0, none⟩) 2 2) := (at_cell NK.out 3).trans rfl
  have y4 : X12.cell? ⟨b, 4, none⟩ = some (.string ⟨#[]⟩) := (at_cell NK.out 4).trans rfl
  have y5 : X12.cell? ⟨b, 5, none⟩ = some (.string ⟨#[]⟩) := (at_cell NK.out 5).trans rfl
  have y6 : X12.cell? ⟨b, 6, none⟩ = some (.string ⟨#[]⟩) := (at_cell NK.out 6).trans rfl
  have y7 : X12.cell? ⟨b, 7, none⟩ = some (.string ⟨#[]⟩) := (at_cell NK.out 7).trans rfl
  have y8 : X12.cell? ⟨b, 8, none⟩ = some (.string ⟨#[]⟩) := (at_cell NK.out 8).trans rfl
  have y9 : X12.cell? ⟨b, 9, none⟩ = some (.string ⟨#[]⟩) := (at_cell NK.out 9).trans rfl
  have y10 : X12.cell? ⟨b, 10, none⟩ = some (.string ⟨#[]⟩) := (at_cell NK.out 10).trans rfl
  have y11 : X12.cell? ⟨b, 11, none⟩ = some (.string ⟨#[]⟩) := (at_cell NK.out 11).trans rfl
  have y12 : X12.cell? ⟨b, 12, none⟩ = some (.string ⟨#[]⟩) := (at_cell NK.out 12).trans rfl
  have y13 : X12.cell? ⟨b, 13, none⟩ = some (.string ⟨#[]⟩) := (at_cell NK.out 13).trans rfl
  go_wp2_with fail
  clear y0 y1 y2 y3 y4 y5 y6 y7 y8 y9 y10 y11 y12 y13
  have hc := Enter_cf few_sample [] [] [] [] [] [] [] [] [] [] HR.out sAnn sX
  rw [f11] at hc
  unfold confV at hc
  refine hc.mono ?_
  rintro e X13 ⟨rfl, hb⟩
  have HB := Lib.hid (HB.out.trans (hb.mono HB.out.size))
  have NK := Lib.hid ((hb.block _ (at_lt NK.out)).trans NK.out)
  have HR := Lib.hid (HR.out.below hb)
  clear hc hb
  have y0 : X13.cell? ⟨b, 0, none⟩ = some (.slice (some ⟨q0, 0, none⟩) 3 3) := (at_cell NK.out 0).trans rfl
  have y1 : X13.cell? ⟨b, 1, none⟩ = some (.slice (some ⟨q1, 0, none⟩) 1 1) := (at_cell NK.out 1).trans rfl
  have y2 : X13.cell? ⟨b, 2, none⟩ = some (.slice (some ⟨q2, 0, none⟩) 1 1) := (at_cell NK.out 2).trans rfl
  have y3 : X13.cell? ⟨b, 3, none⟩ = some (.slice (some ⟨q3, 0, none⟩) 2 2) := (at_cell NK.out 3).trans rfl
  have y4 : X13.cell? ⟨b, 4, none⟩ = some (.string ⟨#[]⟩) := (at_cell NK.out 4).trans rfl
  have y5 : X13.cell? ⟨b, 5, none⟩ = some (.string ⟨#[]⟩) := (at_cell NK.out 5).trans rfl
  have y6 : X13.cell? ⟨b, 6, none⟩ = some (.string ⟨#[]⟩) := (at_cell NK.out 6).trans rfl
  have y7 : X13.cell? ⟨b, 7, none⟩ = some (.string ⟨#[]⟩) := (at_cell NK.out 7).trans rfl
  have y8 : X13.cell? ⟨b, 8, none⟩ = some (.string ⟨#[]⟩) := (at_cell NK.out 8).trans rfl
  have y9 : X13.cell? ⟨b, 9, none⟩ = some (.string ⟨#[]⟩) := (at_cell NK.out 9).trans rfl
  have y10 : X13.cell? ⟨b, 10, none⟩ = some (.string ⟨#[]⟩) := (at_cell NK.out 10).trans rfl
  have y11 : X13.cell? ⟨b, 11, none⟩ = some (.string ⟨#[]⟩) := (at_cell NK.out 11).trans rfl
  have y12 : X13.cell? ⟨b, 12, none⟩ = some (.string ⟨#[]⟩) := (at_cell NK.out 12).trans rfl
  have y13 : X13.cell? ⟨b, 13, none⟩ = some (.string ⟨#[]⟩) := (at_cell NK.out 13).trans rfl
  go_wp2_with fail
  clear y0 y1 y2 y3 y4 y5 y6 y7 y8 y9 y10 y11 y12 y13
  have hc := Enter_cf few_sample [] [] [] [] [] [] [] [] [] [] HR.out sAnn sY
  rw [f12] at hc
  unfold confV at hc
  refine hc.mono ?_
  rintro e X14 ⟨rfl, hb⟩
  have HB := Lib.hid (HB.out.trans (hb.mono HB.out.size))
  have NK := Lib.hid ((hb.block _ (at_lt NK.out)).trans NK.out)
  have HR := Lib.hid (HR.out.below hb)
  clear hc hb
  have y0 : X14.cell? ⟨b, 0, none⟩ = some (.slice (some ⟨q0, 0, none⟩) 3 3) := (at_cell NK.out 0).trans rfl
  have y1 : X14.cell? ⟨b, 1, none⟩ = some (.slice (some ⟨q1, 0, none⟩) 1 1) := (at_cell NK.out 1).trans rfl
  have y2 : X14.cell? ⟨b, 2, none⟩ = some (.slice (some ⟨q2, 0, none⟩) 1 1) := (at_cell NK.out 2).trans rfl
  have y3 : X14.cell? ⟨b, 3, none⟩ = some (.slice (some ⟨q3, 0, none⟩) 2 2) := (at_cell NK.out 3).trans rfl
  have y4 : X14.cell? ⟨b, 4, none⟩ = some (.string ⟨#[]⟩) := (at_cell NK.out 4).trans rfl
  have y5 : X14.cell? ⟨b, 5, none⟩ = some (.string ⟨#[]⟩) := (at_cell NK.out 5).trans rfl
  have y6 : X14.cell? ⟨b, 6, none⟩ = some (.string ⟨#[]⟩) := (at_cell NK.out 6).trans rfl
  have y7 : X14.cell? ⟨b, 7, none⟩ = some (.string ⟨#[]⟩) := (at_cell NK.out 7).trans rfl
  have y8 : X14.cell? ⟨b, 8, none⟩ = some (.string ⟨#[]⟩) := (at_cell NK.out 8).trans rfl
  have y9 : X14.cell? ⟨b, 9, none⟩ = some (.string ⟨#[]⟩) := (at_cell NK.out 9).trans rfl
  have y10 : X14.cell? ⟨b, 10, none⟩ = some (.string ⟨#[]⟩) := (at_cell NK.out 10).trans rfl
  have y11 : X14.cell? ⟨b, 11, none⟩ = some (.string ⟨#[]⟩) := (at_cell NK.out 11).trans rfl
  have y12 : X14.cell? ⟨b, 12, none⟩ = some (.string ⟨#[]⟩) := (at_cell NK.out 12).trans rfl
  have y13 : X14.cell? ⟨b, 13, none⟩ = some (.string ⟨#[]⟩) := (at_cell NK.out 13).trans rfl
  go_wp2_with fail
  clear y0 y1 y2 y3 y4 y5 y6 y7 y8 y9 y10 y11 y12 y13
  have hc := Enter_cf few_sample [] [] [] [] [] [] [] [] [] [] HR.out sBob sX
  rw [f13] at hc
  unfold confV at hc
  refine hc.mono ?_
  rintro e X15 ⟨rfl, hb⟩
  have HB := Lib.hid (HB.out.trans (hb.mono HB.out.size))
  have NK := Lib.hid ((hb.block _ (at_lt NK.out)).trans NK.out)
  have HR := Lib.hid (HR.out.below hb)
  clear hc hb
  have y0 : X15.cell? ⟨b, 0, none⟩ = some (.slice (some ⟨q0, 0, none⟩) 3 3) := (at_cell NK.out 0).trans rfl
  have y1 : X15.cell? ⟨b, 1, none⟩ = some (.slice (some ⟨q1, 0, none⟩) 1 1) := (at_cell NK.out 1).trans rfl
  have y2 : X15.cell? ⟨b, 2, none⟩ = some (.slice (some ⟨q2, 0, none⟩) 1 1) := (at_cell NK.out 2).trans rfl
  have y3 : X15.cell? ⟨b, 3, none⟩ = some (.slice (some ⟨q3, 0, none⟩) 2 2) := (at_cell NK.out 3).trans rfl
  have y4 : X15.cell? ⟨b, 4, none⟩ = some (.string ⟨#[]⟩) := (at_cell NK.out 4).trans rfl
  have y5 : X15.cell? ⟨b, 5, none⟩ = some (.string ⟨#[]⟩) := (at_cell NK.out 5).trans rfl
  have y6 : X15.cell? ⟨b, 6, none⟩ = some (.string ⟨#[]⟩) := (at_cell NK.out 6).trans rfl
  have y7 : X15.cell? ⟨b, 7, none⟩ = some (.string ⟨#[]⟩) := (at_cell NK.out 7).trans rfl
  have y8 : X15.cell? ⟨b, 8, none⟩ = some (.string ⟨#[]⟩) := (at_cell NK.out 8).trans rfl
  have y9 : X15.cell? ⟨b, 9, none⟩ = some (.string ⟨#[]⟩) := (at_cell NK.out 9).trans rfl
  have y10 : X15.cell? ⟨b, 10, none⟩ = some (.string ⟨#[]⟩) := (at_cell NK.out 10).trans rfl
  have y11 : X15.cell? ⟨b, 11, none⟩ = some (.string ⟨#[]⟩) := (at_cell NK.out 11).trans rfl
  have y12 : X15.cell? ⟨b, 12, none⟩ = some (.string ⟨#[]⟩) := (at_cell NK.out 12).trans rfl
  have y13 : X15.cell? ⟨b, 13, none⟩ = some (.string ⟨#[]⟩) := (at_cell NK.out 13).trans rfl
  go_wp2_with fail
  clear y0 y1 y2 y3 y4 y5 y6 y7 y8 y9 y10 y11 y12 y13
  have hc := May_cf few_sample [] [] [] [] [] [] [] [] [] [] HR.out sAnn sWeb1 2 (by decide) (by decide)
  rw [f7] at hc
  unfold confV at hc
  refine hc.mono ?_
  rintro e X16 ⟨rfl, hb⟩
  have HB := Lib.hid (HB.out.trans (hb.mono HB.out.size))
  have NK := Lib.hid ((hb.block _ (at_lt NK.out)).trans NK.out)
  have HR := Lib.hid (HR.out.below hb)
  clear hc hb
  have y0 : X16.cell? ⟨b, 0, none⟩ = some (.slice (some ⟨q0, 0, none⟩) 3 3) := (at_cell NK.out 0).trans rfl
  have y1 : X16.cell? ⟨b, 1, none⟩ = some (.slice (some ⟨q1, 0, none⟩) 1 1) := (at_cell NK.out 1).trans rfl
  have y2 : X16.cell? ⟨b, 2, none⟩ = some (.slice (some ⟨q2, 0, none⟩) 1 1) := (at_cell NK.out 2).trans rfl
  have y3 : X16.cell? ⟨b, 3, none⟩ = some (.slice (some ⟨q3, 0, none⟩) 2 2) := (at_cell NK.out 3).trans rfl
  have y4 : X16.cell? ⟨b, 4, none⟩ = some (.string ⟨#[]⟩) := (at_cell NK.out 4).trans rfl
  have y5 : X16.cell? ⟨b, 5, none⟩ = some (.string ⟨#[]⟩) := (at_cell NK.out 5).trans rfl
  have y6 : X16.cell? ⟨b, 6, none⟩ = some (.string ⟨#[]⟩) := (at_cell NK.out 6).trans rfl
  have y7 : X16.cell? ⟨b, 7, none⟩ = some (.string ⟨#[]⟩) := (at_cell NK.out 7).trans rfl
  have y8 : X16.cell? ⟨b, 8, none⟩ = some (.string ⟨#[]⟩) := (at_cell NK.out 8).trans rfl
  have y9 : X16.cell? ⟨b, 9, none⟩ = some (.string ⟨#[]⟩) := (at_cell NK.out 9).trans rfl
  have y10 : X16.cell? ⟨b, 10, none⟩ = some (.string ⟨#[]⟩) := (at_cell NK.out 10).trans rfl
  have y11 : X16.cell? ⟨b, 11, none⟩ = some (.string ⟨#[]⟩) := (at_cell NK.out 11).trans rfl
  have y12 : X16.cell? ⟨b, 12, none⟩ = some (.string ⟨#[]⟩) := (at_cell NK.out 12).trans rfl
  have y13 : X16.cell? ⟨b, 13, none⟩ = some (.string ⟨#[]⟩) := (at_cell NK.out 13).trans rfl
  go_wp2_with fail
  clear y0 y1 y2 y3 y4 y5 y6 y7 y8 y9 y10 y11 y12 y13
  have hc := May_cf few_sample [] [] [] [] [] [] [] [] [] [] HR.out sAnn sWeb1 3 (by decide) (by decide)
  rw [f7] at hc
  unfold confV at hc
  refine hc.mono ?_
  rintro e X17 ⟨rfl, hb⟩
  have HB := Lib.hid (HB.out.trans (hb.mono HB.out.size))
  have NK := Lib.hid ((hb.block _ (at_lt NK.out)).trans NK.out)
  have HR := Lib.hid (HR.out.below hb)
  clear hc hb
  have y0 : X17.cell? ⟨b, 0, none⟩ = some (.slice (some ⟨q0, 0, none⟩) 3 3) := (at_cell NK.out 0).trans rfl
  have y1 : X17.cell? ⟨b, 1, none⟩ = some (.slice (some ⟨q1, 0, none⟩) 1 1) := (at_cell NK.out 1).trans rfl
  have y2 : X17.cell? ⟨b, 2, none⟩ = some (.slice (some ⟨q2, 0, none⟩) 1 1) := (at_cell NK.out 2).trans rfl
  have y3 : X17.cell? ⟨b, 3, none⟩ = some (.slice (some ⟨q3, 0, none⟩) 2 2) := (at_cell NK.out 3).trans rfl
  have y4 : X17.cell? ⟨b, 4, none⟩ = some (.string ⟨#[]⟩) := (at_cell NK.out 4).trans rfl
  have y5 : X17.cell? ⟨b, 5, none⟩ = some (.string ⟨#[]⟩) := (at_cell NK.out 5).trans rfl
  have y6 : X17.cell? ⟨b, 6, none⟩ = some (.string ⟨#[]⟩) := (at_cell NK.out 6).trans rfl
  have y7 : X17.cell? ⟨b, 7, none⟩ = some (.string ⟨#[]⟩) := (at_cell NK.out 7).trans rfl
  have y8 : X17.cell? ⟨b, 8, none⟩ = some (.string ⟨#[]⟩) := (at_cell NK.out 8).trans rfl
  have y9 : X17.cell? ⟨b, 9, none⟩ = some (.string ⟨#[]⟩) := (at_cell NK.out 9).trans rfl
  have y10 : X17.cell? ⟨b, 10, none⟩ = some (.string ⟨#[]⟩) := (at_cell NK.out 10).trans rfl
  have y11 : X17.cell? ⟨b, 11, none⟩ = some (.string ⟨#[]⟩) := (at_cell NK.out 11).trans rfl
  have y12 : X17.cell? ⟨b, 12, none⟩ = some (.string ⟨#[]⟩) := (at_cell NK.out 12).trans rfl
  have y13 : X17.cell? ⟨b, 13, none⟩ = some (.string ⟨#[]⟩) := (at_cell NK.out 13).trans rfl
  go_wp2_with fail
  go_ret
  exact ⟨rfl, HB.out⟩
end Go.Proofs.Ytomnkmcabkoagaa.Rgt
