/-
  Layer 16 (rights): RightsFirst, walked.
-/
import Derived.Test.YtomnkmcabkoagaaRgtLawB
import Derived.Test.YtomnkmcabkoagaaRgtFewO
import Derived.Test.YtomnkmcabkoagaaRgtFirstA
namespace Go.Proofs.Ytomnkmcabkoagaa.Rgt
open Go.RowKit Go.Proofs.Ytomnkmcabkoagaa.Own Go.Proofs.Ytomnkmcabkoagaa.Rw Go.Proofs.Ytomnkmcabkoagaa.Tree Go.Proofs.Ytomnkmcabkoagaa.Conf

set_option maxRecDepth 100000 in
set_option maxHeartbeats 4000000 in
theorem wg9_ldConf {o : Oper} {a : Act} {w : World} {K : Act → World → Prop} {Q : Exit → Act → World → Prop} (t b : Nat) (x0 x1 x2 x3 x4 x5 x6 x7 x8 x9 x10 x11 x12 x13 : Value) (ho : o.op = .load 28 (.tmp t)) (h1 : a.tmps[t]? = some (.pointer (some ⟨b, 0, none⟩))) (N : w.heap[b]? = some (.cells #[x0, x1, x2, x3, x4, x5, x6, x7, x8, x9, x10, x11, x12, x13] 28 (0, 0))) (h : K (a.put o.dst (.agg #[x0, x1, x2, x3, x4, x5, x6, x7, x8, x9, x10, x11, x12, x13])) w) : Oper.wp Try.prog o a w K Q := by
  have c0 : w.cell? ⟨b, 0, none⟩ = some x0 := at_cell N 0
  have c1 : w.cell? ⟨b, 1, none⟩ = some x1 := at_cell N 1
  have c2 : w.cell? ⟨b, 2, none⟩ = some x2 := at_cell N 2
  have c3 : w.cell? ⟨b, 3, none⟩ = some x3 := at_cell N 3
  have c4 : w.cell? ⟨b, 4, none⟩ = some x4 := at_cell N 4
  have c5 : w.cell? ⟨b, 5, none⟩ = some x5 := at_cell N 5
  have c6 : w.cell? ⟨b, 6, none⟩ = some x6 := at_cell N 6
  have c7 : w.cell? ⟨b, 7, none⟩ = some x7 := at_cell N 7
  have c8 : w.cell? ⟨b, 8, none⟩ = some x8 := at_cell N 8
  have c9 : w.cell? ⟨b, 9, none⟩ = some x9 := at_cell N 9
  have c10 : w.cell? ⟨b, 10, none⟩ = some x10 := at_cell N 10
  have c11 : w.cell? ⟨b, 11, none⟩ = some x11 := at_cell N 11
  have c12 : w.cell? ⟨b, 12, none⟩ = some x12 := at_cell N 12
  have c13 : w.cell? ⟨b, 13, none⟩ = some x13 := at_cell N 13
  clear N
  obtain ⟨d, op, ty, ps, af, gd⟩ := o
  cases ho
  unfold Oper.wp
  simp [go_sem, h1, Oper.upon, c0, c1, c2, c3, c4, c5, c6, c7, c8, c9, c10, c11, c12, c13]
  exact h
set_option maxRecDepth 100000 in
theorem wg9_move {o : Oper} {a : Act} {w : World} {K : Act → World → Prop} {Q : Exit → Act → World → Prop} (t : Nat) (v : Value) (ho : o.op = .move (.tmp t)) (h1 : a.tmps[t]? = some v) (h : K (a.put o.dst v) w) : Oper.wp Try.prog o a w K Q := by
  obtain ⟨d, op, ty, ps, af, gd⟩ := o
  cases ho
  unfold Oper.wp
  simp [go_sem, h1, Oper.upon]
  exact h
set_option maxRecDepth 100000 in
theorem wg9_call3_rightsLevel {o : Oper} {a : Act} {w : World} {K : Act → World → Prop} {Q : Exit → Act → World → Prop} (t0 : Nat) (t1 : Nat) (t2 : Nat) (v0 : Value) (v1 : Value) (v2 : Value) (ts : Array TypeId) (S : World → Value → Prop) (ho : o.op = .call { callee := .value (.func 9), args := #[.tmp t0, .tmp t1, .tmp t2], argTypes := ts }) (h0 : a.tmps[t0]? = some v0) (h1 : a.tmps[t1]? = some v1) (h2 : a.tmps[t2]? = some v2) (h : Calls Try.prog 9 #[v0, v1, v2] w (fun e w2 => ∃ v, e = .returned v ∧ S w2 v ∧ Below w.heap.size w w2)) (hK : ∀ v w2, S w2 v → Below w.heap.size w w2 → K (a.put o.dst v) w2) : Oper.wp Try.prog o a w K Q := by
  obtain ⟨d, op, ty, ps, af, gd⟩ := o
  cases ho
  unfold Oper.wp
  simp [go_sem, Oper.upon, h0, h1, h2]
  refine h.mono ?_
  rintro e w2 ⟨v, rfl, hk, hb⟩
  exact hK v w2 hk hb
set_option maxRecDepth 100000 in
theorem wg9_assign {o : Oper} {a : Act} {w : World} {K : Act → World → Prop} {Q : Exit → Act → World → Prop} (t : Nat) (v : Value) (ho : o.op = .assign (.tmp t)) (h1 : a.tmps[t]? = some v) (h : K (a.put o.dst v) w) : Oper.wp Try.prog o a w K Q := by
  obtain ⟨d, op, ty, ps, af, gd⟩ := o
  cases ho
  unfold Oper.wp
  simp [go_sem, h1, Oper.upon]
  exact h
theorem two_new (w5 W : World) (o : Obj) (hW : ((w5.alloc o).alloc o).drew = W) : W.heap[w5.heap.size]? = some o ∧ W.heap[w5.heap.size + 1]? = some o ∧ Below w5.heap.size w5 W := by
  subst hW
  refine ⟨?_, ?_, ?_⟩
  · show ((w5.alloc o).alloc o).heap[_]? = _
    exact at_old _ _ (at_new _ _)
  · show ((w5.alloc o).alloc o).heap[_]? = _
    exact at_newk _ _ (by simp)
  · have b := ((Below.refl w5.heap.size w5).alloc (Nat.le_refl _) o).alloc (by simp) o
    exact ⟨b.os, b.tape, b.output, b.size, b.block⟩
theorem step_cut2 {ops : Array Oper} {o : Oper} {a : Act} {w : World} {K : Act → World → Prop} {Q : Exit → Act → World → Prop} {E : Prop} (hgd : o.guard = none) (t : Nat) (ts : Array TypeId)
    (ho : o.op = .call { callee := .value (.func 7), args := #[.tmp t], argTypes := ts }) (s y : Bs) (h1 : a.tmps[t]? = some (.string ⟨s.toArray⟩)) (hy : cutM s = y)
    (h : K (a.put o.dst (.string ⟨y.toArray⟩)) w) : if Region.wanted o (yielded ops a.tmps) = true then Oper.wp Try.prog o a w K Q else E := by
  rw [if_pos (by simp [Region.wanted, hgd])]
  exact cut_known t ts s y ho h1 hy h
set_option maxRecDepth 100000 in
set_option maxHeartbeats 8000000 in
theorem first_walk (hFew : FewSpec) (c : Cf) (p0 p1 p2 p3 : Option Addr) (n0 n1 n2 n3 k0 k1 k2 k3 : Nat) (b0 b1 b2 b3 b4 b5 b6 b7 b8 b9 : Bs) (xa xb : Bs) (xl : Int) (u q : Bs) (w : World) (h : CfA w (.slice p0 n0 k0) (.slice p1 n1 k1) (.slice p2 n2 k2) (.slice p3 n3 k3) c) :
    Calls Try.prog 5 #[confV (.slice p0 n0 k0) (.slice p1 n1 k1) (.slice p2 n2 k2) (.slice p3 n3 k3) b0 b1 b2 b3 b4 b5 b6 b7 b8 b9, .agg #[.string ⟨xa.toArray⟩, .string ⟨xb.toArray⟩, .int .i64 xl], .string ⟨u.toArray⟩, .string ⟨q.toArray⟩] w fun e w' => e = .returned (.bool true) ∧ Below w.heap.size w w' := by
  have hB0 := (Below.refl w.heap.size w).alloc (Nat.le_refl _) (.cells #[.slice p0 n0 k0, .slice p1 n1 k1, .slice p2 n2 k2, .slice p3 n3 k3, .string ⟨b0.toArray⟩, .string ⟨b1.toArray⟩, .string ⟨b2.toArray⟩, .string ⟨b3.toArray⟩, .string ⟨b4.toArray⟩, .string ⟨b5.toArray⟩, .string ⟨b6.toArray⟩, .string ⟨b7.toArray⟩, .string ⟨b8.toArray⟩, .string ⟨b9.toArray⟩] 28)
  have N0 := at_new w (.cells #[.slice p0 n0 k0, .slice p1 n1 k1, .slice p2 n2 k2, .slice p3 n3 k3, .string ⟨b0.toArray⟩, .string ⟨b1.toArray⟩, .string ⟨b2.toArray⟩, .string ⟨b3.toArray⟩, .string ⟨b4.toArray⟩, .string ⟨b5.toArray⟩, .string ⟨b6.toArray⟩, .string ⟨b7.toArray⟩, .string ⟨b8.toArray⟩, .string ⟨b9.toArray⟩] 28)
  have hs0 : (w.alloc (.cells #[.slice p0 n0 k0, .slice p1 n1 k1, .slice p2 n2 k2, .slice p3 n3 k3, .string ⟨b0.toArray⟩, .string ⟨b1.toArray⟩, .string ⟨b2.toArray⟩, .string ⟨b3.toArray⟩, .string ⟨b4.toArray⟩, .string ⟨b5.toArray⟩, .string ⟨b6.toArray⟩, .string ⟨b7.toArray⟩, .string ⟨b8.toArray⟩, .string ⟨b9.toArray⟩] 28)).heap.size = w.heap.size + 1 := by simp
  have hBX := hB0.alloc hB0.size (.cells #[.string ⟨xa.toArray⟩, .string ⟨xb.toArray⟩, .int .i64 xl] 50)
  have NX := at_old _ (.cells #[.string ⟨xa.toArray⟩, .string ⟨xb.toArray⟩, .int .i64 xl] 50) N0
  have hsX : ((w.alloc (.cells #[.slice p0 n0 k0, .slice p1 n1 k1, .slice p2 n2 k2, .slice p3 n3 k3, .string ⟨b0.toArray⟩, .string ⟨b1.toArray⟩, .string ⟨b2.toArray⟩, .string ⟨b3.toArray⟩, .string ⟨b4.toArray⟩, .string ⟨b5.toArray⟩, .string ⟨b6.toArray⟩, .string ⟨b7.toArray⟩, .string ⟨b8.toArray⟩, .string ⟨b9.toArray⟩] 28)).alloc (.cells #[.string ⟨xa.toArray⟩, .string ⟨xb.toArray⟩, .int .i64 xl] 50)).heap.size = w.heap.size + 1 + 1 := by simp
  have HX0 : Hid (((w.alloc (.cells #[.slice p0 n0 k0, .slice p1 n1 k1, .slice p2 n2 k2, .slice p3 n3 k3, .string ⟨b0.toArray⟩, .string ⟨b1.toArray⟩, .string ⟨b2.toArray⟩, .string ⟨b3.toArray⟩, .string ⟨b4.toArray⟩, .string ⟨b5.toArray⟩, .string ⟨b6.toArray⟩, .string ⟨b7.toArray⟩, .string ⟨b8.toArray⟩, .string ⟨b9.toArray⟩] 28)).alloc (.cells #[.string ⟨xa.toArray⟩, .string ⟨xb.toArray⟩, .int .i64 xl] 50)).heap[w.heap.size + 1]? = some (.cells #[.string ⟨xa.toArray⟩, .string ⟨xb.toArray⟩, .int .i64 xl] 50 (0, 0))) := Lib.hid (at_newk _ _ (by simp))
  have HFC := Lib.hid (hFew c p0 p1 p2 p3 n0 n1 n2 n3 k0 k1 k2 k3 b0 b1 b2 b3 b4 b5 b6 b7 b8 b9 ((w.alloc (.cells #[.slice p0 n0 k0, .slice p1 n1 k1, .slice p2 n2 k2, .slice p3 n3 k3, .string ⟨b0.toArray⟩, .string ⟨b1.toArray⟩, .string ⟨b2.toArray⟩, .string ⟨b3.toArray⟩, .string ⟨b4.toArray⟩, .string ⟨b5.toArray⟩, .string ⟨b6.toArray⟩, .string ⟨b7.toArray⟩, .string ⟨b8.toArray⟩, .string ⟨b9.toArray⟩] 28)).alloc (.cells #[.string ⟨xa.toArray⟩, .string ⟨xb.toArray⟩, .int .i64 xl] 50)) (h.keep hBX))
  have HB0 := Lib.hid hBX
  have HN0 := Lib.hid NX
  have HS0 := Lib.hid hsX
  obtain ⟨u', hu'⟩ : ∃ z, cutM u = z := ⟨_, rfl⟩
  obtain ⟨q', hq'⟩ : ∃ z, cutM q = z := ⟨_, rfl⟩
  have HC1 : Hid (∀ w', Calls Try.prog 7 #[.string ⟨u.toArray⟩] w' fun e w2 => e = .returned (.string ⟨u'.toArray⟩) ∧ w' = w2) := Lib.hid fun w' => by rw [← hu']; exact cut_calls u w'
  have HC2 : Hid (∀ w', Calls Try.prog 7 #[.string ⟨q.toArray⟩] w' fun e w2 => e = .returned (.string ⟨q'.toArray⟩) ∧ w' = w2) := Lib.hid fun w' => by rw [← hq']; exact cut_calls q w'
  have hul : u'.length ≤ 65536 := by rw [← hu']; exact Nat.le_trans (cut_le u) (by decide)
  have hql : q'.length ≤ 65536 := by rw [← hq']; exact Nat.le_trans (cut_le q) (by decide)
  clear h hu' hq' N0 hs0 hB0
  unfold confV at *
  go_enter Try.func5, Try.ntmps5
  go_wp2_with fail
  refine HFC.out.mono ?_
  rintro e w1 ⟨v0, v1, v2, v3, d0, d1, d2, d3, d4, d5, d6, d7, d8, d9, m, rfl, hR, hS, hb1⟩
  obtain ⟨⟨q0, j0, rfl, -⟩, ⟨q1, j1, gs, rfl, -, -⟩, ⟨q2, j2, rfl, -⟩, ⟨q3, j3, rfl, -⟩⟩ := hR w1 (Out.refl _ _)
  have N1 := (hb1.block _ (by rw [HS0.out]; omega)).trans HN0.out
  have HN1 := Lib.hid N1
  have HB1 := Lib.hid (HB0.out.trans (hb1.mono HB0.out.size))
  have HXB := Lib.hid ((hb1.block _ (at_lt HX0.out)).trans HX0.out)
  have HR := Lib.hid hR
  have HS := Lib.hid hS
  have hz1 : w.heap.size < w1.heap.size := at_lt N1
  have a0 : w1.cell? ⟨w.heap.size, 0, none⟩ = some (.slice p0 n0 k0) := (at_cell N1 0).trans rfl
  have f0 := at_frozen N1 0
  have a1 : w1.cell? ⟨w.heap.size, 1, none⟩ = some (.slice p1 n1 k1) := (at_cell N1 1).trans rfl
  have f1 := at_frozen N1 1
  have a2 : w1.cell? ⟨w.heap.size, 2, none⟩ = some (.slice p2 n2 k2) := (at_cell N1 2).trans rfl
  have f2 := at_frozen N1 2
  have a3 : w1.cell? ⟨w.heap.size, 3, none⟩ = some (.slice p3 n3 k3) := (at_cell N1 3).trans rfl
  have f3 := at_frozen N1 3
  have a4 : w1.cell? ⟨w.heap.size, 4, none⟩ = some (.string ⟨b0.toArray⟩) := (at_cell N1 4).trans rfl
  have f4 := at_frozen N1 4
  have a5 : w1.cell? ⟨w.heap.size, 5, none⟩ = some (.string ⟨b1.toArray⟩) := (at_cell N1 5).trans rfl
  have f5 := at_frozen N1 5
  have a6 : w1.cell? ⟨w.heap.size, 6, none⟩ = some (.string ⟨b2.toArray⟩) := (at_cell N1 6).trans rfl
  have f6 := at_frozen N1 6
  have a7 : w1.cell? ⟨w.heap.size, 7, none⟩ = some (.string ⟨b3.toArray⟩) := (at_cell N1 7).trans rfl
  have f7 := at_frozen N1 7
  have a8 : w1.cell? ⟨w.heap.size, 8, none⟩ = some (.string ⟨b4.toArray⟩) := (at_cell N1 8).trans rfl
  have f8 := at_frozen N1 8
  have a9 : w1.cell? ⟨w.heap.size, 9, none⟩ = some (.string ⟨b5.toArray⟩) := (at_cell N1 9).trans rfl
  have f9 := at_frozen N1 9
  have a10 : w1.cell? ⟨w.heap.size, 10, none⟩ = some (.string ⟨b6.toArray⟩) := (at_cell N1 10).trans rfl
  have f10 := at_frozen N1 10
  have a11 : w1.cell? ⟨w.heap.size, 11, none⟩ = some (.string ⟨b7.toArray⟩) := (at_cell N1 11).trans rfl
  have f11 := at_frozen N1 11
  have a12 : w1.cell? ⟨w.heap.size, 12, none⟩ = some (.string ⟨b8.toArray⟩) := (at_cell N1 12).trans rfl
  have f12 := at_frozen N1 12
  have a13 : w1.cell? ⟨w.heap.size, 13, none⟩ = some (.string ⟨b9.toArray⟩) := (at_cell N1 13).trans rfl
  have f13 := at_frozen N1 13
  clear N1 hb1 hR hS HFC
  unfold confV
  go_upto_region 2 with (go_at_call 7; first | (refine (HC1.out _).mono ?_; rintro e w' ⟨rfl, rfl⟩) | (refine (HC2.out _).mono ?_; rintro e w' ⟨rfl, rfl⟩))
  clear a0 f0 a1 f1 a2 f2 a3 f3 a4 f4 a5 f5 a6 f6 a7 f7 a8 f8 a9 f9 a10 f10 a11 f11 a12 f12 a13 f13
  have NY := set14_row (y0 := .slice q0 m.cons.length j0) (y1 := .slice q1 m.grps.length j1) (y2 := .slice q2 m.usrs.length j2) (y3 := .slice q3 m.accs.length j3) (y4 := .string ⟨d0.toArray⟩) (y5 := .string ⟨d1.toArray⟩) (y6 := .string ⟨d2.toArray⟩) (y7 := .string ⟨d3.toArray⟩) (y8 := .string ⟨d4.toArray⟩) (y9 := .string ⟨d5.toArray⟩) (y10 := .string ⟨d6.toArray⟩) (y11 := .string ⟨d7.toArray⟩) (y12 := .string ⟨d8.toArray⟩) (y13 := .string ⟨d9.toArray⟩) HN1.out
  have OY := set14_out w1 w.heap.size (.slice q0 m.cons.length j0) (.slice q1 m.grps.length j1) (.slice q2 m.usrs.length j2) (.slice q3 m.accs.length j3) (.string ⟨d0.toArray⟩) (.string ⟨d1.toArray⟩) (.string ⟨d2.toArray⟩) (.string ⟨d3.toArray⟩) (.string ⟨d4.toArray⟩) (.string ⟨d5.toArray⟩) (.string ⟨d6.toArray⟩) (.string ⟨d7.toArray⟩) (.string ⟨d8.toArray⟩) (.string ⟨d9.toArray⟩)
  generalize ((((((((((((((w1.setCell ⟨w.heap.size, 0, none⟩ (.slice q0 m.cons.length j0)).setCell ⟨w.heap.size, 1, none⟩ (.slice q1 m.grps.length j1)).setCell ⟨w.heap.size, 2, none⟩ (.slice q2 m.usrs.length j2)).setCell ⟨w.heap.size, 3, none⟩ (.slice q3 m.accs.length j3)).setCell ⟨w.heap.size, 4, none⟩ (.string ⟨d0.toArray⟩)).setCell ⟨w.heap.size, 5, none⟩ (.string ⟨d1.toArray⟩)).setCell ⟨w.heap.size, 6, none⟩ (.string ⟨d2.toArray⟩)).setCell ⟨w.heap.size, 7, none⟩ (.string ⟨d3.toArray⟩)).setCell ⟨w.heap.size, 8, none⟩ (.string ⟨d4.toArray⟩)).setCell ⟨w.heap.size, 9, none⟩ (.string ⟨d5.toArray⟩)).setCell ⟨w.heap.size, 10, none⟩ (.string ⟨d6.toArray⟩)).setCell ⟨w.heap.size, 11, none⟩ (.string ⟨d7.toArray⟩)).setCell ⟨w.heap.size, 12, none⟩ (.string ⟨d8.toArray⟩)).setCell ⟨w.heap.size, 13, none⟩ (.string ⟨d9.toArray⟩)) = Y at NY OY ⊢
  have HY : Hid (Bxd Y w.heap.size (.slice q0 m.cons.length j0) (.slice q1 m.grps.length j1) (.slice q2 m.usrs.length j2) (.slice q3 m.accs.length j3) d0 d1 d2 d3 d4 d5 d6 d7 d8 d9 m) := Lib.hid ⟨NY, HR.out Y (OY.mono fun k _ e => by rw [HS0.out]; omega), HS.out⟩
  have HBY := Lib.hid (HB1.out.trans (OY.below (by omega) fun k e => by omega))
  have hzY : w.heap.size < Y.heap.size := at_lt NY
  have HXY := Lib.hid (OY.at_ HXB.out (by omega))
  have HOY := Lib.hid OY
  clear NY OY
  have x0 := (at_cell HXY.out 0 : _ = some (Value.string ⟨xa.toArray⟩))
  have x1 := (at_cell HXY.out 1 : _ = some (Value.string ⟨xb.toArray⟩))
  have g0 := at_frozen HXY.out 0
  have g1 := at_frozen HXY.out 1
  obtain ⟨xa', hxa⟩ : ∃ z, cutM xa = z := ⟨_, rfl⟩
  obtain ⟨xb', hxb⟩ : ∃ z, cutM xb = z := ⟨_, rfl⟩
  have HC3 := Lib.hid hxa
  have HC4 := Lib.hid hxb
  clear hxa hxb
  go_cut [22] (fun _ wx => wx.heap[w.heap.size + 1]? = some (.cells #[.string ⟨xa'.toArray⟩, .string ⟨xb'.toArray⟩, .int .i64 xl] 50 (0, 0)) ∧ Out (fun k => k = w.heap.size + 1) Y wx)
  case first =>
    as_aux_lemma =>
    go_region_law (first | (refine step_cut2 rfl _ _ rfl _ _ rfl HC3.out ?_) | (refine step_cut2 rfl _ _ rfl _ _ rfl HC4.out ?_))
    all_goals
      go_wp2_with fail
      go_meet
      refine ⟨at_set (at_set HXY.out 0 _) 1 _, (((Out.refl (fun k => k = w.heap.size + 1) Y).setCell (p := ⟨w.heap.size + 1, 0, none⟩) (fun _ => rfl) _).setCell (p := ⟨w.heap.size + 1, 1, none⟩) (fun _ => rfl) _).drew⟩
  case rest =>
    obtain ⟨hxn, hxo⟩ := hcut
    rename World => wc
    clear x0 x1 g0 g1
    have HXN := Lib.hid hxn
    have HYc : Hid (Bxd wc w.heap.size (.slice q0 m.cons.length j0) (.slice q1 m.grps.length j1) (.slice q2 m.usrs.length j2) (.slice q3 m.accs.length j3) d0 d1 d2 d3 d4 d5 d6 d7 d8 d9 m) := Lib.hid ⟨hxo.at_ HY.out.at_ (by omega), HR.out wc ((HOY.out.mono fun k _ e => .inl e).trans (S := fun k => k = w.heap.size ∨ k = w.heap.size + 1) hxo (fun _ _ e => .inr e) |>.mono fun k _ e => by rw [HS0.out]; omega), HY.out.few⟩
    have HBc := Lib.hid (HBY.out.trans (hxo.below (by omega) fun k e => by omega))
    have hxal : xa'.length ≤ 65536 := by rw [← HC3.out]; exact Nat.le_trans (cut_le xa) (by decide)
    have hxbl : xb'.length ≤ 65536 := by rw [← HC4.out]; exact Nat.le_trans (cut_le xb) (by decide)
    clear hxo HY HBY
    have y0 := (at_cell hxn 0 : _ = some (Value.string ⟨xa'.toArray⟩))
    have y1 := (at_cell hxn 1 : _ = some (Value.string ⟨xb'.toArray⟩))
    clear hxn
    refine (‹∀ (a : Act) (w : World), Code.wp _ _ _ a w → _›) _ _ ?_
    go_wp2_with fail
    have hbA := (Below.refl wc.heap.size wc).alloc (Nat.le_refl _) (.cells #[.string ⟨xa'.toArray⟩, .string ⟨xb'.toArray⟩, .int .i64 1] 50)
    have nA := at_new wc (.cells #[.string ⟨xa'.toArray⟩, .string ⟨xb'.toArray⟩, .int .i64 1] 50)
    generalize (wc.alloc (.cells #[.string ⟨xa'.toArray⟩, .string ⟨xb'.toArray⟩, .int .i64 1] 50)) = wa at *
    have hbC := (Below.refl wa.heap.size wa).alloc (Nat.le_refl _) (.cells #[.slice none 0 0, .slice none 0 0, .slice none 0 0, .slice (some ⟨wc.heap.size, 0, none⟩) 1 1, .string ⟨#[]⟩, .string ⟨#[]⟩, .string ⟨#[]⟩, .string ⟨#[]⟩, .string ⟨#[]⟩, .string ⟨#[]⟩, .string ⟨#[]⟩, .string ⟨#[]⟩, .string ⟨#[]⟩, .string ⟨#[]⟩] 28)
    have hrd := (rd_lit (n := 1) (k := 3) (xs := [((xa', xb', 1) : Ac)].flatMap acv) nA rfl rfl (by unfold maxLen; decide)).below hbC
    have hcall := rLevel_calls [(xa', xb', 1)] (fun a ha => by rw [List.mem_singleton.1 ha]; exact ⟨hxal, hxbl⟩) u' q' hul hql (some ⟨wc.heap.size, 0, none⟩) 1 1 (.slice none 0 0) (.slice none 0 0) (.slice none 0 0) [] [] [] [] [] [] [] [] [] [] rfl _ hrd
    unfold confV at hcall
    refine hcall.mono ?_
    rintro e wd ⟨rfl, hb9⟩
    have hbd := hbA.trans ((hbC.trans (hb9.mono hbC.size)).mono hbA.size)
    have HYd : Hid (Bxd wd w.heap.size (.slice q0 m.cons.length j0) (.slice q1 m.grps.length j1) (.slice q2 m.usrs.length j2) (.slice q3 m.accs.length j3) d0 d1 d2 d3 d4 d5 d6 d7 d8 d9 m) := Lib.hid ⟨(hbd.block _ (at_lt HYc.out.at_)).trans HYc.out.at_, HYc.out.rd.below hbd, HYc.out.few⟩
    have HBd := Lib.hid (HBc.out.trans (hbd.mono HBc.out.size))
    have HXd := Lib.hid ((hbd.block _ (at_lt HXN.out)).trans HXN.out)
    obtain ⟨lv, hlv⟩ : ∃ lv, lvlM [(xa', xb', 1)] u' q' = lv := ⟨_, rfl⟩
    obtain ⟨fx, hfx⟩ : ∃ fx, fitA u' q' (xa', xb', xl) = fx := ⟨_, rfl⟩
    have hfb : (lv == 1) = fx := by rw [← hlv, ← hfx]; exact lvl_only xa' xb' xl u' q'
    have HFX := Lib.hid hfx
    rw [hlv]
    clear hlv hfx hbd hb9 hcall hrd hbC nA hbA y0 y1 HYc HBc HXN
    go_upto_region 5 with (fail)
    go_cut [11, 12] (fun s11 s12 wx => ∃ a b : Nat, s11 = .pointer (some ⟨a, 0, none⟩) ∧ s12 = .pointer (some ⟨b, 0, none⟩) ∧ a ≠ b ∧ wd.heap.size ≤ a ∧ wd.heap.size ≤ b ∧ Below wd.heap.size wd wx ∧ wx.heap[a]? = some (.cells #[.slice q0 m.cons.length j0, .slice q1 m.grps.length j1, .slice q2 m.usrs.length j2, .slice q3 m.accs.length j3, .string ⟨d0.toArray⟩, .string ⟨d1.toArray⟩, .string ⟨d2.toArray⟩, .string ⟨d3.toArray⟩, .string ⟨d4.toArray⟩, .string ⟨d5.toArray⟩, .string ⟨d6.toArray⟩, .string ⟨d7.toArray⟩, .string ⟨d8.toArray⟩, .string ⟨d9.toArray⟩] 28 (0, 0)) ∧ wx.heap[b]? = some (.cells #[.slice q0 m.cons.length j0, .slice q1 m.grps.length j1, .slice q2 m.usrs.length j2, .slice q3 m.accs.length j3, .string ⟨d0.toArray⟩, .string ⟨d1.toArray⟩, .string ⟨d2.toArray⟩, .string ⟨d3.toArray⟩, .string ⟨d4.toArray⟩, .string ⟨d5.toArray⟩, .string ⟨d6.toArray⟩, .string ⟨d7.toArray⟩, .string ⟨d8.toArray⟩, .string ⟨d9.toArray⟩] 28 (0, 0)))
    case first =>
      as_aux_lemma =>
      have hzd : w.heap.size < wd.heap.size := at_lt HYd.out.at_
      have y0 : wd.cell? ⟨w.heap.size, 0, none⟩ = some (.slice q0 m.cons.length j0) := (at_cell HYd.out.at_ 0).trans rfl
      have y1 : wd.cell? ⟨w.heap.size, 1, none⟩ = some (.slice q1 m.grps.length j1) := (at_cell HYd.out.at_ 1).trans rfl
      have y2 : wd.cell? ⟨w.heap.size, 2, none⟩ = some (.slice q2 m.usrs.length j2) := (at_cell HYd.out.at_ 2).trans rfl
      have y3 : wd.cell? ⟨w.heap.size, 3, none⟩ = some (.slice q3 m.accs.length j3) := (at_cell HYd.out.at_ 3).trans rfl
      have y4 : wd.cell? ⟨w.heap.size, 4, none⟩ = some (.string ⟨d0.toArray⟩) := (at_cell HYd.out.at_ 4).trans rfl
      have y5 : wd.cell? ⟨w.heap.size, 5, none⟩ = some (.string ⟨d1.toArray⟩) := (at_cell HYd.out.at_ 5).trans rfl
      have y6 : wd.cell? ⟨w.heap.size, 6, none⟩ = some (.string ⟨d2.toArray⟩) := (at_cell HYd.out.at_ 6).trans rfl
      have y7 : wd.cell? ⟨w.heap.size, 7, none⟩ = some (.string ⟨d3.toArray⟩) := (at_cell HYd.out.at_ 7).trans rfl
      have y8 : wd.cell? ⟨w.heap.size, 8, none⟩ = some (.string ⟨d4.toArray⟩) := (at_cell HYd.out.at_ 8).trans rfl
      have y9 : wd.cell? ⟨w.heap.size, 9, none⟩ = some (.string ⟨d5.toArray⟩) := (at_cell HYd.out.at_ 9).trans rfl
      have y10 : wd.cell? ⟨w.heap.size, 10, none⟩ = some (.string ⟨d6.toArray⟩) := (at_cell HYd.out.at_ 10).trans rfl
      have y11 : wd.cell? ⟨w.heap.size, 11, none⟩ = some (.string ⟨d7.toArray⟩) := (at_cell HYd.out.at_ 11).trans rfl
      have y12 : wd.cell? ⟨w.heap.size, 12, none⟩ = some (.string ⟨d8.toArray⟩) := (at_cell HYd.out.at_ 12).trans rfl
      have y13 : wd.cell? ⟨w.heap.size, 13, none⟩ = some (.string ⟨d9.toArray⟩) := (at_cell HYd.out.at_ 13).trans rfl
      go_region
      all_goals
        go_wp2_with fail
        go_meet
        generalize hW : World.drew _ = W
        obtain ⟨h1, h2, hb⟩ := two_new wd W _ hW
        exact ⟨_, _, rfl, rfl, by omega, by omega, by omega, hb, by first | exact h1 | exact h2, by first | exact h2 | exact h1⟩
    case rest =>
      obtain ⟨a, b, rfl, rfl, hab, hla, hlb, hbe, hna, hnb⟩ := hcut
      rename World => we
      have HYe : Hid (Bxd we w.heap.size (.slice q0 m.cons.length j0) (.slice q1 m.grps.length j1) (.slice q2 m.usrs.length j2) (.slice q3 m.accs.length j3) d0 d1 d2 d3 d4 d5 d6 d7 d8 d9 m) := Lib.hid ⟨(hbe.block _ (at_lt HYd.out.at_)).trans HYd.out.at_, HYd.out.rd.below hbe, HYd.out.few⟩
      have HBe := Lib.hid (HBd.out.trans (hbe.mono HBd.out.size))
      have HXe := Lib.hid ((hbe.block _ (at_lt HXd.out)).trans HXd.out)
      have HNa := Lib.hid hna
      have HNb := Lib.hid hnb
      refine (‹∀ (a : Act) (w : World), Code.wp _ _ _ a w → _›) _ _ ?_
      obtain ⟨_, _, e4, r4⟩ := HYe.out.rd.accs
      injection e4 with z1 z2 z3
      subst z1 z3
      clear z2
      have hl4 := HYe.out.few.l3
      have x0 := (at_cell HXe.out 0 : _ = some (Value.string ⟨xa'.toArray⟩))
      have x1 := (at_cell HXe.out 1 : _ = some (Value.string ⟨xb'.toArray⟩))
      have x2 := (at_cell HXe.out 2 : _ = some (Value.int .i64 xl))
      have y3 : we.cell? ⟨w.heap.size, 3, none⟩ = some (.slice q3 m.accs.length j3) := (at_cell HYe.out.at_ 3).trans rfl
      have hza : a < we.heap.size := at_lt hna
      have hzb : b < we.heap.size := at_lt hnb
      have hzw : w.heap.size + 1 < wd.heap.size := at_lt HXd.out
      have hwe := hbe.size
      have hzc : w.heap.size < we.heap.size := by omega
      have hzx : w.heap.size + 1 < we.heap.size := by omega
      have hal := (Below.refl we.heap.size we).alloc (Nat.le_refl _) (.cells #[.string ⟨xa'.toArray⟩, .string ⟨xb'.toArray⟩, .int .i64 xl] 50)
      have hown := World.ownsRow_lit (base := we.heap.size) (e := 50) (size := 3) we #[.string ⟨xa'.toArray⟩, .string ⟨xb'.toArray⟩, .int .i64 xl] 1 (Nat.le_refl _) (by unfold maxLen; decide) rfl
      obtain ⟨vA, w6, hrun, own6, gr6⟩ := run_append_rd 25 hown (r4.below hal) (acv_one _) (by omega) (by simp)
      obtain ⟨pA, kA, rfl, hkA, hkm⟩ := own_slice own6
      have hO6 : Out (fun k => k = we.heap.size) we w6 := (Out.ofNew hal).trans (S' := fun k => k = we.heap.size) ((grown_out gr6).mono fun k _ e => by simpa [Value.ownBlock] using e.symm) (fun _ _ e => e)
      have na6 := hO6.at_ hna (by omega)
      have nb6 := hO6.at_ hnb (by omega)
      have za3 : w6.cell? ⟨a, 3, none⟩ = some (.slice q3 m.accs.length j3) := (at_cell na6 3).trans rfl
      have fa3 := at_frozen na6 3
      have hal6 := at_lt na6
      have HRUN := Lib.hid hrun
      have HNA6 := Lib.hid (at_set na6 3 (.slice pA (1 + m.accs.length) kA))
      have HNB6 := Lib.hid ((at_set_other w6 (Ne.symm hab) 3 (.slice pA (1 + m.accs.length) kA)).trans nb6)
      have HOW6 := Lib.hid (own_set own6 hza 3 (.slice pA (1 + m.accs.length) kA))
      have HB6 : Hid (Below wd.heap.size wd (w6.setCell ⟨a, 3, none⟩ (.slice pA (1 + m.accs.length) kA))) := Lib.hid ((hbe.trans (hO6.below (by omega) fun k e => by omega)).setCell (p := ⟨a, 3, none⟩) (by simpa using hla) _)
      clear own6 gr6 hO6 na6 nb6 hown hal hrun hkA hkm hna hnb
      go_upto_region 7 with (at_builtin; refine wpList_run rfl 45 47 _ _ rfl rfl rfl rfl HRUN.out ?_)
      have hx6 : wd.heap.size ≤ a ∧ wd.heap.size ≤ b := ⟨hla, hlb⟩
      generalize w6.setCell ⟨a, 3, none⟩ (.slice pA (1 + m.accs.length) kA) = W at HNA6 HNB6 HOW6 HB6 ⊢
      have HXW := Lib.hid ((HB6.out.block _ (at_lt HXd.out)).trans HXd.out)
      have HYW : Hid (Bxd W w.heap.size (.slice q0 m.cons.length j0) (.slice q1 m.grps.length j1) (.slice q2 m.usrs.length j2) (.slice q3 m.accs.length j3) d0 d1 d2 d3 d4 d5 d6 d7 d8 d9 m) := Lib.hid ⟨(HB6.out.block _ (at_lt HYd.out.at_)).trans HYd.out.at_, HYd.out.rd.below HB6.out, HYd.out.few⟩
      clear y3 x0 x1 x2 za3 fa3 r4 HRUN
      obtain ⟨_, _, e4, r4⟩ := HYW.out.rd.accs
      injection e4 with z1 z2 z3
      subst z1 z3
      clear z2
      have R4 := Lib.hid r4
      clear r4
      have x0 := (at_cell HXW.out 0 : _ = some (Value.string ⟨xa'.toArray⟩))
      have x1 := (at_cell HXW.out 1 : _ = some (Value.string ⟨xb'.toArray⟩))
      have x2 := (at_cell HXW.out 2 : _ = some (Value.int .i64 xl))
      have y3 : W.cell? ⟨w.heap.size, 3, none⟩ = some (.slice q3 m.accs.length j3) := (at_cell HYW.out.at_ 3).trans rfl
      have hzW : w.heap.size < W.heap.size := at_lt HYW.out.at_
      have hxW : w.heap.size + 1 < W.heap.size := at_lt HXW.out
      have hbW : b < W.heap.size := at_lt HNB6.out
      have haW : a < W.heap.size := at_lt HNA6.out
      go_cut [12] (fun s12 wx => s12 = .pointer (some ⟨b, 0, none⟩) ∧ FsAt wd wx a b (.slice q0 m.cons.length j0) (.slice q1 m.grps.length j1) (.slice q2 m.usrs.length j2) d0 d1 d2 d3 d4 d5 d6 d7 d8 d9 (1 + m.accs.length) (m.accs.length + 1) ((xa', xb', xl) :: m.accs) (m.accs ++ [(xa', xb', xl)]))
      case first =>
        as_aux_lemma =>
        go_region_law (first
          | (refine step_ap_rd rfl 50 52 rfl rfl W.heap.size 0 m.accs.length m.accs.length j3 (Nat.zero_add _) (.slice (some ⟨_, 0, none⟩) 0 0) [] (m.accs.flatMap acv) q3 rfl rfl (by first | exact own_e _ _ _ (by first | (simp; done) | (simp; omega) | omega) (by first | (simp; done) | (simp; omega) | omega) | exact World.ownsRow.alloc (own_e _ _ _ (by first | (simp; done) | (simp; omega) | omega) (by first | (simp; done) | (simp; omega) | omega)) _) (R4.out.below (by first | exact below_da _ _ | exact below_daa _ _ _)) (acv_one _) (by omega) (by first | (simp; done) | (simp; omega) | omega) ?_; intro p5 c5 w5 hown5 hgr5; have hB5 : Below W.heap.size W w5 := Below.grown (by first | exact below_da _ _ | exact below_daa _ _ _) hgr5 (by first | (simp; done) | (simp; omega) | omega) (fun k e => by simp [Value.ownBlock] at e; omega); have u0 := (hB5.cell (p := ⟨w.heap.size + 1, 0, none⟩) hxW).trans x0; have u1 := (hB5.cell (p := ⟨w.heap.size + 1, 1, none⟩) hxW).trans x1; have u2 := (hB5.cell (p := ⟨w.heap.size + 1, 2, none⟩) hxW).trans x2; have hs5 := hB5.size; have hxw5 : w.heap.size + 1 < w5.heap.size := by omega)
          | (refine step_ap_rd rfl 53 55 rfl rfl W.heap.size m.accs.length 1 (m.accs.length + 1) 1 rfl (.slice p5 m.accs.length c5) ([] ++ m.accs.flatMap acv) (acv (xa', xb', xl)) (some ⟨_, 0, none⟩) rfl rfl (by first | exact hown5 | exact World.ownsRow.alloc hown5 _) (by first | exact rd_lit (at_new _ _) rfl rfl (by unfold maxLen; decide) | exact rd_lit ((hgr5.block _ (by simp) (by simp [Value.ownBlock])).trans (at_new _ _)) rfl rfl (by unfold maxLen; decide) | exact rd_lit ((hgr5.block _ (by simp; omega) (by simp [Value.ownBlock])).trans (at_old _ _ (at_new _ _))) rfl rfl (by unfold maxLen; decide) | exact rd_lit ((hgr5.block _ (by simp) (by simp [Value.ownBlock])).trans (at_newk _ _ (by simp))) rfl rfl (by unfold maxLen; decide)) (by simp [acv, str, Value.oneCell']) (by omega) (by first | exact hs5 | (simp; omega)) ?_; intro p7 c7 w7 hown7 hgr7; have hB7 : Below W.heap.size W w7 := Below.grown (by first | exact hB5 | exact hB5.alloc hs5 _) hgr7 (by first | exact hs5 | (simp; omega)) (fun k e => (World.ownsRow.lt hown5 k e).1); have zb := ((hB7.cell (p := ⟨b, 3, none⟩) hbW).trans (at_cell HNB6.out 3)).trans rfl; have zf := at_frozen ((hB7.block b hbW).trans HNB6.out) 3))
        all_goals
          go_wp2_with fail
          go_meet
          exact ⟨rfl, fs_end HB6.out hB7 hab hlb hzb hbW HNA6.out HNB6.out HOW6.out (by simpa using hown7)⟩
      case rest =>
        obtain ⟨rfl, hBx, pA2, kA2, pB2, kB2, hna, hnb, hrA, hrB⟩ := hcut
        rename World => wx
        have HYx : Hid (Bxd wx w.heap.size (.slice q0 m.cons.length j0) (.slice q1 m.grps.length j1) (.slice q2 m.usrs.length j2) (.slice q3 m.accs.length j3) d0 d1 d2 d3 d4 d5 d6 d7 d8 d9 m) := Lib.hid ⟨(hBx.block _ (at_lt HYd.out.at_)).trans HYd.out.at_, HYd.out.rd.below hBx, HYd.out.few⟩
        have HXx := Lib.hid ((hBx.block _ (at_lt HXd.out)).trans HXd.out)
        have HBx := Lib.hid (HBd.out.trans (hBx.mono HBd.out.size))
        have HNax := Lib.hid hna
        have HNbx := Lib.hid hnb
        have HRax := Lib.hid hrA
        have HRbx := Lib.hid hrB
        clear hBx hna hnb hrA hrB HXW HYW HNA6 HNB6 HOW6 HB6 R4 HNa HNb HYe HXe HBe x0 x1 x2 y3
        refine (‹∀ (a : Act) (w : World), Code.wp _ _ _ a w → _›) _ _ ?_
        have y0 : wx.cell? ⟨w.heap.size, 0, none⟩ = some (.slice q0 m.cons.length j0) := (at_cell HYx.out.at_ 0).trans rfl
        have y1 : wx.cell? ⟨w.heap.size, 1, none⟩ = some (.slice q1 m.grps.length j1) := (at_cell HYx.out.at_ 1).trans rfl
        have y2 : wx.cell? ⟨w.heap.size, 2, none⟩ = some (.slice q2 m.usrs.length j2) := (at_cell HYx.out.at_ 2).trans rfl
        have y3 : wx.cell? ⟨w.heap.size, 3, none⟩ = some (.slice q3 m.accs.length j3) := (at_cell HYx.out.at_ 3).trans rfl
        have y4 : wx.cell? ⟨w.heap.size, 4, none⟩ = some (.string ⟨d0.toArray⟩) := (at_cell HYx.out.at_ 4).trans rfl
        have y5 : wx.cell? ⟨w.heap.size, 5, none⟩ = some (.string ⟨d1.toArray⟩) := (at_cell HYx.out.at_ 5).trans rfl
        have y6 : wx.cell? ⟨w.heap.size, 6, none⟩ = some (.string ⟨d2.toArray⟩) := (at_cell HYx.out.at_ 6).trans rfl
        have y7 : wx.cell? ⟨w.heap.size, 7, none⟩ = some (.string ⟨d3.toArray⟩) := (at_cell HYx.out.at_ 7).trans rfl
        have y8 : wx.cell? ⟨w.heap.size, 8, none⟩ = some (.string ⟨d4.toArray⟩) := (at_cell HYx.out.at_ 8).trans rfl
        have y9 : wx.cell? ⟨w.heap.size, 9, none⟩ = some (.string ⟨d5.toArray⟩) := (at_cell HYx.out.at_ 9).trans rfl
        have y10 : wx.cell? ⟨w.heap.size, 10, none⟩ = some (.string ⟨d6.toArray⟩) := (at_cell HYx.out.at_ 10).trans rfl
        have y11 : wx.cell? ⟨w.heap.size, 11, none⟩ = some (.string ⟨d7.toArray⟩) := (at_cell HYx.out.at_ 11).trans rfl
        have y12 : wx.cell? ⟨w.heap.size, 12, none⟩ = some (.string ⟨d8.toArray⟩) := (at_cell HYx.out.at_ 12).trans rfl
        have y13 : wx.cell? ⟨w.heap.size, 13, none⟩ = some (.string ⟨d9.toArray⟩) := (at_cell HYx.out.at_ 13).trans rfl
        have hzx : w.heap.size < wx.heap.size := at_lt HYx.out.at_
        obtain ⟨lw, hlw⟩ : ∃ lw, lvlM m.accs u' q' = lw := ⟨_, rfl⟩
        have HL := Lib.hid (Level_cf HYx.out.few d0 d1 d2 d3 d4 d5 d6 d7 d8 d9 HYx.out.rd u' q' hul hql)
        rw [hlw] at HL
        unfold confV at HL
        have HLW := Lib.hid hlw
        clear hlw
        go_wp2_with fail
        refine HL.out.mono ?_
        rintro e w8 ⟨rfl, hb8⟩
        have HNa8 := Lib.hid ((hb8.block _ (at_lt HNax.out)).trans HNax.out)
        have HNb8 := Lib.hid ((hb8.block _ (at_lt HNbx.out)).trans HNbx.out)
        have HRa8 := Lib.hid (HRax.out.below hb8)
        have HRb8 := Lib.hid (HRbx.out.below hb8)
        have HX8 := Lib.hid ((hb8.block _ (at_lt HXx.out)).trans HXx.out)
        have HB8 := Lib.hid (HBx.out.trans (hb8.mono HBx.out.size))
        obtain ⟨av, hav⟩ : ∃ av, lvlM ((xa', xb', xl) :: m.accs) u' q' = av := ⟨_, rfl⟩
        obtain ⟨bv, hbv⟩ : ∃ bv, lvlM (m.accs ++ [(xa', xb', xl)]) u' q' = bv := ⟨_, rfl⟩
        have hl4 := HYx.out.few.l3
        have HAV := Lib.hid hav
        have HBV := Lib.hid hbv
        have h1 := lvl_ahead (xa', xb', xl) m.accs u' q'
        have h2 := lvl_behind (xa', xb', xl) m.accs u' q'
        rw [hav, HFX.out, HLW.out] at h1
        rw [hbv, HFX.out, HLW.out] at h2
        have H1 := Lib.hid h1
        have H2 := Lib.hid h2
        clear y0 y1 y2 y3 y4 y5 y6 y7 y8 y9 y10 y11 y12 y13
        clear hb8 hav hbv h1 h2 HL HYx HXx HBx HNax HNbx HRax HRbx hzx
        go_wp2_with fail
        refine Reg.wp_sat (by kernel_rfl) [some 62, some 63, some 64, some 65, some 66, some 67, some 68, some 69, some 14, some 15] [Reg.Kn.val (.agg #[.slice q0 m.cons.length j0, .slice q1 m.grps.length j1, .slice q2 m.usrs.length j2, .slice pA2 (1 + m.accs.length) kA2, .string ⟨d0.toArray⟩, .string ⟨d1.toArray⟩, .string ⟨d2.toArray⟩, .string ⟨d3.toArray⟩, .string ⟨d4.toArray⟩, .string ⟨d5.toArray⟩, .string ⟨d6.toArray⟩, .string ⟨d7.toArray⟩, .string ⟨d8.toArray⟩, .string ⟨d9.toArray⟩]), Reg.Kn.val (.string ⟨u'.toArray⟩), Reg.Kn.val (.string ⟨q'.toArray⟩), Reg.Kn.val (.int .i64 av), Reg.Kn.val (.agg #[.slice q0 m.cons.length j0, .slice q1 m.grps.length j1, .slice q2 m.usrs.length j2, .slice pB2 (m.accs.length + 1) kB2, .string ⟨d0.toArray⟩, .string ⟨d1.toArray⟩, .string ⟨d2.toArray⟩, .string ⟨d3.toArray⟩, .string ⟨d4.toArray⟩, .string ⟨d5.toArray⟩, .string ⟨d6.toArray⟩, .string ⟨d7.toArray⟩, .string ⟨d8.toArray⟩, .string ⟨d9.toArray⟩]), Reg.Kn.val (.string ⟨u'.toArray⟩), Reg.Kn.val (.string ⟨q'.toArray⟩), Reg.Kn.val (.int .i64 bv), Reg.Kn.val (.int .i64 av), Reg.Kn.val (.int .i64 bv)] (List.replicate 10 true) [(62, 0), (63, 1), (64, 2), (65, 3), (66, 4), (67, 5), (68, 6), (69, 7), (14, 8), (15, 9)] (by kernel_rfl) (by kernel_rfl) (by kernel_rfl) (by decide) (by kernel_rfl) ?_ ?_
        · intro ii op a' w' ho hwd hdp hot hb
          have hr := Below.refl w'.heap.size w'
          have NA1 := (hb.block _ (at_lt HNa8.out)).trans HNa8.out
          have NB1 := (hb.block _ (at_lt HNb8.out)).trans HNb8.out
          have RA1 := HRa8.out.below hb
          have RB1 := HRb8.out.below hb
          match ii, ho, hwd, hdp, hot with
          | 0, ho, hwd, hdp, hot =>
            obtain rfl := Option.some.inj ho
            have e11 : a'.tmps[11]? = some (.pointer (some ⟨a, 0, none⟩)) := (hot 11 ⟨by kernel_rfl⟩).trans rfl
            exact wg9_ldConf 11 _ _ _ _ _ _ _ _ _ _ _ _ _ _ _ rfl e11 NA1 ⟨_, rfl, rfl, hr⟩
          | 1, ho, hwd, hdp, hot =>
            obtain rfl := Option.some.inj ho
            have e2 : a'.tmps[2]? = some (.string ⟨u'.toArray⟩) := (hot 2 ⟨by kernel_rfl⟩).trans rfl
            exact wg9_move 2 _ rfl e2 ⟨_, rfl, rfl, hr⟩
          | 2, ho, hwd, hdp, hot =>
            obtain rfl := Option.some.inj ho
            have e3 : a'.tmps[3]? = some (.string ⟨q'.toArray⟩) := (hot 3 ⟨by kernel_rfl⟩).trans rfl
            exact wg9_move 3 _ rfl e3 ⟨_, rfl, rfl, hr⟩
          | 3, ho, hwd, hdp, hot =>
            obtain rfl := Option.some.inj ho
            have e62 : a'.tmps[62]? = some (.agg #[.slice q0 m.cons.length j0, .slice q1 m.grps.length j1, .slice q2 m.usrs.length j2, .slice pA2 (1 + m.accs.length) kA2, .string ⟨d0.toArray⟩, .string ⟨d1.toArray⟩, .string ⟨d2.toArray⟩, .string ⟨d3.toArray⟩, .string ⟨d4.toArray⟩, .string ⟨d5.toArray⟩, .string ⟨d6.toArray⟩, .string ⟨d7.toArray⟩, .string ⟨d8.toArray⟩, .string ⟨d9.toArray⟩]) := by obtain ⟨_, e, h⟩ := hdp 0 (Reg.mem_of (by kernel_rfl)) _ rfl; exact e.trans (congrArg some h)
            have e63 : a'.tmps[63]? = some (.string ⟨u'.toArray⟩) := by obtain ⟨_, e, h⟩ := hdp 1 (Reg.mem_of (by kernel_rfl)) _ rfl; exact e.trans (congrArg some h)
            have e64 : a'.tmps[64]? = some (.string ⟨q'.toArray⟩) := by obtain ⟨_, e, h⟩ := hdp 2 (Reg.mem_of (by kernel_rfl)) _ rfl; exact e.trans (congrArg some h)
            exact wg9_call3_rightsLevel 62 63 64 _ _ _ _ _ rfl e62 e63 e64 ((Level_calls ((xa', xb', xl) :: m.accs) u' q' hul hql pA2 kA2 (1 + m.accs.length) (.slice q0 m.cons.length j0) (.slice q1 m.grps.length j1) (.slice q2 m.usrs.length j2) d0 d1 d2 d3 d4 d5 d6 d7 d8 d9 (by rw [List.length_cons]; omega) (by omega) w' RA1).mono (by rintro e w2 ⟨rfl, hb2⟩; exact ⟨_, rfl, (by show Value.int .i64 _ = _; rw [HAV.out]), hb2⟩)) fun v w2 hk hb2 => ⟨_, rfl, hk, hb2⟩
          | 4, ho, hwd, hdp, hot =>
            obtain rfl := Option.some.inj ho
            have e12 : a'.tmps[12]? = some (.pointer (some ⟨b, 0, none⟩)) := (hot 12 ⟨by kernel_rfl⟩).trans rfl
            exact wg9_ldConf 12 _ _ _ _ _ _ _ _ _ _ _ _ _ _ _ rfl e12 NB1 ⟨_, rfl, rfl, hr⟩
          | 5, ho, hwd, hdp, hot =>
            obtain rfl := Option.some.inj ho
            have e2 : a'.tmps[2]? = some (.string ⟨u'.toArray⟩) := (hot 2 ⟨by kernel_rfl⟩).trans rfl
            exact wg9_move 2 _ rfl e2 ⟨_, rfl, rfl, hr⟩
          | 6, ho, hwd, hdp, hot =>
            obtain rfl := Option.some.inj ho
            have e3 : a'.tmps[3]? = some (.string ⟨q'.toArray⟩) := (hot 3 ⟨by kernel_rfl⟩).trans rfl
            exact wg9_move 3 _ rfl e3 ⟨_, rfl, rfl, hr⟩
          | 7, ho, hwd, hdp, hot =>
            obtain rfl := Option.some.inj ho
            have e66 : a'.tmps[66]? = some (.agg #[.slice q0 m.cons.length j0, .slice q1 m.grps.length j1, .slice q2 m.usrs.length j2, .slice pB2 (m.accs.length + 1) kB2, .string ⟨d0.toArray⟩, .string ⟨d1.toArray⟩, .string ⟨d2.toArray⟩, .string ⟨d3.toArray⟩, .string ⟨d4.toArray⟩, .string ⟨d5.toArray⟩, .string ⟨d6.toArray⟩, .string ⟨d7.toArray⟩, .string ⟨d8.toArray⟩, .string ⟨d9.toArray⟩]) := by obtain ⟨_, e, h⟩ := hdp 4 (Reg.mem_of (by kernel_rfl)) _ rfl; exact e.trans (congrArg some h)
            have e67 : a'.tmps[67]? = some (.string ⟨u'.toArray⟩) := by obtain ⟨_, e, h⟩ := hdp 5 (Reg.mem_of (by kernel_rfl)) _ rfl; exact e.trans (congrArg some h)
            have e68 : a'.tmps[68]? = some (.string ⟨q'.toArray⟩) := by obtain ⟨_, e, h⟩ := hdp 6 (Reg.mem_of (by kernel_rfl)) _ rfl; exact e.trans (congrArg some h)
            exact wg9_call3_rightsLevel 66 67 68 _ _ _ _ _ rfl e66 e67 e68 ((Level_calls (m.accs ++ [(xa', xb', xl)]) u' q' hul hql pB2 kB2 (m.accs.length + 1) (.slice q0 m.cons.length j0) (.slice q1 m.grps.length j1) (.slice q2 m.usrs.length j2) d0 d1 d2 d3 d4 d5 d6 d7 d8 d9 (by simp) (by omega) w' RB1).mono (by rintro e w2 ⟨rfl, hb2⟩; exact ⟨_, rfl, (by show Value.int .i64 _ = _; rw [HBV.out]), hb2⟩)) fun v w2 hk hb2 => ⟨_, rfl, hk, hb2⟩
          | 8, ho, hwd, hdp, hot =>
            obtain rfl := Option.some.inj ho
            have e65 : a'.tmps[65]? = some (.int .i64 av) := by obtain ⟨_, e, h⟩ := hdp 3 (Reg.mem_of (by kernel_rfl)) _ rfl; exact e.trans (congrArg some h)
            exact wg9_assign 65 _ rfl e65 ⟨_, rfl, rfl, hr⟩
          | 9, ho, hwd, hdp, hot =>
            obtain rfl := Option.some.inj ho
            have e69 : a'.tmps[69]? = some (.int .i64 bv) := by obtain ⟨_, e, h⟩ := hdp 7 (Reg.mem_of (by kernel_rfl)) _ rfl; exact e.trans (congrArg some h)
            exact wg9_assign 69 _ rfl e69 ⟨_, rfl, rfl, hr⟩
          | ii + 10, ho, _, _, _ => exact absurd ho (by simp)
        · intro us w' hul hus hb
          obtain ⟨z0, z1, z2, z3, z4, z5, z6, z7, z8, z9, rfl⟩ : ∃ z0 z1 z2 z3 z4 z5 z6 z7 z8 z9, us = [z0, z1, z2, z3, z4, z5, z6, z7, z8, z9] := by
            clear hus
            match us, hul with
            | [z0, z1, z2, z3, z4, z5, z6, z7, z8, z9], _ => exact ⟨z0, z1, z2, z3, z4, z5, z6, z7, z8, z9, rfl⟩
          have h14 : z8 = .int .i64 av := hus 8 (14, 8) _ rfl rfl
          subst h14
          have h15 : z9 = .int .i64 bv := hus 9 (15, 9) _ rfl rfl
          subst h15
          clear hus hul
          simp only [List.map, List.zip, List.zipWith, Reg.puts, Act.put, List.setIfInBounds_toArray, List.set_cons_succ, List.set_cons_zero]
          have HE := Lib.hid (HB8.out.trans (hb.mono HB8.out.size))
          have hx9 := (hb.block _ (at_lt HX8.out)).trans HX8.out
          have x2 := (at_cell hx9 2 : _ = some (Value.int .i64 xl))
          clear hb hx9
          cases fx with
          | true =>
            obtain rfl : av = xl := H1.out
            rcases H2.out with h3 | ⟨h3, _, h4⟩
            · subst h3
              go_wp2_with (go_at_call 16; refine (works_calls _).mono ?_; rintro e w' ⟨rfl, hw⟩)
              go_ret
              exact ⟨rfl, HE.out.trans (hw.mono HE.out.size)⟩
            · have h4 : bv = av := h4
              subst h3 h4
              by_cases h0 : bv = 0
              · subst h0
                go_wp2_with (go_at_call 16; refine (works_calls _).mono ?_; rintro e w' ⟨rfl, hw⟩)
                go_ret
                exact ⟨rfl, HE.out.trans (hw.mono HE.out.size)⟩
              · have h5 : (bv == 0) = false := by simpa using h0
                clear h0
                go_wp2_with (go_at_call 16; refine (works_calls _).mono ?_; rintro e w' ⟨rfl, hw⟩)
                go_ret
                exact ⟨rfl, HE.out.trans (hw.mono HE.out.size)⟩
          | false =>
            obtain rfl : av = lw := H1.out
            obtain rfl : bv = av := H2.out.resolve_right (fun e => by cases e.2.1)
            go_wp2_with (go_at_call 16; refine (works_calls _).mono ?_; rintro e w' ⟨rfl, hw⟩)
            go_ret
            exact ⟨rfl, HE.out.trans (hw.mono HE.out.size)⟩
end Go.Proofs.Ytomnkmcabkoagaa.Rgt
