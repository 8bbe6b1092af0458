/-
  Layer 16 (rights): RightsTells, walked.
-/
import Derived.Test.YtpbjmfchnihjeaaRgtLawB
namespace Go.Proofs.Ytpbjmfchnihjeaa.Rgt
open Go.RowKit Go.Proofs.Ytpbjmfchnihjeaa.Own Go.Proofs.Ytpbjmfchnihjeaa.Rw Go.Proofs.Ytpbjmfchnihjeaa.Tree Go.Proofs.Ytpbjmfchnihjeaa.Conf

set_option maxRecDepth 100000 in
set_option maxHeartbeats 4000000 in
theorem wt_ldConf {o : Oper} {a : Act} {w : World} {K : Act → World → Prop} {Q : Exit → Act → World → Prop} (t b : Nat) (x0 x1 x2 x3 x4 x5 x6 x7 x8 x9 x10 x11 x12 x13 : Value) (ho : o.op = .load 28 (.tmp t)) (h1 : a.tmps[t]? = some (.pointer (some ⟨b, 0, none⟩))) (N : w.heap[b]? = some (.cells #[x0, x1, x2, x3, x4, x5, x6, x7, x8, x9, x10, x11, x12, x13] 28 (0, 0))) (h : K (a.put o.dst (.agg #[x0, x1, x2, x3, x4, x5, x6, x7, x8, x9, x10, x11, x12, x13])) w) : Oper.wp Try.prog o a w K Q := by
  have c0 : w.cell? ⟨b, 0, none⟩ = some x0 := at_cell N 0
  have c1 : w.cell? ⟨b, 1, none⟩ = some x1 := at_cell N 1
  have c2 : w.cell? ⟨b, 2, none⟩ = some x2 := at_cell N 2
  have c3 : w.cell? ⟨b, 3, none⟩ = some x3 := at_cell N 3
  have c4 : w.cell? ⟨b, 4, none⟩ = some x4 := at_cell N 4
  have c5 : w.cell? ⟨b, 5, none⟩ = some x5 := at_cell N 5
  have c6 : w.cell? ⟨b, 6, none⟩ = some x6 := at_cell N 6
  have c7 : w.cell? ⟨b, 7, none⟩ = some x7 := at_cell N 7
  have c8 : w.cell? ⟨b, 8, none⟩ = some x8 := at_cell N 8
  have c9 : w.cell? ⟨b, 9, none⟩ = some x9 := at_cell N 9
  have c10 : w.cell? ⟨b, 10, none⟩ = some x10 := at_cell N 10
  have c11 : w.cell? ⟨b, 11, none⟩ = some x11 := at_cell N 11
  have c12 : w.cell? ⟨b, 12, none⟩ = some x12 := at_cell N 12
  have c13 : w.cell? ⟨b, 13, none⟩ = some x13 := at_cell N 13
  clear N
  obtain ⟨d, op, ty, ps, af, gd⟩ := o
  cases ho
  unfold Oper.wp
  simp [go_sem, h1, Oper.upon, c0, c1, c2, c3, c4, c5, c6, c7, c8, c9, c10, c11, c12, c13]
  exact h
set_option maxRecDepth 100000 in
theorem wt_move {o : Oper} {a : Act} {w : World} {K : Act → World → Prop} {Q : Exit → Act → World → Prop} (t : Nat) (v : Value) (ho : o.op = .move (.tmp t)) (h1 : a.tmps[t]? = some v) (h : K (a.put o.dst v) w) : Oper.wp Try.prog o a w K Q := by
  obtain ⟨d, op, ty, ps, af, gd⟩ := o
  cases ho
  unfold Oper.wp
  simp [go_sem, h1, Oper.upon]
  exact h
set_option maxRecDepth 100000 in
theorem wt_call3_rightsLevel {o : Oper} {a : Act} {w : World} {K : Act → World → Prop} {Q : Exit → Act → World → Prop} (t0 : Nat) (t1 : Nat) (t2 : Nat) (v0 : Value) (v1 : Value) (v2 : Value) (ts : Array TypeId) (S : World → Value → Prop) (ho : o.op = .call { callee := .value (.func 9), args := #[.tmp t0, .tmp t1, .tmp t2], argTypes := ts }) (h0 : a.tmps[t0]? = some v0) (h1 : a.tmps[t1]? = some v1) (h2 : a.tmps[t2]? = some v2) (h : Calls Try.prog 9 #[v0, v1, v2] w (fun e w2 => ∃ v, e = .returned v ∧ S w2 v ∧ Below w.heap.size w w2)) (hK : ∀ v w2, S w2 v → Below w.heap.size w w2 → K (a.put o.dst v) w2) : Oper.wp Try.prog o a w K Q := by
  obtain ⟨d, op, ty, ps, af, gd⟩ := o
  cases ho
  unfold Oper.wp
  simp [go_sem, Oper.upon, h0, h1, h2]
  refine h.mono ?_
  rintro e w2 ⟨v, rfl, hk, hb⟩
  exact hK v w2 hk hb
set_option maxRecDepth 100000 in
theorem wt_eql_int {o : Oper} {a : Act} {w : World} {K : Act → World → Prop} {Q : Exit → Act → World → Prop} (t u : Nat) (x y : Int) (q : Bool) (ho : o.op = .binOp .eql 3 (.tmp t) (.tmp u) 3) (h1 : a.tmps[t]? = some (.int .i64 x)) (h2 : a.tmps[u]? = some (.int .i64 y)) (hq : (x == y) = q) (h : K (a.put o.dst (.bool q)) w) : Oper.wp Try.prog o a w K Q := by
  obtain ⟨d, op, ty, ps, af, gd⟩ := o
  cases ho
  unfold Oper.wp
  subst hq
  simp [go_sem, h1, h2, Oper.upon]
  exact h
set_option maxRecDepth 100000 in
theorem wt_call4_rightsMay {o : Oper} {a : Act} {w : World} {K : Act → World → Prop} {Q : Exit → Act → World → Prop} (t0 : Nat) (t1 : Nat) (t2 : Nat) (t3 : Nat) (v0 : Value) (v1 : Value) (v2 : Value) (v3 : Value) (ts : Array TypeId) (S : World → Value → Prop) (ho : o.op = .call { callee := .value (.func 10), args := #[.tmp t0, .tmp t1, .tmp t2, .tmp t3], argTypes := ts }) (h0 : a.tmps[t0]? = some v0) (h1 : a.tmps[t1]? = some v1) (h2 : a.tmps[t2]? = some v2) (h3 : a.tmps[t3]? = some v3) (h : Calls Try.prog 10 #[v0, v1, v2, v3] w (fun e w2 => ∃ v, e = .returned v ∧ S w2 v ∧ Below w.heap.size w w2)) (hK : ∀ v w2, S w2 v → Below w.heap.size w w2 → K (a.put o.dst v) w2) : Oper.wp Try.prog o a w K Q := by
  obtain ⟨d, op, ty, ps, af, gd⟩ := o
  cases ho
  unfold Oper.wp
  simp [go_sem, Oper.upon, h0, h1, h2, h3]
  refine h.mono ?_
  rintro e w2 ⟨v, rfl, hk, hb⟩
  exact hK v w2 hk hb
set_option maxRecDepth 100000 in
theorem wt_geq_int {o : Oper} {a : Act} {w : World} {K : Act → World → Prop} {Q : Exit → Act → World → Prop} (t u : Nat) (x y : Int) (q : Bool) (ho : o.op = .binOp .geq 3 (.tmp t) (.tmp u) 3) (h1 : a.tmps[t]? = some (.int .i64 x)) (h2 : a.tmps[u]? = some (.int .i64 y)) (hq : (decide (y ≤ x)) = q) (h : K (a.put o.dst (.bool q)) w) : Oper.wp Try.prog o a w K Q := by
  obtain ⟨d, op, ty, ps, af, gd⟩ := o
  cases ho
  unfold Oper.wp
  subst hq
  simp [go_sem, h1, h2, Oper.upon]
  exact h
set_option maxRecDepth 100000 in
theorem wt_eql_bool {o : Oper} {a : Act} {w : World} {K : Act → World → Prop} {Q : Exit → Act → World → Prop} (t u : Nat) (x y : Bool) (q : Bool) (ho : o.op = .binOp .eql 4 (.tmp t) (.tmp u) 4) (h1 : a.tmps[t]? = some (.bool x)) (h2 : a.tmps[u]? = some (.bool y)) (hq : (x == y) = q) (h : K (a.put o.dst (.bool q)) w) : Oper.wp Try.prog o a w K Q := by
  obtain ⟨d, op, ty, ps, af, gd⟩ := o
  cases ho
  unfold Oper.wp
  subst hq
  simp [go_sem, h1, h2, Oper.upon]
  exact h
set_option maxRecDepth 100000 in
theorem wt_pickTtc {o : Oper} {a : Act} {w : World} {K : Act → World → Prop} {Q : Exit → Act → World → Prop} (t y : Nat) (cz : Value) (v : Value) (ho : o.op = .pick (.tmp t) (.tmp y) (.const cz)) (h1 : a.tmps[t]? = some (.bool true)) (h2 : a.tmps[y]? = some v) (h : K (a.put o.dst v) w) : Oper.wp Try.prog o a w K Q := by
  obtain ⟨d, op, ty, ps, af, gd⟩ := o
  cases ho
  unfold Oper.wp
  simp [go_sem, h1, h2, Oper.upon]
  exact h
set_option maxRecDepth 100000 in
theorem wt_call2_rightsSees {o : Oper} {a : Act} {w : World} {K : Act → World → Prop} {Q : Exit → Act → World → Prop} (t0 : Nat) (t1 : Nat) (v0 : Value) (v1 : Value) (ts : Array TypeId) (S : World → Value → Prop) (ho : o.op = .call { callee := .value (.func 12), args := #[.tmp t0, .tmp t1], argTypes := ts }) (h0 : a.tmps[t0]? = some v0) (h1 : a.tmps[t1]? = some v1) (h : Calls Try.prog 12 #[v0, v1] w (fun e w2 => ∃ v, e = .returned v ∧ S w2 v ∧ Below w.heap.size w w2)) (hK : ∀ v w2, S w2 v → Below w.heap.size w w2 → K (a.put o.dst v) w2) : Oper.wp Try.prog o a w K Q := by
  obtain ⟨d, op, ty, ps, af, gd⟩ := o
  cases ho
  unfold Oper.wp
  simp [go_sem, Oper.upon, h0, h1]
  refine h.mono ?_
  rintro e w2 ⟨v, rfl, hk, hb⟩
  exact hK v w2 hk hb
set_option maxRecDepth 100000 in
theorem wt_call2_wheelhouseref16Sees {o : Oper} {a : Act} {w : World} {K : Act → World → Prop} {Q : Exit → Act → World → Prop} (t0 : Nat) (t1 : Nat) (v0 : Value) (v1 : Value) (ts : Array TypeId) (S : World → Value → Prop) (ho : o.op = .call { callee := .value (.func 13), args := #[.tmp t0, .tmp t1], argTypes := ts }) (h0 : a.tmps[t0]? = some v0) (h1 : a.tmps[t1]? = some v1) (h : Calls Try.prog 13 #[v0, v1] w (fun e w2 => ∃ v, e = .returned v ∧ S w2 v ∧ Below w.heap.size w w2)) (hK : ∀ v w2, S w2 v → Below w.heap.size w w2 → K (a.put o.dst v) w2) : Oper.wp Try.prog o a w K Q := by
  obtain ⟨d, op, ty, ps, af, gd⟩ := o
  cases ho
  unfold Oper.wp
  simp [go_sem, Oper.upon, h0, h1]
  refine h.mono ?_
  rintro e w2 ⟨v, rfl, hk, hb⟩
  exact hK v w2 hk hb
set_option maxRecDepth 100000 in
theorem wt_call2_wheelhouseref16Same {o : Oper} {a : Act} {w : World} {K : Act → World → Prop} {Q : Exit → Act → World → Prop} (t0 : Nat) (t1 : Nat) (v0 : Value) (v1 : Value) (ts : Array TypeId) (S : World → Value → Prop) (ho : o.op = .call { callee := .value (.func 11), args := #[.tmp t0, .tmp t1], argTypes := ts }) (h0 : a.tmps[t0]? = some v0) (h1 : a.tmps[t1]? = some v1) (h : Calls Try.prog 11 #[v0, v1] w (fun e w2 => ∃ v, e = .returned v ∧ S w2 v ∧ Below w.heap.size w w2)) (hK : ∀ v w2, S w2 v → Below w.heap.size w w2 → K (a.put o.dst v) w2) : Oper.wp Try.prog o a w K Q := by
  obtain ⟨d, op, ty, ps, af, gd⟩ := o
  cases ho
  unfold Oper.wp
  simp [go_sem, Oper.upon, h0, h1]
  refine h.mono ?_
  rintro e w2 ⟨v, rfl, hk, hb⟩
  exact hK v w2 hk hb
set_option maxRecDepth 100000 in
theorem wt_call3_rightsEnter {o : Oper} {a : Act} {w : World} {K : Act → World → Prop} {Q : Exit → Act → World → Prop} (t0 : Nat) (t1 : Nat) (t2 : Nat) (v0 : Value) (v1 : Value) (v2 : Value) (ts : Array TypeId) (S : World → Value → Prop) (ho : o.op = .call { callee := .value (.func 14), args := #[.tmp t0, .tmp t1, .tmp t2], argTypes := ts }) (h0 : a.tmps[t0]? = some v0) (h1 : a.tmps[t1]? = some v1) (h2 : a.tmps[t2]? = some v2) (h : Calls Try.prog 14 #[v0, v1, v2] w (fun e w2 => ∃ v, e = .returned v ∧ S w2 v ∧ Below w.heap.size w w2)) (hK : ∀ v w2, S w2 v → Below w.heap.size w w2 → K (a.put o.dst v) w2) : Oper.wp Try.prog o a w K Q := by
  obtain ⟨d, op, ty, ps, af, gd⟩ := o
  cases ho
  unfold Oper.wp
  simp [go_sem, Oper.upon, h0, h1, h2]
  refine h.mono ?_
  rintro e w2 ⟨v, rfl, hk, hb⟩
  exact hK v w2 hk hb
set_option maxRecDepth 100000 in
theorem wt_call3_wheelhouseref16Enter {o : Oper} {a : Act} {w : World} {K : Act → World → Prop} {Q : Exit → Act → World → Prop} (t0 : Nat) (t1 : Nat) (t2 : Nat) (v0 : Value) (v1 : Value) (v2 : Value) (ts : Array TypeId) (S : World → Value → Prop) (ho : o.op = .call { callee := .value (.func 15), args := #[.tmp t0, .tmp t1, .tmp t2], argTypes := ts }) (h0 : a.tmps[t0]? = some v0) (h1 : a.tmps[t1]? = some v1) (h2 : a.tmps[t2]? = some v2) (h : Calls Try.prog 15 #[v0, v1, v2] w (fun e w2 => ∃ v, e = .returned v ∧ S w2 v ∧ Below w.heap.size w w2)) (hK : ∀ v w2, S w2 v → Below w.heap.size w w2 → K (a.put o.dst v) w2) : Oper.wp Try.prog o a w K Q := by
  obtain ⟨d, op, ty, ps, af, gd⟩ := o
  cases ho
  unfold Oper.wp
  simp [go_sem, Oper.upon, h0, h1, h2]
  refine h.mono ?_
  rintro e w2 ⟨v, rfl, hk, hb⟩
  exact hK v w2 hk hb
set_option maxRecDepth 100000 in
theorem wt_eql_apiCode {o : Oper} {a : Act} {w : World} {K : Act → World → Prop} {Q : Exit → Act → World → Prop} (t u : Nat) (x y : Int) (q : Bool) (ho : o.op = .binOp .eql 36 (.tmp t) (.tmp u) 36) (h1 : a.tmps[t]? = some (.int .i64 x)) (h2 : a.tmps[u]? = some (.int .i64 y)) (hq : (x == y) = q) (h : K (a.put o.dst (.bool q)) w) : Oper.wp Try.prog o a w K Q := by
  obtain ⟨d, op, ty, ps, af, gd⟩ := o
  cases ho
  unfold Oper.wp
  subst hq
  simp [go_sem, h1, h2, Oper.upon]
  exact h
set_option maxRecDepth 100000 in
theorem wt_call0_wheelhouselaw16works {o : Oper} {a : Act} {w : World} {K : Act → World → Prop} {Q : Exit → Act → World → Prop} (ts : Array TypeId) (S : World → Value → Prop) (ho : o.op = .call { callee := .value (.func 16), args := #[], argTypes := ts }) (h : Calls Try.prog 16 #[] w (fun e w2 => ∃ v, e = .returned v ∧ S w2 v ∧ Below w.heap.size w w2)) (hK : ∀ v w2, S w2 v → Below w.heap.size w w2 → K (a.put o.dst v) w2) : Oper.wp Try.prog o a w K Q := by
  obtain ⟨d, op, ty, ps, af, gd⟩ := o
  cases ho
  unfold Oper.wp
  simp [go_sem, Oper.upon, Act.put]
  refine h.mono ?_
  rintro e w2 ⟨v, rfl, hk, hb⟩
  exact hK v w2 hk hb
set_option maxRecDepth 100000 in
theorem wt_assign {o : Oper} {a : Act} {w : World} {K : Act → World → Prop} {Q : Exit → Act → World → Prop} (t : Nat) (v : Value) (ho : o.op = .assign (.tmp t)) (h1 : a.tmps[t]? = some v) (h : K (a.put o.dst v) w) : Oper.wp Try.prog o a w K Q := by
  obtain ⟨d, op, ty, ps, af, gd⟩ := o
  cases ho
  unfold Oper.wp
  simp [go_sem, h1, Oper.upon]
  exact h
set_option maxRecDepth 100000 in
set_option maxHeartbeats 8000000 in
theorem tells_walk (hFew : FewSpec) (c : Cf) (p0 p1 p2 p3 : Option Addr) (n0 n1 n2 n3 k0 k1 k2 k3 : Nat) (b0 b1 b2 b3 b4 b5 b6 b7 b8 b9 : Bs) (u q ps : Bs) (need : Int) (w : World) (h : CfA w (.slice p0 n0 k0) (.slice p1 n1 k1) (.slice p2 n2 k2) (.slice p3 n3 k3) c) :
    Calls Try.prog 3 #[confV (.slice p0 n0 k0) (.slice p1 n1 k1) (.slice p2 n2 k2) (.slice p3 n3 k3) b0 b1 b2 b3 b4 b5 b6 b7 b8 b9, .string ⟨u.toArray⟩, .string ⟨q.toArray⟩, .string ⟨ps.toArray⟩, .int .i64 need] w fun e w' => e = .returned (.bool true) ∧ Below w.heap.size w w' := by
  have hB0 := (Below.refl w.heap.size w).alloc (Nat.le_refl _) (.cells #[.slice p0 n0 k0, .slice p1 n1 k1, .slice p2 n2 k2, .slice p3 n3 k3, .string ⟨b0.toArray⟩, .string ⟨b1.toArray⟩, .string ⟨b2.toArray⟩, .string ⟨b3.toArray⟩, .string ⟨b4.toArray⟩, .string ⟨b5.toArray⟩, .string ⟨b6.toArray⟩, .string ⟨b7.toArray⟩, .string ⟨b8.toArray⟩, .string ⟨b9.toArray⟩] 28)
  have N0 := at_new w (.cells #[.slice p0 n0 k0, .slice p1 n1 k1, .slice p2 n2 k2, .slice p3 n3 k3, .string ⟨b0.toArray⟩, .string ⟨b1.toArray⟩, .string ⟨b2.toArray⟩, .string ⟨b3.toArray⟩, .string ⟨b4.toArray⟩, .string ⟨b5.toArray⟩, .string ⟨b6.toArray⟩, .string ⟨b7.toArray⟩, .string ⟨b8.toArray⟩, .string ⟨b9.toArray⟩] 28)
  have hs0 : (w.alloc (.cells #[.slice p0 n0 k0, .slice p1 n1 k1, .slice p2 n2 k2, .slice p3 n3 k3, .string ⟨b0.toArray⟩, .string ⟨b1.toArray⟩, .string ⟨b2.toArray⟩, .string ⟨b3.toArray⟩, .string ⟨b4.toArray⟩, .string ⟨b5.toArray⟩, .string ⟨b6.toArray⟩, .string ⟨b7.toArray⟩, .string ⟨b8.toArray⟩, .string ⟨b9.toArray⟩] 28)).heap.size = w.heap.size + 1 := by simp
  have hBX := hB0
  have NX := N0
  have hsX := hs0
  have HFC := Lib.hid (hFew c p0 p1 p2 p3 n0 n1 n2 n3 k0 k1 k2 k3 b0 b1 b2 b3 b4 b5 b6 b7 b8 b9 (w.alloc (.cells #[.slice p0 n0 k0, .slice p1 n1 k1, .slice p2 n2 k2, .slice p3 n3 k3, .string ⟨b0.toArray⟩, .string ⟨b1.toArray⟩, .string ⟨b2.toArray⟩, .string ⟨b3.toArray⟩, .string ⟨b4.toArray⟩, .string ⟨b5.toArray⟩, .string ⟨b6.toArray⟩, .string ⟨b7.toArray⟩, .string ⟨b8.toArray⟩, .string ⟨b9.toArray⟩] 28)) (h.keep hBX))
  have HB0 := Lib.hid hBX
  have HN0 := Lib.hid NX
  have HS0 := Lib.hid hsX
  obtain ⟨u', hu'⟩ : ∃ z, cutM u = z := ⟨_, rfl⟩
  obtain ⟨q', hq'⟩ : ∃ z, cutM q = z := ⟨_, rfl⟩
  have HC1 : Hid (∀ w', Calls Try.prog 7 #[.string ⟨u.toArray⟩] w' fun e w2 => e = .returned (.string ⟨u'.toArray⟩) ∧ w' = w2) := Lib.hid fun w' => by rw [← hu']; exact cut_calls u w'
  have HC2 : Hid (∀ w', Calls Try.prog 7 #[.string ⟨q.toArray⟩] w' fun e w2 => e = .returned (.string ⟨q'.toArray⟩) ∧ w' = w2) := Lib.hid fun w' => by rw [← hq']; exact cut_calls q w'
  have hul : u'.length ≤ 65536 := by rw [← hu']; exact Nat.le_trans (cut_le u) (by decide)
  have hql : q'.length ≤ 65536 := by rw [← hq']; exact Nat.le_trans (cut_le q) (by decide)
  clear h hu' hq' N0 hs0 hB0
  unfold confV at *
  go_enter Try.func3, Try.ntmps3
  go_wp2_with fail
  refine HFC.out.mono ?_
  rintro e w1 ⟨v0, v1, v2, v3, d0, d1, d2, d3, d4, d5, d6, d7, d8, d9, m, rfl, hR, hS, hb1⟩
  obtain ⟨⟨q0, j0, rfl, -⟩, ⟨q1, j1, gs, rfl, -, -⟩, ⟨q2, j2, rfl, -⟩, ⟨q3, j3, rfl, -⟩⟩ := hR w1 (Out.refl _ _)
  have N1 := (hb1.block _ (by rw [HS0.out]; omega)).trans HN0.out
  have HN1 := Lib.hid N1
  have HB1 := Lib.hid (HB0.out.trans (hb1.mono HB0.out.size))
  have HR := Lib.hid hR
  have HS := Lib.hid hS
  have hz1 : w.heap.size < w1.heap.size := at_lt N1
  have a0 : w1.cell? ⟨w.heap.size, 0, none⟩ = some (.slice p0 n0 k0) := (at_cell N1 0).trans rfl
  have f0 := at_frozen N1 0
  have a1 : w1.cell? ⟨w.heap.size, 1, none⟩ = some (.slice p1 n1 k1) := (at_cell N1 1).trans rfl
  have f1 := at_frozen N1 1
  have a2 : w1.cell? ⟨w.heap.size, 2, none⟩ = some (.slice p2 n2 k2) := (at_cell N1 2).trans rfl
  have f2 := at_frozen N1 2
  have a3 : w1.cell? ⟨w.heap.size, 3, none⟩ = some (.slice p3 n3 k3) := (at_cell N1 3).trans rfl
  have f3 := at_frozen N1 3
  have a4 : w1.cell? ⟨w.heap.size, 4, none⟩ = some (.string ⟨b0.toArray⟩) := (at_cell N1 4).trans rfl
  have f4 := at_frozen N1 4
  have a5 : w1.cell? ⟨w.heap.size, 5, none⟩ = some (.string ⟨b1.toArray⟩) := (at_cell N1 5).trans rfl
  have f5 := at_frozen N1 5
  have a6 : w1.cell? ⟨w.heap.size, 6, none⟩ = some (.string ⟨b2.toArray⟩) := (at_cell N1 6).trans rfl
  have f6 := at_frozen N1 6
  have a7 : w1.cell? ⟨w.heap.size, 7, none⟩ = some (.string ⟨b3.toArray⟩) := (at_cell N1 7).trans rfl
  have f7 := at_frozen N1 7
  have a8 : w1.cell? ⟨w.heap.size, 8, none⟩ = some (.string ⟨b4.toArray⟩) := (at_cell N1 8).trans rfl
  have f8 := at_frozen N1 8
  have a9 : w1.cell? ⟨w.heap.size, 9, none⟩ = some (.string ⟨b5.toArray⟩) := (at_cell N1 9).trans rfl
  have f9 := at_frozen N1 9
  have a10 : w1.cell? ⟨w.heap.size, 10, none⟩ = some (.string ⟨b6.toArray⟩) := (at_cell N1 10).trans rfl
  have f10 := at_frozen N1 10
  have a11 : w1.cell? ⟨w.heap.size, 11, none⟩ = some (.string ⟨b7.toArray⟩) := (at_cell N1 11).trans rfl
  have f11 := at_frozen N1 11
  have a12 : w1.cell? ⟨w.heap.size, 12, none⟩ = some (.string ⟨b8.toArray⟩) := (at_cell N1 12).trans rfl
  have f12 := at_frozen N1 12
  have a13 : w1.cell? ⟨w.heap.size, 13, none⟩ = some (.string ⟨b9.toArray⟩) := (at_cell N1 13).trans rfl
  have f13 := at_frozen N1 13
  clear N1 hb1 hR hS HFC
  unfold confV
  go_upto_region 2 with (go_at_call 7; first | (refine (HC1.out _).mono ?_; rintro e w' ⟨rfl, rfl⟩) | (refine (HC2.out _).mono ?_; rintro e w' ⟨rfl, rfl⟩))
  clear a0 f0 a1 f1 a2 f2 a3 f3 a4 f4 a5 f5 a6 f6 a7 f7 a8 f8 a9 f9 a10 f10 a11 f11 a12 f12 a13 f13
  have NY := set14_row (y0 := .slice q0 m.cons.length j0) (y1 := .slice q1 m.grps.length j1) (y2 := .slice q2 m.usrs.length j2) (y3 := .slice q3 m.accs.length j3) (y4 := .string ⟨d0.toArray⟩) (y5 := .string ⟨d1.toArray⟩) (y6 := .string ⟨d2.toArray⟩) (y7 := .string ⟨d3.toArray⟩) (y8 := .string ⟨d4.toArray⟩) (y9 := .string ⟨d5.toArray⟩) (y10 := .string ⟨d6.toArray⟩) (y11 := .string ⟨d7.toArray⟩) (y12 := .string ⟨d8.toArray⟩) (y13 := .string ⟨d9.toArray⟩) HN1.out
  have OY := set14_out w1 w.heap.size (.slice q0 m.cons.length j0) (.slice q1 m.grps.length j1) (.slice q2 m.usrs.length j2) (.slice q3 m.accs.length j3) (.string ⟨d0.toArray⟩) (.string ⟨d1.toArray⟩) (.string ⟨d2.toArray⟩) (.string ⟨d3.toArray⟩) (.string ⟨d4.toArray⟩) (.string ⟨d5.toArray⟩) (.string ⟨d6.toArray⟩) (.string ⟨d7.toArray⟩) (.string ⟨d8.toArray⟩) (.string ⟨d9.toArray⟩)
  generalize ((((((((((((((w1.setCell ⟨w.heap.size, 0, none⟩ (.slice q0 m.cons.length j0)).setCell ⟨w.heap.size, 1, none⟩ (.slice q1 m.grps.length j1)).setCell ⟨w.heap.size, 2, none⟩ (.slice q2 m.usrs.length j2)).setCell ⟨w.heap.size, 3, none⟩ (.slice q3 m.accs.length j3)).setCell ⟨w.heap.size, 4, none⟩ (.string ⟨d0.toArray⟩)).setCell ⟨w.heap.size, 5, none⟩ (.string ⟨d1.toArray⟩)).setCell ⟨w.heap.size, 6, none⟩ (.string ⟨d2.toArray⟩)).setCell ⟨w.heap.size, 7, none⟩ (.string ⟨d3.toArray⟩)).setCell ⟨w.heap.size, 8, none⟩ (.string ⟨d4.toArray⟩)).setCell ⟨w.heap.size, 9, none⟩ (.string ⟨d5.toArray⟩)).setCell ⟨w.heap.size, 10, none⟩ (.string ⟨d6.toArray⟩)).setCell ⟨w.heap.size, 11, none⟩ (.string ⟨d7.toArray⟩)).setCell ⟨w.heap.size, 12, none⟩ (.string ⟨d8.toArray⟩)).setCell ⟨w.heap.size, 13, none⟩ (.string ⟨d9.toArray⟩)) = Y at NY OY ⊢
  have HY : Hid (Bxd Y w.heap.size (.slice q0 m.cons.length j0) (.slice q1 m.grps.length j1) (.slice q2 m.usrs.length j2) (.slice q3 m.accs.length j3) d0 d1 d2 d3 d4 d5 d6 d7 d8 d9 m) := Lib.hid ⟨NY, HR.out Y (OY.mono fun k _ e => by rw [HS0.out]; omega), HS.out⟩
  have HBY := Lib.hid (HB1.out.trans (OY.below (by omega) fun k e => by omega))
  have hzY : w.heap.size < Y.heap.size := at_lt NY
  have y0 : Y.cell? ⟨w.heap.size, 0, none⟩ = some (.slice q0 m.cons.length j0) := (at_cell NY 0).trans rfl
  have y1 : Y.cell? ⟨w.heap.size, 1, none⟩ = some (.slice q1 m.grps.length j1) := (at_cell NY 1).trans rfl
  have y2 : Y.cell? ⟨w.heap.size, 2, none⟩ = some (.slice q2 m.usrs.length j2) := (at_cell NY 2).trans rfl
  have y3 : Y.cell? ⟨w.heap.size, 3, none⟩ = some (.slice q3 m.accs.length j3) := (at_cell NY 3).trans rfl
  have y4 : Y.cell? ⟨w.heap.size, 4, none⟩ = some (.string ⟨d0.toArray⟩) := (at_cell NY 4).trans rfl
  have y5 : Y.cell? ⟨w.heap.size, 5, none⟩ = some (.string ⟨d1.toArray⟩) := (at_cell NY 5).trans rfl
  have y6 : Y.cell? ⟨w.heap.size, 6, none⟩ = some (.string ⟨d2.toArray⟩) := (at_cell NY 6).trans rfl
  have y7 : Y.cell? ⟨w.heap.size, 7, none⟩ = some (.string ⟨d3.toArray⟩) := (at_cell NY 7).trans rfl
  have y8 : Y.cell? ⟨w.heap.size, 8, none⟩ = some (.string ⟨d4.toArray⟩) := (at_cell NY 8).trans rfl
  have y9 : Y.cell? ⟨w.heap.size, 9, none⟩ = some (.string ⟨d5.toArray⟩) := (at_cell NY 9).trans rfl
  have y10 : Y.cell? ⟨w.heap.size, 10, none⟩ = some (.string ⟨d6.toArray⟩) := (at_cell NY 10).trans rfl
  have y11 : Y.cell? ⟨w.heap.size, 11, none⟩ = some (.string ⟨d7.toArray⟩) := (at_cell NY 11).trans rfl
  have y12 : Y.cell? ⟨w.heap.size, 12, none⟩ = some (.string ⟨d8.toArray⟩) := (at_cell NY 12).trans rfl
  have y13 : Y.cell? ⟨w.heap.size, 13, none⟩ = some (.string ⟨d9.toArray⟩) := (at_cell NY 13).trans rfl
  have HL := Lib.hid (rLevel_cf HY.out.few d0 d1 d2 d3 d4 d5 d6 d7 d8 d9 HY.out.rd u' q' hul hql)
  unfold confV at HL
  clear NY OY
  go_wp2_with fail
  refine HL.out.mono ?_
  rintro e w2 ⟨rfl, hb2⟩
  have HY2 : Hid (Bxd w2 w.heap.size (.slice q0 m.cons.length j0) (.slice q1 m.grps.length j1) (.slice q2 m.usrs.length j2) (.slice q3 m.accs.length j3) d0 d1 d2 d3 d4 d5 d6 d7 d8 d9 m) := Lib.hid ⟨(hb2.block _ (at_lt HY.out.at_)).trans HY.out.at_, HY.out.rd.below hb2, HY.out.few⟩
  have HBY2 := Lib.hid (HBY.out.trans (hb2.mono HBY.out.size))
  clear y0 y1 y2 y3 y4 y5 y6 y7 y8 y9 y10 y11 y12 y13
  clear hb2 HL HY HBY hzY
  have HY := HY2
  have HBY := HBY2
  clear HY2 HBY2
  generalize w2 = Y at *
  go_wp2_with fail
  refine Reg.wp_sat (by kernel_rfl) [some 22, some 23, some 24, some 25, some 26, some 27, some 28, some 29, some 30, some 31, some 32, some 33, some 34, some 35, some 36, some 37, some 38, some 39, some 40, some 41, some 42, some 43, some 44, some 45, some 46, some 47, some 48, some 49, some 50, some 51, some 52, some 53, some 54, some 55, some 56, some 57, some 58, some 59, some 60, some 61, some 10] [Reg.Kn.val (.agg #[.slice q0 m.cons.length j0, .slice q1 m.grps.length j1, .slice q2 m.usrs.length j2, .slice q3 m.accs.length j3, .string ⟨d0.toArray⟩, .string ⟨d1.toArray⟩, .string ⟨d2.toArray⟩, .string ⟨d3.toArray⟩, .string ⟨d4.toArray⟩, .string ⟨d5.toArray⟩, .string ⟨d6.toArray⟩, .string ⟨d7.toArray⟩, .string ⟨d8.toArray⟩, .string ⟨d9.toArray⟩]), Reg.Kn.val (.string ⟨u'.toArray⟩), Reg.Kn.val (.string ⟨q'.toArray⟩), Reg.Kn.val (.int .i64 (lvlM m.accs u' q')), Reg.Kn.val (.int .i64 (lvlM m.accs u' q')), Reg.Kn.bl true, Reg.Kn.bl true, Reg.Kn.val (.agg #[.slice q0 m.cons.length j0, .slice q1 m.grps.length j1, .slice q2 m.usrs.length j2, .slice q3 m.accs.length j3, .string ⟨d0.toArray⟩, .string ⟨d1.toArray⟩, .string ⟨d2.toArray⟩, .string ⟨d3.toArray⟩, .string ⟨d4.toArray⟩, .string ⟨d5.toArray⟩, .string ⟨d6.toArray⟩, .string ⟨d7.toArray⟩, .string ⟨d8.toArray⟩, .string ⟨d9.toArray⟩]), Reg.Kn.val (.string ⟨u'.toArray⟩), Reg.Kn.val (.string ⟨q'.toArray⟩), Reg.Kn.val (.int .i64 need), Reg.Kn.bl (decide (need ≤ lvlM m.accs u' q')), Reg.Kn.val (.int .i64 (lvlM m.accs u' q')), Reg.Kn.val (.int .i64 need), Reg.Kn.bl (decide (need ≤ lvlM m.accs u' q')), Reg.Kn.bl true, Reg.Kn.bl true, Reg.Kn.bl true, Reg.Kn.val (.agg #[.slice q0 m.cons.length j0, .slice q1 m.grps.length j1, .slice q2 m.usrs.length j2, .slice q3 m.accs.length j3, .string ⟨d0.toArray⟩, .string ⟨d1.toArray⟩, .string ⟨d2.toArray⟩, .string ⟨d3.toArray⟩, .string ⟨d4.toArray⟩, .string ⟨d5.toArray⟩, .string ⟨d6.toArray⟩, .string ⟨d7.toArray⟩, .string ⟨d8.toArray⟩, .string ⟨d9.toArray⟩]), Reg.Kn.val (.string ⟨u'.toArray⟩), rdK (seesM m u'), Reg.Kn.val (.agg #[.slice q0 m.cons.length j0, .slice q1 m.grps.length j1, .slice q2 m.usrs.length j2, .slice q3 m.accs.length j3, .string ⟨d0.toArray⟩, .string ⟨d1.toArray⟩, .string ⟨d2.toArray⟩, .string ⟨d3.toArray⟩, .string ⟨d4.toArray⟩, .string ⟨d5.toArray⟩, .string ⟨d6.toArray⟩, .string ⟨d7.toArray⟩, .string ⟨d8.toArray⟩, .string ⟨d9.toArray⟩]), Reg.Kn.val (.string ⟨u'.toArray⟩), rdK (seesM m u'), Reg.Kn.bl true, Reg.Kn.bl true, Reg.Kn.bl true, Reg.Kn.val (.agg #[.slice q0 m.cons.length j0, .slice q1 m.grps.length j1, .slice q2 m.usrs.length j2, .slice q3 m.accs.length j3, .string ⟨d0.toArray⟩, .string ⟨d1.toArray⟩, .string ⟨d2.toArray⟩, .string ⟨d3.toArray⟩, .string ⟨d4.toArray⟩, .string ⟨d5.toArray⟩, .string ⟨d6.toArray⟩, .string ⟨d7.toArray⟩, .string ⟨d8.toArray⟩, .string ⟨d9.toArray⟩]), Reg.Kn.val (.string ⟨u'.toArray⟩), Reg.Kn.val (.string ⟨ps.toArray⟩), Reg.Kn.val (.int .i64 (entM m u' ps)), Reg.Kn.val (.agg #[.slice q0 m.cons.length j0, .slice q1 m.grps.length j1, .slice q2 m.usrs.length j2, .slice q3 m.accs.length j3, .string ⟨d0.toArray⟩, .string ⟨d1.toArray⟩, .string ⟨d2.toArray⟩, .string ⟨d3.toArray⟩, .string ⟨d4.toArray⟩, .string ⟨d5.toArray⟩, .string ⟨d6.toArray⟩, .string ⟨d7.toArray⟩, .string ⟨d8.toArray⟩, .string ⟨d9.toArray⟩]), Reg.Kn.val (.string ⟨u'.toArray⟩), Reg.Kn.val (.string ⟨ps.toArray⟩), Reg.Kn.val (.int .i64 (entM m u' ps)), Reg.Kn.bl true, Reg.Kn.bl true, Reg.Kn.bl true, Reg.Kn.bl true, Reg.Kn.bl true, Reg.Kn.bl true] (List.replicate 41 true) [(22, 0), (23, 1), (24, 2), (25, 3), (26, 4), (27, 5), (28, 6), (29, 7), (30, 8), (31, 9), (32, 10), (33, 11), (34, 12), (35, 13), (36, 14), (37, 15), (38, 16), (39, 17), (40, 18), (41, 19), (42, 20), (43, 21), (44, 22), (45, 23), (46, 24), (47, 25), (48, 26), (49, 27), (50, 28), (51, 29), (52, 30), (53, 31), (54, 32), (55, 33), (56, 34), (57, 35), (58, 36), (59, 37), (60, 38), (61, 39), (10, 40)] (by kernel_rfl) (by kernel_rfl) (by kernel_rfl) (by decide) (by kernel_rfl) ?_ ?_
  · intro ii op a' w' ho hwd hdp hot hb
    have hr := Below.refl w'.heap.size w'
    have N1 := (hb.block _ (at_lt HY.out.at_)).trans HY.out.at_
    have hR := HY.out.rd.below hb
    obtain rfl | rfl | rfl | rfl | rfl | rfl | rfl | rfl | rfl | rfl | rfl | rfl | rfl | rfl | rfl | rfl | rfl | rfl | rfl | rfl | rfl | rfl | rfl | rfl | rfl | rfl | rfl | rfl | rfl | rfl | rfl | rfl | rfl | rfl | rfl | rfl | rfl | rfl | rfl | rfl | rfl : ii = 0 ∨ ii = 1 ∨ ii = 2 ∨ ii = 3 ∨ ii = 4 ∨ ii = 5 ∨ ii = 6 ∨ ii = 7 ∨ ii = 8 ∨ ii = 9 ∨ ii = 10 ∨ ii = 11 ∨ ii = 12 ∨ ii = 13 ∨ ii = 14 ∨ ii = 15 ∨ ii = 16 ∨ ii = 17 ∨ ii = 18 ∨ ii = 19 ∨ ii = 20 ∨ ii = 21 ∨ ii = 22 ∨ ii = 23 ∨ ii = 24 ∨ ii = 25 ∨ ii = 26 ∨ ii = 27 ∨ ii = 28 ∨ ii = 29 ∨ ii = 30 ∨ ii = 31 ∨ ii = 32 ∨ ii = 33 ∨ ii = 34 ∨ ii = 35 ∨ ii = 36 ∨ ii = 37 ∨ ii = 38 ∨ ii = 39 ∨ ii = 40 := by have h : ii < 41 := (Array.getElem?_eq_some_iff.1 ho).1; omega
    · obtain rfl := Option.some.inj ho
      have e5 : a'.tmps[5]? = some (.pointer (some ⟨w.heap.size, 0, none⟩)) := (hot 5 ⟨by kernel_rfl⟩).trans rfl
      exact wt_ldConf 5 _ _ _ _ _ _ _ _ _ _ _ _ _ _ _ rfl e5 N1 ⟨_, rfl, rfl, hr⟩
    · obtain rfl := Option.some.inj ho
      have e1 : a'.tmps[1]? = some (.string ⟨u'.toArray⟩) := (hot 1 ⟨by kernel_rfl⟩).trans rfl
      exact wt_move 1 _ rfl e1 ⟨_, rfl, rfl, hr⟩
    · obtain rfl := Option.some.inj ho
      have e2 : a'.tmps[2]? = some (.string ⟨q'.toArray⟩) := (hot 2 ⟨by kernel_rfl⟩).trans rfl
      exact wt_move 2 _ rfl e2 ⟨_, rfl, rfl, hr⟩
    · obtain rfl := Option.some.inj ho
      have e22 : a'.tmps[22]? = some (.agg #[.slice q0 m.cons.length j0, .slice q1 m.grps.length j1, .slice q2 m.usrs.length j2, .slice q3 m.accs.length j3, .string ⟨d0.toArray⟩, .string ⟨d1.toArray⟩, .string ⟨d2.toArray⟩, .string ⟨d3.toArray⟩, .string ⟨d4.toArray⟩, .string ⟨d5.toArray⟩, .string ⟨d6.toArray⟩, .string ⟨d7.toArray⟩, .string ⟨d8.toArray⟩, .string ⟨d9.toArray⟩]) := by obtain ⟨_, e, h⟩ := hdp 0 (Reg.mem_of (by kernel_rfl)) _ rfl; exact e.trans (congrArg some h)
      have e23 : a'.tmps[23]? = some (.string ⟨u'.toArray⟩) := by obtain ⟨_, e, h⟩ := hdp 1 (Reg.mem_of (by kernel_rfl)) _ rfl; exact e.trans (congrArg some h)
      have e24 : a'.tmps[24]? = some (.string ⟨q'.toArray⟩) := by obtain ⟨_, e, h⟩ := hdp 2 (Reg.mem_of (by kernel_rfl)) _ rfl; exact e.trans (congrArg some h)
      exact wt_call3_rightsLevel 22 23 24 _ _ _ _ _ rfl e22 e23 e24 ((Level_cf HY.out.few d0 d1 d2 d3 d4 d5 d6 d7 d8 d9 hR u' q' hul hql).mono (by rintro e w2 ⟨rfl, hb2⟩; exact ⟨_, rfl, rfl, hb2⟩)) fun v w2 hk hb2 => ⟨_, rfl, hk, hb2⟩
    · obtain rfl := Option.some.inj ho
      have e11 : a'.tmps[11]? = some (.int .i64 (lvlM m.accs u' q')) := (hot 11 ⟨by kernel_rfl⟩).trans rfl
      exact wt_move 11 _ rfl e11 ⟨_, rfl, rfl, hr⟩
    · obtain rfl := Option.some.inj ho
      have e25 : a'.tmps[25]? = some (.int .i64 (lvlM m.accs u' q')) := by obtain ⟨_, e, h⟩ := hdp 3 (Reg.mem_of (by kernel_rfl)) _ rfl; exact e.trans (congrArg some h)
      have e26 : a'.tmps[26]? = some (.int .i64 (lvlM m.accs u' q')) := by obtain ⟨_, e, h⟩ := hdp 4 (Reg.mem_of (by kernel_rfl)) _ rfl; exact e.trans (congrArg some h)
      exact wt_eql_int 25 26 _ _ _ rfl e25 e26 (by simp) ⟨_, rfl, rfl, hr⟩
    · obtain rfl := Option.some.inj ho
      have e27 : a'.tmps[27]? = some (.bool true) := by obtain ⟨_, e, h⟩ := hdp 5 (Reg.mem_of (by kernel_rfl)) _ rfl; exact e.trans (congrArg some h)
      exact wt_move 27 _ rfl e27 ⟨_, rfl, rfl, hr⟩
    · obtain rfl := Option.some.inj ho
      have e5 : a'.tmps[5]? = some (.pointer (some ⟨w.heap.size, 0, none⟩)) := (hot 5 ⟨by kernel_rfl⟩).trans rfl
      exact wt_ldConf 5 _ _ _ _ _ _ _ _ _ _ _ _ _ _ _ rfl e5 N1 ⟨_, rfl, rfl, hr⟩
    · obtain rfl := Option.some.inj ho
      have e1 : a'.tmps[1]? = some (.string ⟨u'.toArray⟩) := (hot 1 ⟨by kernel_rfl⟩).trans rfl
      exact wt_move 1 _ rfl e1 ⟨_, rfl, rfl, hr⟩
    · obtain rfl := Option.some.inj ho
      have e2 : a'.tmps[2]? = some (.string ⟨q'.toArray⟩) := (hot 2 ⟨by kernel_rfl⟩).trans rfl
      exact wt_move 2 _ rfl e2 ⟨_, rfl, rfl, hr⟩
    · obtain rfl := Option.some.inj ho
      have e4 : a'.tmps[4]? = some (.int .i64 need) := (hot 4 ⟨by kernel_rfl⟩).trans rfl
      exact wt_move 4 _ rfl e4 ⟨_, rfl, rfl, hr⟩
    · obtain rfl := Option.some.inj ho
      have e29 : a'.tmps[29]? = some (.agg #[.slice q0 m.cons.length j0, .slice q1 m.grps.length j1, .slice q2 m.usrs.length j2, .slice q3 m.accs.length j3, .string ⟨d0.toArray⟩, .string ⟨d1.toArray⟩, .string ⟨d2.toArray⟩, .string ⟨d3.toArray⟩, .string ⟨d4.toArray⟩, .string ⟨d5.toArray⟩, .string ⟨d6.toArray⟩, .string ⟨d7.toArray⟩, .string ⟨d8.toArray⟩, .string ⟨d9.toArray⟩]) := by obtain ⟨_, e, h⟩ := hdp 7 (Reg.mem_of (by kernel_rfl)) _ rfl; exact e.trans (congrArg some h)
      have e30 : a'.tmps[30]? = some (.string ⟨u'.toArray⟩) := by obtain ⟨_, e, h⟩ := hdp 8 (Reg.mem_of (by kernel_rfl)) _ rfl; exact e.trans (congrArg some h)
      have e31 : a'.tmps[31]? = some (.string ⟨q'.toArray⟩) := by obtain ⟨_, e, h⟩ := hdp 9 (Reg.mem_of (by kernel_rfl)) _ rfl; exact e.trans (congrArg some h)
      have e32 : a'.tmps[32]? = some (.int .i64 need) := by obtain ⟨_, e, h⟩ := hdp 10 (Reg.mem_of (by kernel_rfl)) _ rfl; exact e.trans (congrArg some h)
      exact wt_call4_rightsMay 29 30 31 32 _ _ _ _ _ _ rfl e29 e30 e31 e32 ((May_cf HY.out.few d0 d1 d2 d3 d4 d5 d6 d7 d8 d9 hR u' q' need hul hql).mono (by rintro e w2 ⟨rfl, hb2⟩; exact ⟨_, rfl, rfl, hb2⟩)) fun v w2 hk hb2 => ⟨_, rfl, hk, hb2⟩
    · obtain rfl := Option.some.inj ho
      have e11 : a'.tmps[11]? = some (.int .i64 (lvlM m.accs u' q')) := (hot 11 ⟨by kernel_rfl⟩).trans rfl
      exact wt_move 11 _ rfl e11 ⟨_, rfl, rfl, hr⟩
    · obtain rfl := Option.some.inj ho
      have e4 : a'.tmps[4]? = some (.int .i64 need) := (hot 4 ⟨by kernel_rfl⟩).trans rfl
      exact wt_move 4 _ rfl e4 ⟨_, rfl, rfl, hr⟩
    · obtain rfl := Option.some.inj ho
      have e34 : a'.tmps[34]? = some (.int .i64 (lvlM m.accs u' q')) := by obtain ⟨_, e, h⟩ := hdp 12 (Reg.mem_of (by kernel_rfl)) _ rfl; exact e.trans (congrArg some h)
      have e35 : a'.tmps[35]? = some (.int .i64 need) := by obtain ⟨_, e, h⟩ := hdp 13 (Reg.mem_of (by kernel_rfl)) _ rfl; exact e.trans (congrArg some h)
      exact wt_geq_int 34 35 _ _ _ rfl e34 e35 rfl ⟨_, rfl, rfl, hr⟩
    · obtain rfl := Option.some.inj ho
      have e33 : a'.tmps[33]? = some (.bool (decide (need ≤ lvlM m.accs u' q'))) := by obtain ⟨_, e, h⟩ := hdp 11 (Reg.mem_of (by kernel_rfl)) _ rfl; exact e.trans (congrArg some h)
      have e36 : a'.tmps[36]? = some (.bool (decide (need ≤ lvlM m.accs u' q'))) := by obtain ⟨_, e, h⟩ := hdp 14 (Reg.mem_of (by kernel_rfl)) _ rfl; exact e.trans (congrArg some h)
      exact wt_eql_bool 33 36 _ _ _ rfl e33 e36 (by simp) ⟨_, rfl, rfl, hr⟩
    · obtain rfl := Option.some.inj ho
      have e28 : a'.tmps[28]? = some (.bool true) := by obtain ⟨_, e, h⟩ := hdp 6 (Reg.mem_of (by kernel_rfl)) _ rfl; exact e.trans (congrArg some h)
      have e37 : a'.tmps[37]? = some (.bool true) := by obtain ⟨_, e, h⟩ := hdp 15 (Reg.mem_of (by kernel_rfl)) _ rfl; exact e.trans (congrArg some h)
      exact wt_pickTtc 28 37 _ _ rfl e28 e37 ⟨_, rfl, rfl, hr⟩
    · obtain rfl := Option.some.inj ho
      have e38 : a'.tmps[38]? = some (.bool true) := by obtain ⟨_, e, h⟩ := hdp 16 (Reg.mem_of (by kernel_rfl)) _ rfl; exact e.trans (congrArg some h)
      exact wt_move 38 _ rfl e38 ⟨_, rfl, rfl, hr⟩
    · obtain rfl := Option.some.inj ho
      have e5 : a'.tmps[5]? = some (.pointer (some ⟨w.heap.size, 0, none⟩)) := (hot 5 ⟨by kernel_rfl⟩).trans rfl
      exact wt_ldConf 5 _ _ _ _ _ _ _ _ _ _ _ _ _ _ _ rfl e5 N1 ⟨_, rfl, rfl, hr⟩
    · obtain rfl := Option.some.inj ho
      have e1 : a'.tmps[1]? = some (.string ⟨u'.toArray⟩) := (hot 1 ⟨by kernel_rfl⟩).trans rfl
      exact wt_move 1 _ rfl e1 ⟨_, rfl, rfl, hr⟩
    · obtain rfl := Option.some.inj ho
      have e40 : a'.tmps[40]? = some (.agg #[.slice q0 m.cons.length j0, .slice q1 m.grps.length j1, .slice q2 m.usrs.length j2, .slice q3 m.accs.length j3, .string ⟨d0.toArray⟩, .string ⟨d1.toArray⟩, .string ⟨d2.toArray⟩, .string ⟨d3.toArray⟩, .string ⟨d4.toArray⟩, .string ⟨d5.toArray⟩, .string ⟨d6.toArray⟩, .string ⟨d7.toArray⟩, .string ⟨d8.toArray⟩, .string ⟨d9.toArray⟩]) := by obtain ⟨_, e, h⟩ := hdp 18 (Reg.mem_of (by kernel_rfl)) _ rfl; exact e.trans (congrArg some h)
      have e41 : a'.tmps[41]? = some (.string ⟨u'.toArray⟩) := by obtain ⟨_, e, h⟩ := hdp 19 (Reg.mem_of (by kernel_rfl)) _ rfl; exact e.trans (congrArg some h)
      exact wt_call2_rightsSees 40 41 _ _ _ _ rfl e40 e41 ((Sees_cf HY.out.few d0 d1 d2 d3 d4 d5 d6 d7 d8 d9 hR u' hul).mono (fun e w2 hh => pl_rd hh)) fun v w2 hk hb2 => ⟨_, rfl, hk, hb2⟩
    · obtain rfl := Option.some.inj ho
      have e5 : a'.tmps[5]? = some (.pointer (some ⟨w.heap.size, 0, none⟩)) := (hot 5 ⟨by kernel_rfl⟩).trans rfl
      exact wt_ldConf 5 _ _ _ _ _ _ _ _ _ _ _ _ _ _ _ rfl e5 N1 ⟨_, rfl, rfl, hr⟩
    · obtain rfl := Option.some.inj ho
      have e1 : a'.tmps[1]? = some (.string ⟨u'.toArray⟩) := (hot 1 ⟨by kernel_rfl⟩).trans rfl
      exact wt_move 1 _ rfl e1 ⟨_, rfl, rfl, hr⟩
    · obtain rfl := Option.some.inj ho
      have e43 : a'.tmps[43]? = some (.agg #[.slice q0 m.cons.length j0, .slice q1 m.grps.length j1, .slice q2 m.usrs.length j2, .slice q3 m.accs.length j3, .string ⟨d0.toArray⟩, .string ⟨d1.toArray⟩, .string ⟨d2.toArray⟩, .string ⟨d3.toArray⟩, .string ⟨d4.toArray⟩, .string ⟨d5.toArray⟩, .string ⟨d6.toArray⟩, .string ⟨d7.toArray⟩, .string ⟨d8.toArray⟩, .string ⟨d9.toArray⟩]) := by obtain ⟨_, e, h⟩ := hdp 21 (Reg.mem_of (by kernel_rfl)) _ rfl; exact e.trans (congrArg some h)
      have e44 : a'.tmps[44]? = some (.string ⟨u'.toArray⟩) := by obtain ⟨_, e, h⟩ := hdp 22 (Reg.mem_of (by kernel_rfl)) _ rfl; exact e.trans (congrArg some h)
      exact wt_call2_wheelhouseref16Sees 43 44 _ _ _ _ rfl e43 e44 ((rSees_cf HY.out.few d0 d1 d2 d3 d4 d5 d6 d7 d8 d9 hR u' hul).mono (fun e w2 hh => pl_rd hh)) fun v w2 hk hb2 => ⟨_, rfl, hk, hb2⟩
    · obtain rfl := Option.some.inj ho
      obtain ⟨v42, e42, s42⟩ := hdp 20 (Reg.mem_of (by kernel_rfl)) _ rfl
      obtain ⟨v45, e45, s45⟩ := hdp 23 (Reg.mem_of (by kernel_rfl)) _ rfl
      exact wt_call2_wheelhouseref16Same 42 45 _ _ _ _ rfl e42 e45 ((rd_same s42 s45).mono (by rintro e w2 ⟨rfl, hb2⟩; exact ⟨_, rfl, rfl, hb2⟩)) fun v w2 hk hb2 => ⟨_, rfl, hk, hb2⟩
    · obtain rfl := Option.some.inj ho
      have e39 : a'.tmps[39]? = some (.bool true) := by obtain ⟨_, e, h⟩ := hdp 17 (Reg.mem_of (by kernel_rfl)) _ rfl; exact e.trans (congrArg some h)
      have e46 : a'.tmps[46]? = some (.bool true) := by obtain ⟨_, e, h⟩ := hdp 24 (Reg.mem_of (by kernel_rfl)) _ rfl; exact e.trans (congrArg some h)
      exact wt_pickTtc 39 46 _ _ rfl e39 e46 ⟨_, rfl, rfl, hr⟩
    · obtain rfl := Option.some.inj ho
      have e47 : a'.tmps[47]? = some (.bool true) := by obtain ⟨_, e, h⟩ := hdp 25 (Reg.mem_of (by kernel_rfl)) _ rfl; exact e.trans (congrArg some h)
      exact wt_move 47 _ rfl e47 ⟨_, rfl, rfl, hr⟩
    · obtain rfl := Option.some.inj ho
      have e5 : a'.tmps[5]? = some (.pointer (some ⟨w.heap.size, 0, none⟩)) := (hot 5 ⟨by kernel_rfl⟩).trans rfl
      exact wt_ldConf 5 _ _ _ _ _ _ _ _ _ _ _ _ _ _ _ rfl e5 N1 ⟨_, rfl, rfl, hr⟩
    · obtain rfl := Option.some.inj ho
      have e1 : a'.tmps[1]? = some (.string ⟨u'.toArray⟩) := (hot 1 ⟨by kernel_rfl⟩).trans rfl
      exact wt_move 1 _ rfl e1 ⟨_, rfl, rfl, hr⟩
    · obtain rfl := Option.some.inj ho
      have e3 : a'.tmps[3]? = some (.string ⟨ps.toArray⟩) := (hot 3 ⟨by kernel_rfl⟩).trans rfl
      exact wt_move 3 _ rfl e3 ⟨_, rfl, rfl, hr⟩
    · obtain rfl := Option.some.inj ho
      have e49 : a'.tmps[49]? = some (.agg #[.slice q0 m.cons.length j0, .slice q1 m.grps.length j1, .slice q2 m.usrs.length j2, .slice q3 m.accs.length j3, .string ⟨d0.toArray⟩, .string ⟨d1.toArray⟩, .string ⟨d2.toArray⟩, .string ⟨d3.toArray⟩, .string ⟨d4.toArray⟩, .string ⟨d5.toArray⟩, .string ⟨d6.toArray⟩, .string ⟨d7.toArray⟩, .string ⟨d8.toArray⟩, .string ⟨d9.toArray⟩]) := by obtain ⟨_, e, h⟩ := hdp 27 (Reg.mem_of (by kernel_rfl)) _ rfl; exact e.trans (congrArg some h)
      have e50 : a'.tmps[50]? = some (.string ⟨u'.toArray⟩) := by obtain ⟨_, e, h⟩ := hdp 28 (Reg.mem_of (by kernel_rfl)) _ rfl; exact e.trans (congrArg some h)
      have e51 : a'.tmps[51]? = some (.string ⟨ps.toArray⟩) := by obtain ⟨_, e, h⟩ := hdp 29 (Reg.mem_of (by kernel_rfl)) _ rfl; exact e.trans (congrArg some h)
      exact wt_call3_rightsEnter 49 50 51 _ _ _ _ _ rfl e49 e50 e51 ((Enter_cf HY.out.few d0 d1 d2 d3 d4 d5 d6 d7 d8 d9 hR u' ps).mono (by rintro e w2 ⟨rfl, hb2⟩; exact ⟨_, rfl, rfl, hb2⟩)) fun v w2 hk hb2 => ⟨_, rfl, hk, hb2⟩
    · obtain rfl := Option.some.inj ho
      have e5 : a'.tmps[5]? = some (.pointer (some ⟨w.heap.size, 0, none⟩)) := (hot 5 ⟨by kernel_rfl⟩).trans rfl
      exact wt_ldConf 5 _ _ _ _ _ _ _ _ _ _ _ _ _ _ _ rfl e5 N1 ⟨_, rfl, rfl, hr⟩
    · obtain rfl := Option.some.inj ho
      have e1 : a'.tmps[1]? = some (.string ⟨u'.toArray⟩) := (hot 1 ⟨by kernel_rfl⟩).trans rfl
      exact wt_move 1 _ rfl e1 ⟨_, rfl, rfl, hr⟩
    · obtain rfl := Option.some.inj ho
      have e3 : a'.tmps[3]? = some (.string ⟨ps.toArray⟩) := (hot 3 ⟨by kernel_rfl⟩).trans rfl
      exact wt_move 3 _ rfl e3 ⟨_, rfl, rfl, hr⟩
    · obtain rfl := Option.some.inj ho
      have e53 : a'.tmps[53]? = some (.agg #[.slice q0 m.cons.length j0, .slice q1 m.grps.length j1, .slice q2 m.usrs.length j2, .slice q3 m.accs.length j3, .string ⟨d0.toArray⟩, .string ⟨d1.toArray⟩, .string ⟨d2.toArray⟩, .string ⟨d3.toArray⟩, .string ⟨d4.toArray⟩, .string ⟨d5.toArray⟩, .string ⟨d6.toArray⟩, .string ⟨d7.toArray⟩, .string ⟨d8.toArray⟩, .string ⟨d9.toArray⟩]) := by obtain ⟨_, e, h⟩ := hdp 31 (Reg.mem_of (by kernel_rfl)) _ rfl; exact e.trans (congrArg some h)
      have e54 : a'.tmps[54]? = some (.string ⟨u'.toArray⟩) := by obtain ⟨_, e, h⟩ := hdp 32 (Reg.mem_of (by kernel_rfl)) _ rfl; exact e.trans (congrArg some h)
      have e55 : a'.tmps[55]? = some (.string ⟨ps.toArray⟩) := by obtain ⟨_, e, h⟩ := hdp 33 (Reg.mem_of (by kernel_rfl)) _ rfl; exact e.trans (congrArg some h)
      exact wt_call3_wheelhouseref16Enter 53 54 55 _ _ _ _ _ rfl e53 e54 e55 ((rEnter_cf HY.out.few d0 d1 d2 d3 d4 d5 d6 d7 d8 d9 hR u' ps).mono (by rintro e w2 ⟨rfl, hb2⟩; exact ⟨_, rfl, rfl, hb2⟩)) fun v w2 hk hb2 => ⟨_, rfl, hk, hb2⟩
    · obtain rfl := Option.some.inj ho
      have e52 : a'.tmps[52]? = some (.int .i64 (entM m u' ps)) := by obtain ⟨_, e, h⟩ := hdp 30 (Reg.mem_of (by kernel_rfl)) _ rfl; exact e.trans (congrArg some h)
      have e56 : a'.tmps[56]? = some (.int .i64 (entM m u' ps)) := by obtain ⟨_, e, h⟩ := hdp 34 (Reg.mem_of (by kernel_rfl)) _ rfl; exact e.trans (congrArg some h)
      exact wt_eql_apiCode 52 56 _ _ _ rfl e52 e56 (by simp) ⟨_, rfl, rfl, hr⟩
    · obtain rfl := Option.some.inj ho
      have e48 : a'.tmps[48]? = some (.bool true) := by obtain ⟨_, e, h⟩ := hdp 26 (Reg.mem_of (by kernel_rfl)) _ rfl; exact e.trans (congrArg some h)
      have e57 : a'.tmps[57]? = some (.bool true) := by obtain ⟨_, e, h⟩ := hdp 35 (Reg.mem_of (by kernel_rfl)) _ rfl; exact e.trans (congrArg some h)
      exact wt_pickTtc 48 57 _ _ rfl e48 e57 ⟨_, rfl, rfl, hr⟩
    · obtain rfl := Option.some.inj ho
      have e58 : a'.tmps[58]? = some (.bool true) := by obtain ⟨_, e, h⟩ := hdp 36 (Reg.mem_of (by kernel_rfl)) _ rfl; exact e.trans (congrArg some h)
      exact wt_move 58 _ rfl e58 ⟨_, rfl, rfl, hr⟩
    · obtain rfl := Option.some.inj ho
      exact wt_call0_wheelhouselaw16works  _ _ rfl  ((works_calls w').mono (by rintro e w2 ⟨rfl, hb2⟩; exact ⟨_, rfl, rfl, hb2⟩)) fun v w2 hk hb2 => ⟨_, rfl, hk, hb2⟩
    · obtain rfl := Option.some.inj ho
      have e59 : a'.tmps[59]? = some (.bool true) := by obtain ⟨_, e, h⟩ := hdp 37 (Reg.mem_of (by kernel_rfl)) _ rfl; exact e.trans (congrArg some h)
      have e60 : a'.tmps[60]? = some (.bool true) := by obtain ⟨_, e, h⟩ := hdp 38 (Reg.mem_of (by kernel_rfl)) _ rfl; exact e.trans (congrArg some h)
      exact wt_pickTtc 59 60 _ _ rfl e59 e60 ⟨_, rfl, rfl, hr⟩
    · obtain rfl := Option.some.inj ho
      have e61 : a'.tmps[61]? = some (.bool true) := by obtain ⟨_, e, h⟩ := hdp 39 (Reg.mem_of (by kernel_rfl)) _ rfl; exact e.trans (congrArg some h)
      exact wt_assign 61 _ rfl e61 ⟨_, rfl, rfl, hr⟩
  · intro us w' hul hus hb
    rcases us with _ | ⟨z0, us⟩
    · exact absurd hul (by simp)
    rcases us with _ | ⟨z1, us⟩
    · exact absurd hul (by simp)
    rcases us with _ | ⟨z2, us⟩
    · exact absurd hul (by simp)
    rcases us with _ | ⟨z3, us⟩
    · exact absurd hul (by simp)
    rcases us with _ | ⟨z4, us⟩
    · exact absurd hul (by simp)
    rcases us with _ | ⟨z5, us⟩
    · exact absurd hul (by simp)
    rcases us with _ | ⟨z6, us⟩
    · exact absurd hul (by simp)
    rcases us with _ | ⟨z7, us⟩
    · exact absurd hul (by simp)
    rcases us with _ | ⟨z8, us⟩
    · exact absurd hul (by simp)
    rcases us with _ | ⟨z9, us⟩
    · exact absurd hul (by simp)
    rcases us with _ | ⟨z10, us⟩
    · exact absurd hul (by simp)
    rcases us with _ | ⟨z11, us⟩
    · exact absurd hul (by simp)
    rcases us with _ | ⟨z12, us⟩
    · exact absurd hul (by simp)
    rcases us with _ | ⟨z13, us⟩
    · exact absurd hul (by simp)
    rcases us with _ | ⟨z14, us⟩
    · exact absurd hul (by simp)
    rcases us with _ | ⟨z15, us⟩
    · exact absurd hul (by simp)
    rcases us with _ | ⟨z16, us⟩
    · exact absurd hul (by simp)
    rcases us with _ | ⟨z17, us⟩
    · exact absurd hul (by simp)
    rcases us with _ | ⟨z18, us⟩
    · exact absurd hul (by simp)
    rcases us with _ | ⟨z19, us⟩
    · exact absurd hul (by simp)
    rcases us with _ | ⟨z20, us⟩
    · exact absurd hul (by simp)
    rcases us with _ | ⟨z21, us⟩
    · exact absurd hul (by simp)
    rcases us with _ | ⟨z22, us⟩
    · exact absurd hul (by simp)
    rcases us with _ | ⟨z23, us⟩
    · exact absurd hul (by simp)
    rcases us with _ | ⟨z24, us⟩
    · exact absurd hul (by simp)
    rcases us with _ | ⟨z25, us⟩
    · exact absurd hul (by simp)
    rcases us with _ | ⟨z26, us⟩
    · exact absurd hul (by simp)
    rcases us with _ | ⟨z27, us⟩
    · exact absurd hul (by simp)
    rcases us with _ | ⟨z28, us⟩
    · exact absurd hul (by simp)
    rcases us with _ | ⟨z29, us⟩
    · exact absurd hul (by simp)
    rcases us with _ | ⟨z30, us⟩
    · exact absurd hul (by simp)
    rcases us with _ | ⟨z31, us⟩
    · exact absurd hul (by simp)
    rcases us with _ | ⟨z32, us⟩
    · exact absurd hul (by simp)
    rcases us with _ | ⟨z33, us⟩
    · exact absurd hul (by simp)
    rcases us with _ | ⟨z34, us⟩
    · exact absurd hul (by simp)
    rcases us with _ | ⟨z35, us⟩
    · exact absurd hul (by simp)
    rcases us with _ | ⟨z36, us⟩
    · exact absurd hul (by simp)
    rcases us with _ | ⟨z37, us⟩
    · exact absurd hul (by simp)
    rcases us with _ | ⟨z38, us⟩
    · exact absurd hul (by simp)
    rcases us with _ | ⟨z39, us⟩
    · exact absurd hul (by simp)
    rcases us with _ | ⟨z40, us⟩
    · exact absurd hul (by simp)
    obtain rfl : us = [] := by
      clear hus
      cases us with
      | nil => rfl
      | cons _ _ => exact absurd hul (by simp)
    have h10 : z40 = .bool true := hus 40 (10, 40) _ rfl rfl
    subst h10
    clear hus hul
    simp only [List.map, List.zip, List.zipWith, Reg.puts, Act.put, List.setIfInBounds_toArray, List.set_cons_succ, List.set_cons_zero]
    have HE := Lib.hid (HBY.out.trans (hb.mono HBY.out.size))
    clear hb
    go_wp2_with fail
    go_ret
    exact ⟨rfl, HE.out⟩
end Go.Proofs.Ytpbjmfchnihjeaa.Rgt
