/-
  Layer 16 (rights): operations of Few's regions.
-/
import Derived.Test.YtomnkmcabkoagaaRgtFewM
import Derived.Test.YtomnkmcabkoagaaRegChain
import Derived.Deep.AppendLies
namespace Go.Proofs.Ytomnkmcabkoagaa.Rgt
open Go.RowKit Go.Proofs.Ytomnkmcabkoagaa.Own Go.Proofs.Ytomnkmcabkoagaa.Rw Go.Proofs.Ytomnkmcabkoagaa.Tree Go.Proofs.Ytomnkmcabkoagaa.Conf

section
variable {o : Oper} {a : Act} {w : World} {K : Act → World → Prop} {Q : Exit → Act → World → Prop}
theorem ap_known (t1 t2 : Nat) (T ty : TypeId) (ho : o.op = .call { callee := .builtin .append, args := #[.tmp t1, .tmp t2], argTypes := #[T, T] }) (hty : o.type = ty) (v1 v2 v' : Value) (w' : World) (h1 : a.tmps[t1]? = some v1) (h2 : a.tmps[t2]? = some v2)
    (hr : (Builtin.append_ #[T, T] ty #[v1, v2]).run Try.prog w = .ok v' w') (h : K (a.put o.dst v') w') : Oper.wp Try.prog o a w K Q := by
  have e1 := Reg.eval_tmp h1
  have e2 := Reg.eval_tmp h2
  unfold Oper.wp execOp
  simp only [ho, resolve, invoke, builtin, Sem.run_bind, Sem.run_pure, Result.andThen_ok, List.map_toArray, List.map_cons, List.map_nil, e1, e2, hty, hr]
  exact h
theorem st_known (T : TypeId) (t u : Nat) (ad : Addr) (v v0 : Value) (hT : T = 22 ∨ T = 23 ∨ T = 24 ∨ T = 25 ∨ T = 45) (q : Option Addr) (n c : Nat) (hv : v = .slice q n c) (ho : o.op = .store T (.tmp t) (.tmp u)) (hd : o.dst = none) (h1 : a.tmps[t]? = some (.pointer (some ad))) (h2 : a.tmps[u]? = some v) (hc : w.cell? ad = some v0) (hf : w.frozen? ad = false)
    (h : K a (w.setCell ad v)) : Oper.wp Try.prog o a w K Q := by
  subst hv
  obtain ⟨d, op, ty, ps, af, gd⟩ := o
  cases ho
  cases hd
  unfold Oper.wp
  rcases hT with rfl | rfl | rfl | rfl | rfl <;> (simp [go_sem, h1, h2, hc, hf, Oper.upon]; exact h)
theorem cut_known (t : Nat) (ts : Array TypeId) (s y : Bs) (ho : o.op = .call { callee := .value (.func 7), args := #[.tmp t], argTypes := ts }) (h1 : a.tmps[t]? = some (.string ⟨s.toArray⟩)) (hy : cutM s = y)
    (h : K (a.put o.dst (.string ⟨y.toArray⟩)) w) : Oper.wp Try.prog o a w K Q := by
  obtain ⟨d, op, ty, ps, af, gd⟩ := o
  cases ho
  unfold Oper.wp
  simp [go_sem, Oper.upon, h1]
  refine (cut_calls s w).mono ?_
  rintro e w' ⟨rfl, rfl⟩
  rw [hy]
  exact h
theorem bd_usr (t u : Nat) (x y : ByteArray) (ho : o.op = .build 55 #[(0, .tmp t), (1, .tmp u)]) (h1 : a.tmps[t]? = some (.string x)) (h2 : a.tmps[u]? = some (.string y)) (h : K (a.put o.dst (.agg #[.string x, .string y])) w) : Oper.wp Try.prog o a w K Q := by
  obtain ⟨d, op, ty, ps, af, gd⟩ := o
  cases ho
  unfold Oper.wp
  simp [go_sem, h1, h2, Oper.upon]
  exact h
theorem bd_acc (t u r : Nat) (x y : ByteArray) (z : Int) (ho : o.op = .build 50 #[(0, .tmp t), (1, .tmp u), (2, .tmp r)]) (h1 : a.tmps[t]? = some (.string x)) (h2 : a.tmps[u]? = some (.string y)) (h3 : a.tmps[r]? = some (.int .i64 z)) (h : K (a.put o.dst (.agg #[.string x, .string y, .int .i64 z])) w) : Oper.wp Try.prog o a w K Q := by
  obtain ⟨d, op, ty, ps, af, gd⟩ := o
  cases ho
  unfold Oper.wp
  simp [go_sem, h1, h2, h3, Oper.upon]
  exact h
theorem bs_usr (t : Nat) (x y : Value) (ho : o.op = .buildSlice 24 1 #[(0, .tmp t)]) (h1 : a.tmps[t]? = some (.agg #[x, y])) (h : K (a.put o.dst (.slice (some ⟨w.heap.size, 0, none⟩) 1 1)) (w.alloc (.cells #[x, y] 55))) : Oper.wp Try.prog o a w K Q := by
  obtain ⟨d, op, ty, ps, af, gd⟩ := o
  cases ho
  unfold Oper.wp
  simp [go_sem, h1, Oper.upon]
  exact h
theorem bs_acc (t : Nat) (x y z : Value) (ho : o.op = .buildSlice 25 1 #[(0, .tmp t)]) (h1 : a.tmps[t]? = some (.agg #[x, y, z])) (h : K (a.put o.dst (.slice (some ⟨w.heap.size, 0, none⟩) 1 1)) (w.alloc (.cells #[x, y, z] 50))) : Oper.wp Try.prog o a w K Q := by
  obtain ⟨d, op, ty, ps, af, gd⟩ := o
  cases ho
  unfold Oper.wp
  simp [go_sem, h1, Oper.upon]
  exact h
theorem bs_str (t : Nat) (x : ByteArray) (ho : o.op = .buildSlice 45 1 #[(0, .tmp t)]) (h1 : a.tmps[t]? = some (.string x)) (h : K (a.put o.dst (.slice (some ⟨w.heap.size, 0, none⟩) 1 1)) (w.alloc (.cells #[.string x] 9))) : Oper.wp Try.prog o a w K Q := by
  obtain ⟨d, op, ty, ps, af, gd⟩ := o
  cases ho
  unfold Oper.wp
  simp [go_sem, h1, Oper.upon]
  exact h
theorem ld_con (t g of : Nat) (x : Cn) (ho : o.op = .load 47 (.tmp t)) (h1 : a.tmps[t]? = some (.pointer (some ⟨g, of, none⟩))) (hat : At10 w g of x) (h : K (a.put o.dst (cnV x)) w) : Oper.wp Try.prog o a w K Q := by
  obtain ⟨c0, c1, c2, c3, c4, c5, c6, c7, c8, c9⟩ := hat
  obtain ⟨d, op, ty, ps, af, gd⟩ := o
  cases ho
  unfold Oper.wp
  unfold cnV at h
  simp [go_sem, h1, c0, c1, c2, c3, c4, c5, c6, c7, c8, c9, Oper.upon]
  exact h
theorem bs_con (t : Nat) (x : Cn) (ho : o.op = .buildSlice 22 1 #[(0, .tmp t)]) (h1 : a.tmps[t]? = some (cnV x)) (h : K (a.put o.dst (.slice (some ⟨w.heap.size, 0, none⟩) 1 1)) (w.alloc (.cells #[.string ⟨x.name.toArray⟩, .int .i64 x.kind, .int .i64 x.lines, .int .i64 x.bytes, .int .i64 x.gens, .int .i64 x.size, .int .i64 x.base, .int .i64 x.cap, .int .i64 x.jit, .string ⟨x.init.toArray⟩] 47))) : Oper.wp Try.prog o a w K Q := by
  obtain ⟨d, op, ty, ps, af, gd⟩ := o
  cases ho
  unfold Oper.wp
  unfold cnV at h1
  simp [go_sem, h1, Oper.upon]
  exact h
end
end Go.Proofs.Ytomnkmcabkoagaa.Rgt
