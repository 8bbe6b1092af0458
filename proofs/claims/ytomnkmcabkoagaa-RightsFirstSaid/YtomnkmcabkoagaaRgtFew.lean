/-
  Layer 16 (rights): the law's Few.
-/
import Derived.Test.YtomnkmcabkoagaaRgtFewO
import Derived.Test.YtomnkmcabkoagaaRgtArg
namespace Go.Proofs.Ytomnkmcabkoagaa.Rgt
open Go.RowKit Go.Proofs.Ytomnkmcabkoagaa.Own Go.Proofs.Ytomnkmcabkoagaa.Rw Go.Proofs.Ytomnkmcabkoagaa.Tree Go.Proofs.Ytomnkmcabkoagaa.Conf

theorem info_con : (Try.prog.info? 47).map (fun i => (i.zero, i.size, i.bytes)) = some (some (.agg #[.string ⟨#[]⟩, .int .i64 0, .int .i64 0, .int .i64 0, .int .i64 0, .int .i64 0, .int .i64 0, .int .i64 0, .int .i64 0, .string ⟨#[]⟩]), 10, 96) := by kernel_rfl
theorem info_usr : (Try.prog.info? 55).map (fun i => (i.zero, i.size, i.bytes)) = some (some (.agg #[.string ⟨#[]⟩, .string ⟨#[]⟩]), 2, 32) := by kernel_rfl
theorem info_grp : (Try.prog.info? 53).map (fun i => (i.zero, i.size, i.bytes)) = some (some (.agg #[.string ⟨#[]⟩, .slice none 0 0]), 2, 40) := by kernel_rfl
theorem info_acc : (Try.prog.info? 50).map (fun i => (i.zero, i.size, i.bytes)) = some (some (.agg #[.string ⟨#[]⟩, .string ⟨#[]⟩, .int .i64 0]), 3, 40) := by kernel_rfl
theorem info_str : (Try.prog.info? 9).map (fun i => (i.zero, i.size, i.bytes)) = some (some (.string ⟨#[]⟩), 1, 16) := by kernel_rfl
theorem new_news {w : World} {g : Nat} {cs : List Value} {T : TypeId} (h : w.heap[g]? = some (.cells cs.toArray T (0, 0))) : ∀ j u, cs[j]? = some u → w.cell? ((⟨g, 0, none⟩ : Addr).add j) = some u := by
  intro j u hu
  rw [add0, at_cell h, List.getElem?_toArray, hu]
theorem step_cut {ops : Array Oper} {o : Oper} {a : Act} {w : World} {K : Act → World → Prop} {Q : Exit → Act → World → Prop} {E : Prop} (hgd : o.guard = none) (t : Nat) (ts : Array TypeId)
    (ho : o.op = .call { callee := .value (.func 7), args := #[.tmp t], argTypes := ts }) (s y : Bs) (h1 : a.tmps[t]? = some (.string ⟨s.toArray⟩)) (hy : cutM s = y)
    (h : K (a.put o.dst (.string ⟨y.toArray⟩)) w) : if Region.wanted o (yielded ops a.tmps) = true then Oper.wp Try.prog o a w K Q else E := by
  have hw : Region.wanted o (yielded ops a.tmps) = true := by simp [Region.wanted, hgd]
  rw [if_pos hw]
  obtain ⟨d, op, ty, ps, af, gd⟩ := o
  cases ho
  unfold Oper.wp
  simp [go_sem, Oper.upon, h1]
  refine (cut_calls s w).mono ?_
  rintro e w' ⟨rfl, rfl⟩
  rw [hy]
  exact h
/-- a group under way, in the block bg: its name, its patterns in a row behind W5 -/
def Gp (W5 w2 : World) (bg : Nat) (z : Bs) (m : Nat) : Prop := ∃ vp qs, w2.heap[bg]? = some (.cells #[.string ⟨z.toArray⟩, vp] 53 (0, 0)) ∧ Out (fun k => k = bg) W5 w2 ∧ w2.ownsRow W5.heap.size 9 1 vp qs.length (strs qs) ∧ qs.length ≤ m ∧ ∀ p ∈ qs, p.length ≤ 40
theorem gp_cell {W5 w2 wa W2 : World} {bg : Nat} {z : Bs} {v : Value} {n : Nat} {xs : List Value} (gN : w2.heap[bg]? = some (.cells #[.string ⟨z.toArray⟩, v] 53 (0, 0))) (gR : w2.ownsRow W5.heap.size 9 1 v n xs) (ha : Below w2.heap.size w2 wa) (grow : wa.grownBy W2 v.ownBlock) :
    W2.cell? ⟨bg, 1, none⟩ = some v ∧ W2.frozen? ⟨bg, 1, none⟩ = false := by
  have ho : Out (fun k => v.ownBlock = some k) w2 W2 := (Out.ofNew (S := fun k => v.ownBlock = some k) ha).trans (grown_out grow) fun _ _ e => e
  have := ho.at_ gN (own_type gR gN (by decide))
  exact ⟨by rw [at_cell this]; rfl, at_frozen this _⟩
theorem gp_step {W5 w2 wa W2 : World} {bg kk qn : Nat} {z y : Bs} {v v' : Value} {qs : List Bs} (hqn : qn = qs.length) (gN : w2.heap[bg]? = some (.cells #[.string ⟨z.toArray⟩, v] 53 (0, 0))) (gO : Out (fun k => k = bg) W5 w2) (gR : w2.ownsRow W5.heap.size 9 1 v qn (strs qs)) (gl : qn ≤ kk) (gA : ∀ p ∈ qs, p.length ≤ 40) (hy : y.length ≤ 40) (hbg : bg < W5.heap.size)
    (ha : Below w2.heap.size w2 wa) (own2 : W2.ownsRow W5.heap.size 9 1 v' (qn + 1) (strs qs ++ [.string ⟨y.toArray⟩])) (grow : wa.grownBy W2 v.ownBlock) : Gp W5 (W2.setCell ⟨bg, 1, none⟩ v') bg z (kk + 1) := by
  have ho : Out (fun k => v.ownBlock = some k) w2 W2 := (Out.ofNew (S := fun k => v.ownBlock = some k) ha).trans (grown_out grow) fun _ _ e => e
  have gN2 := ho.at_ gN (own_type gR gN (by decide))
  have os : Out (fun k => k = bg) W2 (W2.setCell ⟨bg, 1, none⟩ v') := Own.Out.setCell (S := fun k => k = bg) (Out.refl _ _) (p := ⟨bg, 1, none⟩) (fun _ => rfl) v'
  refine ⟨v', qs ++ [y], ?_, ?_, ?_, by rw [List.length_append, List.length_singleton]; omega, fun p hp => (List.mem_append.1 hp).elim (gA p) fun hp => by rw [List.mem_singleton.1 hp]; exact hy⟩
  · rw [at_set gN2, List.setIfInBounds_toArray]; rfl
  · exact (gO.trans ho fun i hi e => absurd (own_lt gR e).1 (by omega)).trans os fun _ _ e => e
  · rw [List.length_append, List.length_singleton, strs_app, ← hqn]
    exact own_out own2 os fun k e e2 => by have := (own_lt own2 e).1; omega
theorem brk_at {wr : World} {b : Nat} {v0 v1 v2 v3 : Value} {b0 b1 b2 b3 b4 b5 b6 b7 b8 b9 : Bs} (N : wr.heap[b]? = some (.cells #[v0, v1, v2, v3, .string ⟨b0.toArray⟩, .string ⟨b1.toArray⟩, .string ⟨b2.toArray⟩, .string ⟨b3.toArray⟩, .string ⟨b4.toArray⟩, .string ⟨b5.toArray⟩, .string ⟨b6.toArray⟩, .string ⟨b7.toArray⟩, .string ⟨b8.toArray⟩, .string ⟨b9.toArray⟩] 28 (0, 0))) {k : Nat} (hk : k < 10) : ∃ s : Bs, wr.cell? ⟨b, 4 + k, none⟩ = some (.string ⟨s.toArray⟩) := by
  match k, hk with
  | 0, _ => exact ⟨_, at_cell N 4⟩
  | 1, _ => exact ⟨_, at_cell N 5⟩
  | 2, _ => exact ⟨_, at_cell N 6⟩
  | 3, _ => exact ⟨_, at_cell N 7⟩
  | 4, _ => exact ⟨_, at_cell N 8⟩
  | 5, _ => exact ⟨_, at_cell N 9⟩
  | 6, _ => exact ⟨_, at_cell N 10⟩
  | 7, _ => exact ⟨_, at_cell N 11⟩
  | 8, _ => exact ⟨_, at_cell N 12⟩
  | 9, _ => exact ⟨_, at_cell N 13⟩
theorem cut_len (s : Bs) : (cutM s).length ≤ 40 := by unfold cutM; simp; omega
set_option maxRecDepth 100000 in
theorem wv19_fa_apiConf_2 {o : Oper} {a : Act} {w : World} {K : Act → World → Prop} {Q : Exit → Act → World → Prop} (t b of : Nat) (ho : o.op = .fieldAddr 28 (.tmp t) 2) (h1 : a.tmps[t]? = some (.pointer (some ⟨b, of, none⟩))) (h : K (a.put o.dst (.pointer (some ⟨b, of + 2, none⟩))) w) : Oper.wp Try.prog o a w K Q := by
  obtain ⟨d, op, ty, ps, af, gd⟩ := o
  cases ho
  unfold Oper.wp
  simp [go_sem, h1, Oper.upon]
  exact h
set_option maxRecDepth 100000 in
theorem wv19_ld_slapiUser {o : Oper} {a : Act} {w : World} {K : Act → World → Prop} {Q : Exit → Act → World → Prop} (t : Nat) (ad : Addr) (v : Value) (ho : o.op = .load 24 (.tmp t)) (h1 : a.tmps[t]? = some (.pointer (some ad))) (hc : w.cell? ad = some v) (h : K (a.put o.dst v) w) : Oper.wp Try.prog o a w K Q := by
  obtain ⟨d, op, ty, ps, af, gd⟩ := o
  cases ho
  unfold Oper.wp
  simp [go_sem, h1, hc, Oper.upon]
  exact h
set_option maxRecDepth 100000 in
theorem wv19_move {o : Oper} {a : Act} {w : World} {K : Act → World → Prop} {Q : Exit → Act → World → Prop} (t : Nat) (v : Value) (ho : o.op = .move (.tmp t)) (h1 : a.tmps[t]? = some v) (h : K (a.put o.dst v) w) : Oper.wp Try.prog o a w K Q := by
  obtain ⟨d, op, ty, ps, af, gd⟩ := o
  cases ho
  unfold Oper.wp
  simp [go_sem, h1, Oper.upon]
  exact h
set_option maxRecDepth 100000 in
theorem wv19_ix_slapiUser {o : Oper} {a : Act} {w : World} {K : Act → World → Prop} {Q : Exit → Act → World → Prop} (t u g of n c i : Nat) (ho : o.op = .indexAddr 24 (.tmp t) (.tmp u)) (h1 : a.tmps[t]? = some (.slice (some ⟨g, of, none⟩) n c)) (h2 : a.tmps[u]? = some (.int .i64 i)) (hi : i < n) (h : K (a.put o.dst (.pointer (some ⟨g, of + i * 2, none⟩))) w) : Oper.wp Try.prog o a w K Q := by
  obtain ⟨d, op, ty, ps, af, gd⟩ := o
  cases ho
  unfold Oper.wp
  have hi2 : (i : Int) < (n : Int) := by omega
  simp [go_sem, h1, h2, hi2, Oper.upon]
  exact h
set_option maxRecDepth 100000 in
theorem wv19_fa_apiUser_0 {o : Oper} {a : Act} {w : World} {K : Act → World → Prop} {Q : Exit → Act → World → Prop} (t b of : Nat) (ho : o.op = .fieldAddr 55 (.tmp t) 0) (h1 : a.tmps[t]? = some (.pointer (some ⟨b, of, none⟩))) (h : K (a.put o.dst (.pointer (some ⟨b, of + 0, none⟩))) w) : Oper.wp Try.prog o a w K Q := by
  obtain ⟨d, op, ty, ps, af, gd⟩ := o
  cases ho
  unfold Oper.wp
  simp [go_sem, h1, Oper.upon]
  exact h
set_option maxRecDepth 100000 in
theorem wv19_ld_string {o : Oper} {a : Act} {w : World} {K : Act → World → Prop} {Q : Exit → Act → World → Prop} (t : Nat) (ad : Addr) (v : Value) (ho : o.op = .load 9 (.tmp t)) (h1 : a.tmps[t]? = some (.pointer (some ad))) (hc : w.cell? ad = some v) (h : K (a.put o.dst v) w) : Oper.wp Try.prog o a w K Q := by
  obtain ⟨d, op, ty, ps, af, gd⟩ := o
  cases ho
  unfold Oper.wp
  simp [go_sem, h1, hc, Oper.upon]
  exact h
set_option maxRecDepth 100000 in
theorem wv19_fa_apiUser_1 {o : Oper} {a : Act} {w : World} {K : Act → World → Prop} {Q : Exit → Act → World → Prop} (t b of : Nat) (ho : o.op = .fieldAddr 55 (.tmp t) 1) (h1 : a.tmps[t]? = some (.pointer (some ⟨b, of, none⟩))) (h : K (a.put o.dst (.pointer (some ⟨b, of + 1, none⟩))) w) : Oper.wp Try.prog o a w K Q := by
  obtain ⟨d, op, ty, ps, af, gd⟩ := o
  cases ho
  unfold Oper.wp
  simp [go_sem, h1, Oper.upon]
  exact h
set_option maxRecDepth 100000 in
theorem wv23_fa_apiConf_3 {o : Oper} {a : Act} {w : World} {K : Act → World → Prop} {Q : Exit → Act → World → Prop} (t b of : Nat) (ho : o.op = .fieldAddr 28 (.tmp t) 3) (h1 : a.tmps[t]? = some (.pointer (some ⟨b, of, none⟩))) (h : K (a.put o.dst (.pointer (some ⟨b, of + 3, none⟩))) w) : Oper.wp Try.prog o a w K Q := by
  obtain ⟨d, op, ty, ps, af, gd⟩ := o
  cases ho
  unfold Oper.wp
  simp [go_sem, h1, Oper.upon]
  exact h
set_option maxRecDepth 100000 in
theorem wv23_ld_slapiAccess {o : Oper} {a : Act} {w : World} {K : Act → World → Prop} {Q : Exit → Act → World → Prop} (t : Nat) (ad : Addr) (v : Value) (ho : o.op = .load 25 (.tmp t)) (h1 : a.tmps[t]? = some (.pointer (some ad))) (hc : w.cell? ad = some v) (h : K (a.put o.dst v) w) : Oper.wp Try.prog o a w K Q := by
  obtain ⟨d, op, ty, ps, af, gd⟩ := o
  cases ho
  unfold Oper.wp
  simp [go_sem, h1, hc, Oper.upon]
  exact h
set_option maxRecDepth 100000 in
theorem wv23_move {o : Oper} {a : Act} {w : World} {K : Act → World → Prop} {Q : Exit → Act → World → Prop} (t : Nat) (v : Value) (ho : o.op = .move (.tmp t)) (h1 : a.tmps[t]? = some v) (h : K (a.put o.dst v) w) : Oper.wp Try.prog o a w K Q := by
  obtain ⟨d, op, ty, ps, af, gd⟩ := o
  cases ho
  unfold Oper.wp
  simp [go_sem, h1, Oper.upon]
  exact h
set_option maxRecDepth 100000 in
theorem wv23_ix_slapiAccess {o : Oper} {a : Act} {w : World} {K : Act → World → Prop} {Q : Exit → Act → World → Prop} (t u g of n c i : Nat) (ho : o.op = .indexAddr 25 (.tmp t) (.tmp u)) (h1 : a.tmps[t]? = some (.slice (some ⟨g, of, none⟩) n c)) (h2 : a.tmps[u]? = some (.int .i64 i)) (hi : i < n) (h : K (a.put o.dst (.pointer (some ⟨g, of + i * 3, none⟩))) w) : Oper.wp Try.prog o a w K Q := by
  obtain ⟨d, op, ty, ps, af, gd⟩ := o
  cases ho
  unfold Oper.wp
  have hi2 : (i : Int) < (n : Int) := by omega
  simp [go_sem, h1, h2, hi2, Oper.upon]
  exact h
set_option maxRecDepth 100000 in
theorem wv23_fa_apiAccess_0 {o : Oper} {a : Act} {w : World} {K : Act → World → Prop} {Q : Exit → Act → World → Prop} (t b of : Nat) (ho : o.op = .fieldAddr 50 (.tmp t) 0) (h1 : a.tmps[t]? = some (.pointer (some ⟨b, of, none⟩))) (h : K (a.put o.dst (.pointer (some ⟨b, of + 0, none⟩))) w) : Oper.wp Try.prog o a w K Q := by
  obtain ⟨d, op, ty, ps, af, gd⟩ := o
  cases ho
  unfold Oper.wp
  simp [go_sem, h1, Oper.upon]
  exact h
set_option maxRecDepth 100000 in
theorem wv23_ld_string {o : Oper} {a : Act} {w : World} {K : Act → World → Prop} {Q : Exit → Act → World → Prop} (t : Nat) (ad : Addr) (v : Value) (ho : o.op = .load 9 (.tmp t)) (h1 : a.tmps[t]? = some (.pointer (some ad))) (hc : w.cell? ad = some v) (h : K (a.put o.dst v) w) : Oper.wp Try.prog o a w K Q := by
  obtain ⟨d, op, ty, ps, af, gd⟩ := o
  cases ho
  unfold Oper.wp
  simp [go_sem, h1, hc, Oper.upon]
  exact h
set_option maxRecDepth 100000 in
theorem wv23_fa_apiAccess_1 {o : Oper} {a : Act} {w : World} {K : Act → World → Prop} {Q : Exit → Act → World → Prop} (t b of : Nat) (ho : o.op = .fieldAddr 50 (.tmp t) 1) (h1 : a.tmps[t]? = some (.pointer (some ⟨b, of, none⟩))) (h : K (a.put o.dst (.pointer (some ⟨b, of + 1, none⟩))) w) : Oper.wp Try.prog o a w K Q := by
  obtain ⟨d, op, ty, ps, af, gd⟩ := o
  cases ho
  unfold Oper.wp
  simp [go_sem, h1, Oper.upon]
  exact h
set_option maxRecDepth 100000 in
theorem wv23_fa_apiAccess_2 {o : Oper} {a : Act} {w : World} {K : Act → World → Prop} {Q : Exit → Act → World → Prop} (t b of : Nat) (ho : o.op = .fieldAddr 50 (.tmp t) 2) (h1 : a.tmps[t]? = some (.pointer (some ⟨b, of, none⟩))) (h : K (a.put o.dst (.pointer (some ⟨b, of + 2, none⟩))) w) : Oper.wp Try.prog o a w K Q := by
  obtain ⟨d, op, ty, ps, af, gd⟩ := o
  cases ho
  unfold Oper.wp
  simp [go_sem, h1, Oper.upon]
  exact h
set_option maxRecDepth 100000 in
theorem wv23_ld_int {o : Oper} {a : Act} {w : World} {K : Act → World → Prop} {Q : Exit → Act → World → Prop} (t : Nat) (ad : Addr) (v : Value) (ho : o.op = .load 3 (.tmp t)) (h1 : a.tmps[t]? = some (.pointer (some ad))) (hc : w.cell? ad = some v) (h : K (a.put o.dst v) w) : Oper.wp Try.prog o a w K Q := by
  obtain ⟨d, op, ty, ps, af, gd⟩ := o
  cases ho
  unfold Oper.wp
  simp [go_sem, h1, hc, Oper.upon]
  exact h
set_option maxRecDepth 100000 in
theorem wv6_fa_apiConf_0 {o : Oper} {a : Act} {w : World} {K : Act → World → Prop} {Q : Exit → Act → World → Prop} (t b of : Nat) (ho : o.op = .fieldAddr 28 (.tmp t) 0) (h1 : a.tmps[t]? = some (.pointer (some ⟨b, of, none⟩))) (h : K (a.put o.dst (.pointer (some ⟨b, of + 0, none⟩))) w) : Oper.wp Try.prog o a w K Q := by
  obtain ⟨d, op, ty, ps, af, gd⟩ := o
  cases ho
  unfold Oper.wp
  simp [go_sem, h1, Oper.upon]
  exact h
set_option maxRecDepth 100000 in
theorem wv6_ld_slapiConsole {o : Oper} {a : Act} {w : World} {K : Act → World → Prop} {Q : Exit → Act → World → Prop} (t : Nat) (ad : Addr) (v : Value) (ho : o.op = .load 22 (.tmp t)) (h1 : a.tmps[t]? = some (.pointer (some ad))) (hc : w.cell? ad = some v) (h : K (a.put o.dst v) w) : Oper.wp Try.prog o a w K Q := by
  obtain ⟨d, op, ty, ps, af, gd⟩ := o
  cases ho
  unfold Oper.wp
  simp [go_sem, h1, hc, Oper.upon]
  exact h
set_option maxRecDepth 100000 in
theorem wv6_move {o : Oper} {a : Act} {w : World} {K : Act → World → Prop} {Q : Exit → Act → World → Prop} (t : Nat) (v : Value) (ho : o.op = .move (.tmp t)) (h1 : a.tmps[t]? = some v) (h : K (a.put o.dst v) w) : Oper.wp Try.prog o a w K Q := by
  obtain ⟨d, op, ty, ps, af, gd⟩ := o
  cases ho
  unfold Oper.wp
  simp [go_sem, h1, Oper.upon]
  exact h
set_option maxRecDepth 100000 in
theorem wv6_ix_slapiConsole {o : Oper} {a : Act} {w : World} {K : Act → World → Prop} {Q : Exit → Act → World → Prop} (t u g of n c i : Nat) (ho : o.op = .indexAddr 22 (.tmp t) (.tmp u)) (h1 : a.tmps[t]? = some (.slice (some ⟨g, of, none⟩) n c)) (h2 : a.tmps[u]? = some (.int .i64 i)) (hi : i < n) (h : K (a.put o.dst (.pointer (some ⟨g, of + i * 10, none⟩))) w) : Oper.wp Try.prog o a w K Q := by
  obtain ⟨d, op, ty, ps, af, gd⟩ := o
  cases ho
  unfold Oper.wp
  have hi2 : (i : Int) < (n : Int) := by omega
  simp [go_sem, h1, h2, hi2, Oper.upon]
  exact h
set_option maxRecDepth 100000 in
theorem wv14_fa_apiGroup_1 {o : Oper} {a : Act} {w : World} {K : Act → World → Prop} {Q : Exit → Act → World → Prop} (t b of : Nat) (ho : o.op = .fieldAddr 53 (.tmp t) 1) (h1 : a.tmps[t]? = some (.pointer (some ⟨b, of, none⟩))) (h : K (a.put o.dst (.pointer (some ⟨b, of + 1, none⟩))) w) : Oper.wp Try.prog o a w K Q := by
  obtain ⟨d, op, ty, ps, af, gd⟩ := o
  cases ho
  unfold Oper.wp
  simp [go_sem, h1, Oper.upon]
  exact h
set_option maxRecDepth 100000 in
theorem wv14_ld_slstring {o : Oper} {a : Act} {w : World} {K : Act → World → Prop} {Q : Exit → Act → World → Prop} (t : Nat) (ad : Addr) (v : Value) (ho : o.op = .load 45 (.tmp t)) (h1 : a.tmps[t]? = some (.pointer (some ad))) (hc : w.cell? ad = some v) (h : K (a.put o.dst v) w) : Oper.wp Try.prog o a w K Q := by
  obtain ⟨d, op, ty, ps, af, gd⟩ := o
  cases ho
  unfold Oper.wp
  simp [go_sem, h1, hc, Oper.upon]
  exact h
set_option maxRecDepth 100000 in
theorem wv14_fa_apiConf_1 {o : Oper} {a : Act} {w : World} {K : Act → World → Prop} {Q : Exit → Act → World → Prop} (t b of : Nat) (ho : o.op = .fieldAddr 28 (.tmp t) 1) (h1 : a.tmps[t]? = some (.pointer (some ⟨b, of, none⟩))) (h : K (a.put o.dst (.pointer (some ⟨b, of + 1, none⟩))) w) : Oper.wp Try.prog o a w K Q := by
  obtain ⟨d, op, ty, ps, af, gd⟩ := o
  cases ho
  unfold Oper.wp
  simp [go_sem, h1, Oper.upon]
  exact h
set_option maxRecDepth 100000 in
theorem wv14_ld_slapiGroup {o : Oper} {a : Act} {w : World} {K : Act → World → Prop} {Q : Exit → Act → World → Prop} (t : Nat) (ad : Addr) (v : Value) (ho : o.op = .load 23 (.tmp t)) (h1 : a.tmps[t]? = some (.pointer (some ad))) (hc : w.cell? ad = some v) (h : K (a.put o.dst v) w) : Oper.wp Try.prog o a w K Q := by
  obtain ⟨d, op, ty, ps, af, gd⟩ := o
  cases ho
  unfold Oper.wp
  simp [go_sem, h1, hc, Oper.upon]
  exact h
set_option maxRecDepth 100000 in
theorem wv14_move {o : Oper} {a : Act} {w : World} {K : Act → World → Prop} {Q : Exit → Act → World → Prop} (t : Nat) (v : Value) (ho : o.op = .move (.tmp t)) (h1 : a.tmps[t]? = some v) (h : K (a.put o.dst v) w) : Oper.wp Try.prog o a w K Q := by
  obtain ⟨d, op, ty, ps, af, gd⟩ := o
  cases ho
  unfold Oper.wp
  simp [go_sem, h1, Oper.upon]
  exact h
set_option maxRecDepth 100000 in
theorem wv14_ix_slapiGroup {o : Oper} {a : Act} {w : World} {K : Act → World → Prop} {Q : Exit → Act → World → Prop} (t u g of n c i : Nat) (ho : o.op = .indexAddr 23 (.tmp t) (.tmp u)) (h1 : a.tmps[t]? = some (.slice (some ⟨g, of, none⟩) n c)) (h2 : a.tmps[u]? = some (.int .i64 i)) (hi : i < n) (h : K (a.put o.dst (.pointer (some ⟨g, of + i * 2, none⟩))) w) : Oper.wp Try.prog o a w K Q := by
  obtain ⟨d, op, ty, ps, af, gd⟩ := o
  cases ho
  unfold Oper.wp
  have hi2 : (i : Int) < (n : Int) := by omega
  simp [go_sem, h1, h2, hi2, Oper.upon]
  exact h
set_option maxRecDepth 100000 in
theorem wv14_ix_slstring {o : Oper} {a : Act} {w : World} {K : Act → World → Prop} {Q : Exit → Act → World → Prop} (t u g of n c i : Nat) (ho : o.op = .indexAddr 45 (.tmp t) (.tmp u)) (h1 : a.tmps[t]? = some (.slice (some ⟨g, of, none⟩) n c)) (h2 : a.tmps[u]? = some (.int .i64 i)) (hi : i < n) (h : K (a.put o.dst (.pointer (some ⟨g, of + i, none⟩))) w) : Oper.wp Try.prog o a w K Q := by
  obtain ⟨d, op, ty, ps, af, gd⟩ := o
  cases ho
  unfold Oper.wp
  have hi2 : (i : Int) < (n : Int) := by omega
  simp [go_sem, h1, h2, hi2, Oper.upon]
  exact h
set_option maxRecDepth 100000 in
theorem wv14_ld_string {o : Oper} {a : Act} {w : World} {K : Act → World → Prop} {Q : Exit → Act → World → Prop} (t : Nat) (ad : Addr) (v : Value) (ho : o.op = .load 9 (.tmp t)) (h1 : a.tmps[t]? = some (.pointer (some ad))) (hc : w.cell? ad = some v) (h : K (a.put o.dst v) w) : Oper.wp Try.prog o a w K Q := by
  obtain ⟨d, op, ty, ps, af, gd⟩ := o
  cases ho
  unfold Oper.wp
  simp [go_sem, h1, hc, Oper.upon]
  exact h

def FwE (W wr : World) (b : Nat) (m0 m1 m2 m3 : Nat) : Prop := ∃ v0 v1 v2 v3 bs c, Fw W wr b v0 v1 v2 v3 bs c ∧ Few c m0 m1 m2 m3
theorem FwE.mono {W wr : World} {b : Nat} {m0 m1 m2 m3 n0 n1 n2 n3 : Nat} (h : FwE W wr b m0 m1 m2 m3) (h0 : m0 ≤ n0) (h1 : m1 ≤ n1) (h2 : m2 ≤ n2) (h3 : m3 ≤ n3) : FwE W wr b n0 n1 n2 n3 := by
  obtain ⟨v0, v1, v2, v3, bs, c, h, g⟩ := h
  exact ⟨v0, v1, v2, v3, bs, c, h, g.mono h0 h1 h2 h3⟩
theorem Fw.res2 {W wr Y : World} {b : Nat} {v0 v1 v2 v3 : Value} {bs : List Bs} {c : Cf} {S : Nat → Prop} (h : Fw W wr b v0 v1 v2 v3 bs c) (ho : Out S wr Y) (hS : ∀ k, S k → k < W.heap.size) : CfR Y v0 v1 v2 v3 c := by
  obtain ⟨gs, g1, g2⟩ := h.grps
  obtain ⟨p1, k1, e1, r1⟩ := own_rd (own_out h.cons ho fun k e e2 => by have := (own_lt h.cons e).1; have := hS k e2; omega)
  obtain ⟨p2, k2, e2, r2⟩ := own_rd (own_out g1 ho fun k e e2 => by have := (own_lt g1 e).1; have := hS k e2; omega)
  obtain ⟨p3, k3, e3, r3⟩ := own_rd (own_out h.usrs ho fun k e e2 => by have := (own_lt h.usrs e).1; have := hS k e2; omega)
  obtain ⟨p4, k4, e4, r4⟩ := own_rd (own_out h.accs ho fun k e e2 => by have := (own_lt h.accs e).1; have := hS k e2; omega)
  exact ⟨⟨p1, k1, e1, r1⟩, ⟨p2, k2, gs, e2, r2, (g2.out ho fun k C fr hB hk e => by have := hS k e; omega).gs⟩, ⟨p3, k3, e3, r3⟩, ⟨p4, k4, e4, r4⟩⟩
def FewPost (w : World) (e : Ending) (w' : World) : Prop := ∃ v0 v1 v2 v3 d0 d1 d2 d3 d4 d5 d6 d7 d8 d9 c, e = .returned (confV v0 v1 v2 v3 d0 d1 d2 d3 d4 d5 d6 d7 d8 d9) ∧ (∀ Y, Out (fun k => k < w.heap.size) w' Y → CfR Y v0 v1 v2 v3 c) ∧ Few c 12 8 8 12 ∧ Below w.heap.size w w'
/-- the three boxes -/
structure Bx (w W : World) (A : Array Value) : Prop where
  nc : W.heap[w.heap.size]? = some (.cells A 28 (0, 0))
  nr : W.heap[w.heap.size + 1]? = some (.cells #[.slice none 0 0, .slice none 0 0, .slice none 0 0, .slice none 0 0, .string ⟨#[]⟩, .string ⟨#[]⟩, .string ⟨#[]⟩, .string ⟨#[]⟩, .string ⟨#[]⟩, .string ⟨#[]⟩, .string ⟨#[]⟩, .string ⟨#[]⟩, .string ⟨#[]⟩, .string ⟨#[]⟩] 28 (0, 0))
  no : W.heap[w.heap.size + 1 + 1]? = some (.cells #[.slice none 0 0, .slice none 0 0, .slice none 0 0, .slice none 0 0, .string ⟨#[]⟩, .string ⟨#[]⟩, .string ⟨#[]⟩, .string ⟨#[]⟩, .string ⟨#[]⟩, .string ⟨#[]⟩, .string ⟨#[]⟩, .string ⟨#[]⟩, .string ⟨#[]⟩, .string ⟨#[]⟩] 28 (0, 0))
  size : W.heap.size = w.heap.size + 1 + 1 + 1
  below : Below w.heap.size w W
theorem bx (w : World) (A : Array Value) : Bx w (((w.alloc (.cells A 28)).alloc (.cells #[.slice none 0 0, .slice none 0 0, .slice none 0 0, .slice none 0 0, .string ⟨#[]⟩, .string ⟨#[]⟩, .string ⟨#[]⟩, .string ⟨#[]⟩, .string ⟨#[]⟩, .string ⟨#[]⟩, .string ⟨#[]⟩, .string ⟨#[]⟩, .string ⟨#[]⟩, .string ⟨#[]⟩] 28)).alloc (.cells #[.slice none 0 0, .slice none 0 0, .slice none 0 0, .slice none 0 0, .string ⟨#[]⟩, .string ⟨#[]⟩, .string ⟨#[]⟩, .string ⟨#[]⟩, .string ⟨#[]⟩, .string ⟨#[]⟩, .string ⟨#[]⟩, .string ⟨#[]⟩, .string ⟨#[]⟩, .string ⟨#[]⟩] 28)) A :=
  ⟨at_old _ _ (at_old _ _ (at_new _ _)), at_old _ _ (at_newk _ _ (by simp)), at_newk _ _ (by simp), by simp, (((Below.refl _ _).alloc (Nat.le_refl _) _).alloc (by simp) _).alloc (by simp; omega) _⟩
set_option maxRecDepth 100000 in
set_option maxHeartbeats 80000000 in
theorem Few_calls (c : Cf) (p0 p1 p2 p3 : Option Addr) (n0 n1 n2 n3 k0 k1 k2 k3 : Nat) (b0 b1 b2 b3 b4 b5 b6 b7 b8 b9 : Bs) (w : World) (h : CfA w (.slice p0 n0 k0) (.slice p1 n1 k1) (.slice p2 n2 k2) (.slice p3 n3 k3) c) :
    Calls Try.prog 6 #[confV (.slice p0 n0 k0) (.slice p1 n1 k1) (.slice p2 n2 k2) (.slice p3 n3 k3) b0 b1 b2 b3 b4 b5 b6 b7 b8 b9] w (FewPost w) := by
  obtain ⟨i0, hi0, hz00, hz01, hz02⟩ := info_parts info_con
  obtain ⟨i1, hi1, hz10, hz11, hz12⟩ := info_parts info_grp
  obtain ⟨i2, hi2, hz20, hz21, hz22⟩ := info_parts info_usr
  obtain ⟨i3, hi3, hz30, hz31, hz32⟩ := info_parts info_acc
  obtain ⟨i4, hi4, hz40, hz41, hz42⟩ := info_parts info_str
  obtain ⟨_, _, e0, r0⟩ := h.cons
  obtain ⟨_, _, gs, e1, r1, rg⟩ := h.grps
  obtain ⟨_, _, e2, r2⟩ := h.usrs
  obtain ⟨_, _, e3, r3⟩ := h.accs
  obtain ⟨rfl, rfl, rfl⟩ := (by simpa using e0 : p0 = _ ∧ n0 = _ ∧ k0 = _)
  obtain ⟨rfl, rfl, rfl⟩ := (by simpa using e1 : p1 = _ ∧ n1 = _ ∧ k1 = _)
  obtain ⟨rfl, rfl, rfl⟩ := (by simpa using e2 : p2 = _ ∧ n2 = _ ∧ k2 = _)
  obtain ⟨rfl, rfl, rfl⟩ := (by simpa using e3 : p3 = _ ∧ n3 = _ ∧ k3 = _)
  have HR0 := Lib.hid r0
  have HR1 := Lib.hid r1
  have HRG := Lib.hid rg
  have HR2 := Lib.hid r2
  have HR3 := Lib.hid r3
  obtain ⟨n0, hn0⟩ : ∃ n, n = c.cons.length := ⟨_, rfl⟩
  obtain ⟨n1, hn1⟩ : ∃ n, n = c.grps.length := ⟨_, rfl⟩
  obtain ⟨n2, hn2⟩ : ∃ n, n = c.usrs.length := ⟨_, rfl⟩
  obtain ⟨n3, hn3⟩ : ∃ n, n = c.accs.length := ⟨_, rfl⟩
  rw [← hn0] at HR0 ⊢
  rw [← hn1] at HR1 ⊢
  rw [← hn2] at HR2 ⊢
  rw [← hn3] at HR3 ⊢
  have HN0 := Lib.hid hn0
  have HN1 := Lib.hid hn1
  have HN2 := Lib.hid hn2
  have HN3 := Lib.hid hn3
  clear hn0 hn1 hn2 hn3 e0 e1 e2 e3 r0 r1 rg r2 r3 h
  have HBX := Lib.hid (bx w #[.slice p0 n0 k0, .slice p1 n1 k1, .slice p2 n2 k2, .slice p3 n3 k3, .string ⟨b0.toArray⟩, .string ⟨b1.toArray⟩, .string ⟨b2.toArray⟩, .string ⟨b3.toArray⟩, .string ⟨b4.toArray⟩, .string ⟨b5.toArray⟩, .string ⟨b6.toArray⟩, .string ⟨b7.toArray⟩, .string ⟨b8.toArray⟩, .string ⟨b9.toArray⟩])
  unfold confV FewPost
  go_enter Try.func6, Try.ntmps6
  go_upto_region 1 with (fail)
  go_cut [3] (fun s3 wx => s3 = .pointer (some ⟨w.heap.size + 1 + 1, 0, none⟩) ∧ wx = (((w.alloc (.cells #[.slice p0 n0 k0, .slice p1 n1 k1, .slice p2 n2 k2, .slice p3 n3 k3, .string ⟨b0.toArray⟩, .string ⟨b1.toArray⟩, .string ⟨b2.toArray⟩, .string ⟨b3.toArray⟩, .string ⟨b4.toArray⟩, .string ⟨b5.toArray⟩, .string ⟨b6.toArray⟩, .string ⟨b7.toArray⟩, .string ⟨b8.toArray⟩, .string ⟨b9.toArray⟩] 28)).alloc (.cells #[.slice none 0 0, .slice none 0 0, .slice none 0 0, .slice none 0 0, .string ⟨#[]⟩, .string ⟨#[]⟩, .string ⟨#[]⟩, .string ⟨#[]⟩, .string ⟨#[]⟩, .string ⟨#[]⟩, .string ⟨#[]⟩, .string ⟨#[]⟩, .string ⟨#[]⟩, .string ⟨#[]⟩] 28)).alloc (.cells #[.slice none 0 0, .slice none 0 0, .slice none 0 0, .slice none 0 0, .string ⟨#[]⟩, .string ⟨#[]⟩, .string ⟨#[]⟩, .string ⟨#[]⟩, .string ⟨#[]⟩, .string ⟨#[]⟩, .string ⟨#[]⟩, .string ⟨#[]⟩, .string ⟨#[]⟩, .string ⟨#[]⟩] 28)))
  case first =>
    as_aux_lemma =>
    go_wp2_with fail
    go_meet
    exact ⟨rfl, rfl⟩
  obtain ⟨rfl, rfl⟩ := hcut
  generalize (((w.alloc (.cells #[.slice p0 n0 k0, .slice p1 n1 k1, .slice p2 n2 k2, .slice p3 n3 k3, .string ⟨b0.toArray⟩, .string ⟨b1.toArray⟩, .string ⟨b2.toArray⟩, .string ⟨b3.toArray⟩, .string ⟨b4.toArray⟩, .string ⟨b5.toArray⟩, .string ⟨b6.toArray⟩, .string ⟨b7.toArray⟩, .string ⟨b8.toArray⟩, .string ⟨b9.toArray⟩] 28)).alloc (.cells #[.slice none 0 0, .slice none 0 0, .slice none 0 0, .slice none 0 0, .string ⟨#[]⟩, .string ⟨#[]⟩, .string ⟨#[]⟩, .string ⟨#[]⟩, .string ⟨#[]⟩, .string ⟨#[]⟩, .string ⟨#[]⟩, .string ⟨#[]⟩, .string ⟨#[]⟩, .string ⟨#[]⟩] 28)).alloc (.cells #[.slice none 0 0, .slice none 0 0, .slice none 0 0, .slice none 0 0, .string ⟨#[]⟩, .string ⟨#[]⟩, .string ⟨#[]⟩, .string ⟨#[]⟩, .string ⟨#[]⟩, .string ⟨#[]⟩, .string ⟨#[]⟩, .string ⟨#[]⟩, .string ⟨#[]⟩, .string ⟨#[]⟩] 28)) = W at *
  have hWs := HBX.out.size
  have hF0 : FwE W W (w.heap.size + 1 + 1) 0 0 0 0 := ⟨_, _, _, _, List.replicate 10 [], empty, ⟨HBX.out.no, by omega, Out.refl _ _, rfl, World.ownsRow_nil _ _ _ _, ⟨[], World.ownsRow_nil _ _ _ _, .nil⟩, World.ownsRow_nil _ _ _ _, World.ownsRow_nil _ _ _ _⟩, few_nil⟩
  have HF0 := Lib.hid hF0
  clear hF0
  refine (‹∀ (a : Act) (w : World), Code.wp _ _ _ a w → _›) _ _ ?_
  refine wp_seq_k fun K1 hK1 => ?_
  go_cut [4] (fun _ wx => FwE W wx (w.heap.size + 1 + 1) 12 0 0 0)
  case first =>
    as_aux_lemma =>
    go_wp2_with fail
    go_loopw [4] (fun i wr => ∃ k : Nat, k ≤ 12 ∧ k ≤ n0 ∧ i = .int .i64 k ∧ FwE W wr (w.heap.size + 1 + 1) k 0 0 0) (fun i _ => 12 - (Conf.intOf i).toNat)
    case atStart => exact ⟨0, by omega, by omega, rfl, HF0.out⟩
    case round =>
      obtain ⟨k, hk12, hkn, rfl, v0, v1, v2, v3, bs, cf, hF, hfew⟩ := hrel
      rename World => wr
      have hsz := hF.out.size
      have HBW := Lib.hid (hF.out.below (B := w.heap.size) (by omega) fun q hq => by omega)
      have HBw := Lib.hid (HBX.out.below.trans HBW.out)
      have NC := Lib.hid (hF.out.at_ HBX.out.nc (by omega))
      obtain ⟨u0, m0, u1, m1, u2, m2, u3, m3, rfl, rfl, rfl, rfl⟩ := hF.shapes
      have HF := Lib.hid hF
      have HFEW := Lib.hid hfew
      have hblk := at_lt hF.blk
      by_cases hc : k < n0 ∧ k < 12
      · obtain ⟨hc0, hc1⟩ := hc
        have hl1 : k < c.cons.length := by rw [← HN0.out]; exact hc0
        have q1 : (k : Int) < (n0 : Int) := by omega
        have q2 : (k : Int) < 12 := by omega
        obtain ⟨g, o, rfl, hg, hkn, hat⟩ := con_at (HR0.out.below HBw.out) hl1
        have y1 := (at_cell NC.out 0 : _ = some (Value.slice (some ⟨g, o, none⟩) n0 k0))
        generalize c.cons[k] = x at *
        have HAT := Lib.hid hat
        have hlc := at_lt NC.out
        obtain ⟨s0, -, -, -, -, -, -, -, -, s9⟩ := hat
        have hcap := HR0.out.cap
        clear hl1 hF hfew
        by_cases hx1 : x.name.length ≤ 40
        · have q3 : (x.name.length : Int) ≤ 40 := by omega
          by_cases hx2 : x.init.length ≤ 300
          · have q4 : (x.init.length : Int) ≤ 300 := by omega
            have y0 := (at_cell HF.out.blk 0 : _ = some (Value.slice u0 cf.cons.length m0))
            have hown := HF.out.cons
            obtain ⟨nn, hnn⟩ : ∃ nn, nn = cf.cons.length := ⟨_, rfl⟩
            have HK := Lib.hid hnn
            have hle := HFEW.out.l0
            rw [← hnn] at hown y0 hle
            clear hnn
            have hBw : W.heap.size ≤ wr.heap.size := hsz
            have hdr := (Below.refl wr.heap.size wr).drew
            have hal := hdr.alloc (Nat.le_refl _) (.cells #[.string ⟨x.name.toArray⟩, .int .i64 x.kind, .int .i64 x.lines, .int .i64 x.bytes, .int .i64 x.gens, .int .i64 x.size, .int .i64 x.base, .int .i64 x.cap, .int .i64 x.jit, .string ⟨x.init.toArray⟩] 47)
            have HBE := Lib.hid (fun (w' : World) (h : w' = wr.drew ∨ w' = (wr.drew.alloc (.cells #[.string ⟨x.name.toArray⟩, .int .i64 x.kind, .int .i64 x.lines, .int .i64 x.bytes, .int .i64 x.gens, .int .i64 x.size, .int .i64 x.base, .int .i64 x.cap, .int .i64 x.jit, .string ⟨x.init.toArray⟩] 47))) => (h.elim (fun e => by rw [e]; exact hdr) (fun e => by rw [e]; exact hal) : Below wr.heap.size wr w'))
            have hownA : (wr.drew.alloc (.cells #[.string ⟨x.name.toArray⟩, .int .i64 x.kind, .int .i64 x.lines, .int .i64 x.bytes, .int .i64 x.gens, .int .i64 x.size, .int .i64 x.base, .int .i64 x.cap, .int .i64 x.jit, .string ⟨x.init.toArray⟩] 47)).ownsRow W.heap.size 47 10 (.slice u0 nn m0) nn (cf.cons.flatMap cnv) := World.ownsRow.alloc (w := wr.drew) hown _
            obtain ⟨g9, cap9, W2, hrun, own2, grow2, -, -⟩ := run_append_lies (P := Try.prog) (wr.drew.alloc (.cells #[.string ⟨x.name.toArray⟩, .int .i64 x.kind, .int .i64 x.lines, .int .i64 x.bytes, .int .i64 x.gens, .int .i64 x.size, .int .i64 x.base, .int .i64 x.cap, .int .i64 x.jit, .string ⟨x.init.toArray⟩] 47)) 22 22 W.heap.size 47 i0 _ 10 96 Try.underlying22 hi0 hz00 hz01 hz02 rfl (by decide) _ nn _ hownA ⟨wr.heap.size, 0, none⟩ 1 1 [.string ⟨x.name.toArray⟩, .int .i64 x.kind, .int .i64 x.lines, .int .i64 x.bytes, .int .i64 x.gens, .int .i64 x.size, .int .i64 x.base, .int .i64 x.cap, .int .i64 x.jit, .string ⟨x.init.toArray⟩] rfl (new_news (w := (wr.drew.alloc (.cells #[.string ⟨x.name.toArray⟩, .int .i64 x.kind, .int .i64 x.lines, .int .i64 x.bytes, .int .i64 x.gens, .int .i64 x.size, .int .i64 x.base, .int .i64 x.cap, .int .i64 x.jit, .string ⟨x.init.toArray⟩] 47))) (at_new wr.drew (.cells #[.string ⟨x.name.toArray⟩, .int .i64 x.kind, .int .i64 x.lines, .int .i64 x.bytes, .int .i64 x.gens, .int .i64 x.size, .int .i64 x.base, .int .i64 x.cap, .int .i64 x.jit, .string ⟨x.init.toArray⟩] 47))) (by simp [Value.oneCell']) (by omega) (by unfold maxLen; omega) (by omega) (by simp; omega) _ rfl
            obtain ⟨⟨zc, zf, -⟩, L8⟩ := HF.out.addC (v' := .slice (some ⟨g9, 0, none⟩) (nn + 1) cap9) x hal (by rw [HK.out] at own2; rw [HK.out]; exact own2) (by rw [HK.out] at grow2; exact grow2)
            have L8 := Lib.hid L8
            have HRUN := Lib.hid hrun
            clear own2 grow2 hownA hown hdr hal hrun
            have HFW := Lib.hid (HFEW.out.addC (x := x) hx1)
            clear hx1 hx2
            go_wp2_with fail
            refine Reg.wp_chain (by kernel_rfl) [some 40, some 41, some 42, some 43, some 44, some 45, some 46, some 47, some 48, some 49, none] [(.pointer (some ⟨w.heap.size + 1 + 1, 0 + 0, none⟩)), (.slice u0 nn m0), (.pointer (some ⟨w.heap.size, 0 + 0, none⟩)), (.slice (some ⟨g, o, none⟩) n0 k0), (.int .i64 k), (.pointer (some ⟨g, o + k * 10, none⟩)), (cnV x), (.slice (some ⟨wr.heap.size, 0, none⟩) 1 1), (.slice (some ⟨g9, 0, none⟩) (nn + 1) cap9), (.pointer (some ⟨w.heap.size + 1 + 1, 0 + 0, none⟩)), undef] 7 8 10 (wr.drew) ((wr.drew.alloc (.cells #[.string ⟨x.name.toArray⟩, .int .i64 x.kind, .int .i64 x.lines, .int .i64 x.bytes, .int .i64 x.gens, .int .i64 x.size, .int .i64 x.base, .int .i64 x.cap, .int .i64 x.jit, .string ⟨x.init.toArray⟩] 47))) (W2) (W2.setCell ⟨w.heap.size + 1 + 1, 0, none⟩ (.slice (some ⟨g9, 0, none⟩) (nn + 1) cap9)) [(40, 0), (41, 1), (42, 2), (43, 3), (44, 4), (45, 5), (46, 6), (47, 7), (48, 8), (49, 9)] (by kernel_rfl) (by kernel_rfl) (by kernel_rfl) (by decide) (by kernel_rfl) (by kernel_rfl) rfl ?_ ?_
            · intro ii op a' w' ho hdp hot hst
              match ii, ho, hdp, hot, hst with
              | 0, ho, hdp, hot, hst =>
                obtain rfl := Option.some.inj ho
                have e3 : a'.tmps[3]? = some (.pointer (some ⟨w.heap.size + 1 + 1, 0, none⟩)) := (hot 3 ⟨by kernel_rfl⟩).trans rfl
                exact wv6_fa_apiConf_0 3 _ _ rfl e3 ⟨rfl, rfl⟩
              | 1, ho, hdp, hot, hst =>
                obtain rfl := Option.some.inj ho
                have e40 : a'.tmps[40]? = some (.pointer (some ⟨w.heap.size + 1 + 1, 0 + 0, none⟩)) := hdp 0 (Reg.mem_of (by kernel_rfl)) _ rfl
                exact wv6_ld_slapiConsole 40 _ _ rfl e40 (((HBE.out _ (hst.early (by kernel_rfl))).cell (p := ⟨w.heap.size + 1 + 1, 0, none⟩) hblk).trans y0) ⟨rfl, rfl⟩
              | 2, ho, hdp, hot, hst =>
                obtain rfl := Option.some.inj ho
                have e1 : a'.tmps[1]? = some (.pointer (some ⟨w.heap.size, 0, none⟩)) := (hot 1 ⟨by kernel_rfl⟩).trans rfl
                exact wv6_fa_apiConf_0 1 _ _ rfl e1 ⟨rfl, rfl⟩
              | 3, ho, hdp, hot, hst =>
                obtain rfl := Option.some.inj ho
                have e42 : a'.tmps[42]? = some (.pointer (some ⟨w.heap.size, 0 + 0, none⟩)) := hdp 2 (Reg.mem_of (by kernel_rfl)) _ rfl
                exact wv6_ld_slapiConsole 42 _ _ rfl e42 (((HBE.out _ (hst.early (by kernel_rfl))).cell (p := ⟨w.heap.size, 0, none⟩) hlc).trans y1) ⟨rfl, rfl⟩
              | 4, ho, hdp, hot, hst =>
                obtain rfl := Option.some.inj ho
                have e4 : a'.tmps[4]? = some (.int .i64 k) := (hot 4 ⟨by kernel_rfl⟩).trans rfl
                exact wv6_move 4 _ rfl e4 ⟨rfl, rfl⟩
              | 5, ho, hdp, hot, hst =>
                obtain rfl := Option.some.inj ho
                have e43 : a'.tmps[43]? = some (.slice (some ⟨g, o, none⟩) n0 k0) := hdp 3 (Reg.mem_of (by kernel_rfl)) _ rfl
                have e44 : a'.tmps[44]? = some (.int .i64 k) := hdp 4 (Reg.mem_of (by kernel_rfl)) _ rfl
                exact wv6_ix_slapiConsole 43 44 _ _ _ _ _ rfl e43 e44 hc0 ⟨rfl, rfl⟩
              | 6, ho, hdp, hot, hst =>
                obtain rfl := Option.some.inj ho
                have e45 : a'.tmps[45]? = some (.pointer (some ⟨g, o + k * 10, none⟩)) := hdp 5 (Reg.mem_of (by kernel_rfl)) _ rfl
                exact ld_con 45 _ _ x rfl e45 (HAT.out.below (HBE.out _ (hst.early (by kernel_rfl))) hg) ⟨rfl, rfl⟩
              | 7, ho, hdp, hot, hst =>
                obtain rfl := Option.some.inj ho
                have e46 : a'.tmps[46]? = some (cnV x) := hdp 6 (Reg.mem_of (by kernel_rfl)) _ rfl
                have hw := hst.made rfl
                subst hw
                exact bs_con 46 x rfl e46 ⟨rfl, rfl⟩
              | 8, ho, hdp, hot, hst =>
                obtain rfl := Option.some.inj ho
                have e41 : a'.tmps[41]? = some (.slice u0 nn m0) := hdp 1 (Reg.mem_of (by kernel_rfl)) _ rfl
                have e47 : a'.tmps[47]? = some (.slice (some ⟨wr.heap.size, 0, none⟩) 1 1) := hdp 7 (Reg.mem_of (by kernel_rfl)) _ rfl
                have hw := hst.app rfl
                subst hw
                exact ap_known 41 47 _ _ rfl rfl _ _ _ _ e41 e47 HRUN.out ⟨rfl, rfl⟩
              | 9, ho, hdp, hot, hst =>
                obtain rfl := Option.some.inj ho
                have e3 : a'.tmps[3]? = some (.pointer (some ⟨w.heap.size + 1 + 1, 0, none⟩)) := (hot 3 ⟨by kernel_rfl⟩).trans rfl
                exact wv6_fa_apiConf_0 3 _ _ rfl e3 ⟨rfl, rfl⟩
              | 10, ho, hdp, hot, hst =>
                obtain rfl := Option.some.inj ho
                have e49 : a'.tmps[49]? = some (.pointer (some ⟨w.heap.size + 1 + 1, 0 + 0, none⟩)) := hdp 9 (Reg.mem_of (by kernel_rfl)) _ rfl
                have e48 : a'.tmps[48]? = some (.slice (some ⟨g9, 0, none⟩) (nn + 1) cap9) := hdp 8 (Reg.mem_of (by kernel_rfl)) _ rfl
                have hw := hst.stored rfl
                subst hw
                exact st_known _ 49 48 _ _ _ (by simp) _ _ _ rfl rfl rfl e49 e48 zc zf ⟨rfl, rfl⟩
              | ii + 11, ho, _, _, _ => exact absurd ho (by simp)
            · intro us hul hus
              obtain ⟨z0_, z1_, z2_, z3_, z4_, z5_, z6_, z7_, z8_, z9_, rfl⟩ : ∃ z0_ z1_ z2_ z3_ z4_ z5_ z6_ z7_ z8_ z9_, us = [z0_, z1_, z2_, z3_, z4_, z5_, z6_, z7_, z8_, z9_] := by
                clear hus
                match us, hul with
                | [z0_, z1_, z2_, z3_, z4_, z5_, z6_, z7_, z8_, z9_], _ => exact ⟨z0_, z1_, z2_, z3_, z4_, z5_, z6_, z7_, z8_, z9_, rfl⟩
              clear hus hul
              simp only [List.map, List.zip, List.zipWith, Reg.puts, Act.put, List.setIfInBounds_toArray, List.set_cons_succ, List.set_cons_zero]
              go_wp2_with fail
              go_roundw
              case rel => exact ⟨k + 1, by omega, by omega, by go_num, _, _, _, _, _, _, L8.out, HFW.out⟩
              case measure => simp [Conf.intOf]; omega
          · have q4 : ¬ (x.init.length : Int) ≤ 300 := by omega
            go_wp2_with fail
            go_roundw
            case rel => exact ⟨k + 1, by omega, by omega, by go_num, _, _, _, _, _, _, HF.out, HFEW.out.mono (by omega) (by omega) (by omega) (by omega)⟩
            case measure => simp [Conf.intOf]; omega
        · have q3 : ¬ (x.name.length : Int) ≤ 40 := by omega
          go_wp2_with fail
          go_roundw
          case rel => exact ⟨k + 1, by omega, by omega, by go_num, _, _, _, _, _, _, HF.out, HFEW.out.mono (by omega) (by omega) (by omega) (by omega)⟩
          case measure => simp [Conf.intOf]; omega
      · clear hF hfew
        have y1 := (at_cell NC.out 0 : _ = some (Value.slice p0 n0 k0))
        have hcap := HR0.out.cap
        have HE : Hid (FwE W wr (w.heap.size + 1 + 1) 12 0 0 0) := Lib.hid ⟨_, _, _, _, _, _, HF.out, HFEW.out.mono (by omega) (by omega) (by omega) (by omega)⟩
        rcases Nat.lt_or_ge k n0 with h1 | h1
        · have q1 : (k : Int) < (n0 : Int) := by omega
          have q2 : ¬ (k : Int) < 12 := by omega
          go_wp2_with fail
          go_meet
          exact HE.out
        · have q1 : ¬ (k : Int) < (n0 : Int) := by omega
          go_wp2_with fail
          go_meet
          exact HE.out
  case rest =>
    have HF0 := Lib.hid hcut
    clear hcut
    apply hK1
    refine wp_seq_k fun K2 hK2 => ?_
    go_cut [5] (fun _ wx => FwE W wx (w.heap.size + 1 + 1) 12 8 0 0)
    case first =>
      as_aux_lemma =>
      go_wp2_with fail
      go_loopw [5] (fun i wr => ∃ k : Nat, k ≤ 8 ∧ k ≤ n1 ∧ i = .int .i64 k ∧ FwE W wr (w.heap.size + 1 + 1) 12 k 0 0) (fun i _ => 8 - (Conf.intOf i).toNat)
      case atStart => exact ⟨0, by omega, by omega, rfl, HF0.out⟩
      case round =>
        obtain ⟨k, hk12, hkn, rfl, v0, v1, v2, v3, bs, cf, hF, hfew⟩ := hrel
        rename World => wr
        have hsz := hF.out.size
        have HBW := Lib.hid (hF.out.below (B := w.heap.size) (by omega) fun q hq => by omega)
        have HBw := Lib.hid (HBX.out.below.trans HBW.out)
        have NC := Lib.hid (hF.out.at_ HBX.out.nc (by omega))
        obtain ⟨u0, m0, u1, m1, u2, m2, u3, m3, rfl, rfl, rfl, rfl⟩ := hF.shapes
        have HF := Lib.hid hF
        have HFEW := Lib.hid hfew
        have hblk := at_lt hF.blk
        by_cases hc : k < n1 ∧ k < 8
        · obtain ⟨hc0, hc1⟩ := hc
          have hl1 : k < c.grps.length := by rw [← HN1.out]; exact hc0
          have q1 : (k : Int) < (n1 : Int) := by omega
          have q2 : (k : Int) < 8 := by omega
          have hlc := at_lt NC.out
          obtain ⟨g, o, q, d, rfl, hg, hkn, c0, c1, ht⟩ := grpA_at (HR1.out.below HBw.out) (HRG.out.keep HBw.out) hl1
          have y1 := (at_cell NC.out 1 : _ = some (Value.slice (some ⟨g, o, none⟩) n1 k1))
          have hcap := HR1.out.cap
          generalize c.grps[k].1 = nm at *
          generalize c.grps[k].2 = ps at *
          have HTX := Lib.hid ht
          have hpc := ht.cap
          obtain ⟨pl, hpl⟩ : ∃ n, n = ps.length := ⟨_, rfl⟩
          rw [← hpl] at c1 hpc
          have HPL := Lib.hid hpl
          unfold maxLen at hpc
          have hpl2 : pl ≤ 9223372036854775807 := by omega
          obtain ⟨z, hz⟩ : ∃ z, cutM nm = z := ⟨_, rfl⟩
          have HCN : Hid (∀ w', Calls Try.prog 7 #[.string ⟨nm.toArray⟩] w' fun e w2 => e = .returned (.string ⟨z.toArray⟩) ∧ w' = w2) := Lib.hid fun w' => by rw [← hz]; exact cut_calls nm w'
          clear hl1 hF hfew ht hpl hz
          go_upto_region 10 with (fail)
          go_cut [6] (fun s6 wx => s6 = .pointer (some ⟨wr.heap.size, 0, none⟩) ∧ wx = wr.alloc (.cells #[.string ⟨z.toArray⟩, .slice none 0 0] 53))
          case first =>
            as_aux_lemma =>
            go_wp2_with (go_at_call 7; refine (HCN.out _).mono ?_; rintro e w' ⟨rfl, rfl⟩)
            go_meet
            exact ⟨rfl, rfl⟩
          case rest =>
            obtain ⟨rfl, rfl⟩ := hcut
            have N5 := at_new wr (.cells #[.string ⟨z.toArray⟩, .slice none 0 0] 53)
            have B5 := (Below.refl wr.heap.size wr).alloc (Nat.le_refl _) (.cells #[.string ⟨z.toArray⟩, .slice none 0 0] 53)
            have s5 : (wr.alloc (.cells #[.string ⟨z.toArray⟩, .slice none 0 0] 53)).heap.size = wr.heap.size + 1 := by simp
            generalize (wr.alloc (.cells #[.string ⟨z.toArray⟩, .slice none 0 0] 53)) = W5 at *
            have HP0 : Hid (Gp W5 W5 wr.heap.size z 0) := Lib.hid ⟨.slice none 0 0, [], N5, Out.refl _ _, World.ownsRow_nil _ _ _ _, by simp, fun p hp => absurd hp List.not_mem_nil⟩
            have HB5 := Lib.hid B5
            have HS5 := Lib.hid s5
            clear N5 B5 s5 c0
            refine (‹∀ (a : Act) (w : World), Code.wp _ _ _ a w → _›) _ _ ?_
            refine wp_seq_k fun K9 hK9 => ?_
            go_cut [7] (fun _ wx => Gp W5 wx wr.heap.size z 8)
            case first =>
              as_aux_lemma =>
              go_wp2_with fail
              go_loopw [7] (fun i w2 => ∃ kk : Nat, kk ≤ 8 ∧ kk ≤ pl ∧ i = .int .i64 kk ∧ Gp W5 w2 wr.heap.size z kk) (fun i _ => 8 - (Conf.intOf i).toNat)
              case atStart => exact ⟨0, by omega, by omega, rfl, HP0.out⟩
              case round =>
                obtain ⟨kk, hkk8, hkkp, rfl, vp, qs, gN, gO, gR, gl, gA⟩ := hrel
                rename World => w2
                have hs5 := HS5.out
                have gs2 := gO.size
                have hbg : Below wr.heap.size wr w2 := HB5.out.trans (gO.below (by omega) fun q hq => by omega)
                have HBG := Lib.hid hbg
                have y2 := (hbg.cell (p := ⟨w.heap.size, 1, none⟩) hlc).trans y1
                have d1 := (hbg.cell (p := ⟨g, o + k * 2 + 1, none⟩) hg).trans c1
                by_cases hcc : kk < pl ∧ kk < 8
                · obtain ⟨hkk0, hkk1⟩ := hcc
                  have hkl : kk < ps.length := by rw [← HPL.out]; exact hkk0
                  have q3 : (kk : Int) < (pl : Int) := by omega
                  have q4 : (kk : Int) < 8 := by omega
                  obtain ⟨g3, o3, rfl, hg3, yx⟩ := tx_at (HTX.out.below hbg) hkl
                  generalize ps[kk] = x at *
                  obtain ⟨y, hy⟩ : ∃ y, cutM x = y := ⟨_, rfl⟩
                  have HCY := Lib.hid hy
                  have hy40 : y.length ≤ 40 := by rw [← hy]; exact cut_len _
                  obtain ⟨qp, qc, rfl, -⟩ := own_slice gR
                  obtain ⟨qn, hqn⟩ : ∃ n, n = qs.length := ⟨_, rfl⟩
                  rw [← hqn] at gR gN gl
                  have HQN := Lib.hid hqn
                  clear hqn hy hkl
                  have yg := (at_cell gN 1 : _ = some (Value.slice qp qn qc))
                  have hlg := at_lt gN
                  have hdr := (Below.refl w2.heap.size w2).drew
                  have hal := hdr.alloc (Nat.le_refl _) (.cells #[.string ⟨y.toArray⟩] 9)
                  have HBE := Lib.hid (fun (w' : World) (h : w' = w2.drew ∨ w' = (w2.drew.alloc (.cells #[.string ⟨y.toArray⟩] 9))) => (h.elim (fun e => by rw [e]; exact hdr) (fun e => by rw [e]; exact hal) : Below w2.heap.size w2 w'))
                  have hownA : (w2.drew.alloc (.cells #[.string ⟨y.toArray⟩] 9)).ownsRow W5.heap.size 9 1 (.slice qp qn qc) qn (strs qs) := World.ownsRow.alloc (w := w2.drew) gR _
                  obtain ⟨g9, cap9, W2, hrun, own2, grow2, -, -⟩ := run_append_lies (P := Try.prog) (w2.drew.alloc (.cells #[.string ⟨y.toArray⟩] 9)) 45 45 W5.heap.size 9 i4 _ 1 16 Try.underlying45 hi4 hz40 hz41 hz42 rfl (by decide) _ qn _ hownA ⟨w2.heap.size, 0, none⟩ 1 1 [.string ⟨y.toArray⟩] rfl (new_news (w := (w2.drew.alloc (.cells #[.string ⟨y.toArray⟩] 9))) (at_new w2.drew (.cells #[.string ⟨y.toArray⟩] 9))) (by simp [Value.oneCell']) (by omega) (by unfold maxLen; omega) (by omega) (by simp; omega) _ rfl
                  have HGP := Lib.hid (gp_step HQN.out gN gO gR gl gA hy40 (by omega) hal own2 grow2)
                  obtain ⟨zc, zf⟩ := gp_cell gN gR hal grow2
                  have HRUN := Lib.hid hrun
                  have hlc2 : w.heap.size < w2.heap.size := by omega
                  have hg2 : g < w2.heap.size := by omega
                  clear own2 grow2 hownA hdr hal hrun gR gN gO gA
                  go_wp2_with fail
                  refine Reg.wp_chain (by kernel_rfl) [some 84, some 85, some 86, some 87, some 88, some 89, some 90, some 91, some 92, some 93, some 94, some 95, some 96, some 97, some 98, none] [(.pointer (some ⟨wr.heap.size, 0 + 1, none⟩)), (.slice qp qn qc), (.pointer (some ⟨w.heap.size, 0 + 1, none⟩)), (.slice (some ⟨g, o, none⟩) n1 k1), (.int .i64 k), (.pointer (some ⟨g, o + k * 2, none⟩)), (.pointer (some ⟨g, o + k * 2 + 1, none⟩)), (.slice (some ⟨g3, o3, none⟩) pl d), (.int .i64 kk), (.pointer (some ⟨g3, o3 + kk, none⟩)), (.string ⟨x.toArray⟩), (.string ⟨y.toArray⟩), (.slice (some ⟨w2.heap.size, 0, none⟩) 1 1), (.slice (some ⟨g9, 0, none⟩) (qn + 1) cap9), (.pointer (some ⟨wr.heap.size, 0 + 1, none⟩)), undef] 12 13 15 (w2.drew) ((w2.drew.alloc (.cells #[.string ⟨y.toArray⟩] 9))) (W2) (W2.setCell ⟨wr.heap.size, 1, none⟩ (.slice (some ⟨g9, 0, none⟩) (qn + 1) cap9)) [(84, 0), (85, 1), (86, 2), (87, 3), (88, 4), (89, 5), (90, 6), (91, 7), (92, 8), (93, 9), (94, 10), (95, 11), (96, 12), (97, 13), (98, 14)] (by kernel_rfl) (by kernel_rfl) (by kernel_rfl) (by decide) (by kernel_rfl) (by kernel_rfl) rfl ?_ ?_
                  · intro ii op a' w' ho hdp hot hst
                    match ii, ho, hdp, hot, hst with
                    | 0, ho, hdp, hot, hst =>
                      obtain rfl := Option.some.inj ho
                      have e6 : a'.tmps[6]? = some (.pointer (some ⟨wr.heap.size, 0, none⟩)) := (hot 6 ⟨by kernel_rfl⟩).trans rfl
                      exact wv14_fa_apiGroup_1 6 _ _ rfl e6 ⟨rfl, rfl⟩
                    | 1, ho, hdp, hot, hst =>
                      obtain rfl := Option.some.inj ho
                      have e84 : a'.tmps[84]? = some (.pointer (some ⟨wr.heap.size, 0 + 1, none⟩)) := hdp 0 (Reg.mem_of (by kernel_rfl)) _ rfl
                      exact wv14_ld_slstring 84 _ _ rfl e84 (((HBE.out _ (hst.early (by kernel_rfl))).cell (p := ⟨wr.heap.size, 1, none⟩) hlg).trans yg) ⟨rfl, rfl⟩
                    | 2, ho, hdp, hot, hst =>
                      obtain rfl := Option.some.inj ho
                      have e1 : a'.tmps[1]? = some (.pointer (some ⟨w.heap.size, 0, none⟩)) := (hot 1 ⟨by kernel_rfl⟩).trans rfl
                      exact wv14_fa_apiConf_1 1 _ _ rfl e1 ⟨rfl, rfl⟩
                    | 3, ho, hdp, hot, hst =>
                      obtain rfl := Option.some.inj ho
                      have e86 : a'.tmps[86]? = some (.pointer (some ⟨w.heap.size, 0 + 1, none⟩)) := hdp 2 (Reg.mem_of (by kernel_rfl)) _ rfl
                      exact wv14_ld_slapiGroup 86 _ _ rfl e86 (((HBE.out _ (hst.early (by kernel_rfl))).cell (p := ⟨w.heap.size, 1, none⟩) hlc2).trans y2) ⟨rfl, rfl⟩
                    | 4, ho, hdp, hot, hst =>
                      obtain rfl := Option.some.inj ho
                      have e5 : a'.tmps[5]? = some (.int .i64 k) := (hot 5 ⟨by kernel_rfl⟩).trans rfl
                      exact wv14_move 5 _ rfl e5 ⟨rfl, rfl⟩
                    | 5, ho, hdp, hot, hst =>
                      obtain rfl := Option.some.inj ho
                      have e87 : a'.tmps[87]? = some (.slice (some ⟨g, o, none⟩) n1 k1) := hdp 3 (Reg.mem_of (by kernel_rfl)) _ rfl
                      have e88 : a'.tmps[88]? = some (.int .i64 k) := hdp 4 (Reg.mem_of (by kernel_rfl)) _ rfl
                      exact wv14_ix_slapiGroup 87 88 _ _ _ _ _ rfl e87 e88 hc0 ⟨rfl, rfl⟩
                    | 6, ho, hdp, hot, hst =>
                      obtain rfl := Option.some.inj ho
                      have e89 : a'.tmps[89]? = some (.pointer (some ⟨g, o + k * 2, none⟩)) := hdp 5 (Reg.mem_of (by kernel_rfl)) _ rfl
                      exact wv14_fa_apiGroup_1 89 _ _ rfl e89 ⟨rfl, rfl⟩
                    | 7, ho, hdp, hot, hst =>
                      obtain rfl := Option.some.inj ho
                      have e90 : a'.tmps[90]? = some (.pointer (some ⟨g, o + k * 2 + 1, none⟩)) := hdp 6 (Reg.mem_of (by kernel_rfl)) _ rfl
                      exact wv14_ld_slstring 90 _ _ rfl e90 (((HBE.out _ (hst.early (by kernel_rfl))).cell (p := ⟨g, o + k * 2 + 1, none⟩) hg2).trans d1) ⟨rfl, rfl⟩
                    | 8, ho, hdp, hot, hst =>
                      obtain rfl := Option.some.inj ho
                      have e7 : a'.tmps[7]? = some (.int .i64 kk) := (hot 7 ⟨by kernel_rfl⟩).trans rfl
                      exact wv14_move 7 _ rfl e7 ⟨rfl, rfl⟩
                    | 9, ho, hdp, hot, hst =>
                      obtain rfl := Option.some.inj ho
                      have e91 : a'.tmps[91]? = some (.slice (some ⟨g3, o3, none⟩) pl d) := hdp 7 (Reg.mem_of (by kernel_rfl)) _ rfl
                      have e92 : a'.tmps[92]? = some (.int .i64 kk) := hdp 8 (Reg.mem_of (by kernel_rfl)) _ rfl
                      exact wv14_ix_slstring 91 92 _ _ _ _ _ rfl e91 e92 hkk0 ⟨rfl, rfl⟩
                    | 10, ho, hdp, hot, hst =>
                      obtain rfl := Option.some.inj ho
                      have e93 : a'.tmps[93]? = some (.pointer (some ⟨g3, o3 + kk, none⟩)) := hdp 9 (Reg.mem_of (by kernel_rfl)) _ rfl
                      exact wv14_ld_string 93 _ _ rfl e93 (((HBE.out _ (hst.early (by kernel_rfl))).cell (p := ⟨g3, o3 + kk, none⟩) hg3).trans yx) ⟨rfl, rfl⟩
                    | 11, ho, hdp, hot, hst =>
                      obtain rfl := Option.some.inj ho
                      have e94 : a'.tmps[94]? = some (.string ⟨x.toArray⟩) := hdp 10 (Reg.mem_of (by kernel_rfl)) _ rfl
                      exact cut_known 94 _ _ _ rfl e94 HCY.out ⟨rfl, rfl⟩
                    | 12, ho, hdp, hot, hst =>
                      obtain rfl := Option.some.inj ho
                      have e95 : a'.tmps[95]? = some (.string ⟨y.toArray⟩) := hdp 11 (Reg.mem_of (by kernel_rfl)) _ rfl
                      have hw := hst.made rfl
                      subst hw
                      exact bs_str 95 _ rfl e95 ⟨rfl, rfl⟩
                    | 13, ho, hdp, hot, hst =>
                      obtain rfl := Option.some.inj ho
                      have e85 : a'.tmps[85]? = some (.slice qp qn qc) := hdp 1 (Reg.mem_of (by kernel_rfl)) _ rfl
                      have e96 : a'.tmps[96]? = some (.slice (some ⟨w2.heap.size, 0, none⟩) 1 1) := hdp 12 (Reg.mem_of (by kernel_rfl)) _ rfl
                      have hw := hst.app rfl
                      subst hw
                      exact ap_known 85 96 _ _ rfl rfl _ _ _ _ e85 e96 HRUN.out ⟨rfl, rfl⟩
                    | 14, ho, hdp, hot, hst =>
                      obtain rfl := Option.some.inj ho
                      have e6 : a'.tmps[6]? = some (.pointer (some ⟨wr.heap.size, 0, none⟩)) := (hot 6 ⟨by kernel_rfl⟩).trans rfl
                      exact wv14_fa_apiGroup_1 6 _ _ rfl e6 ⟨rfl, rfl⟩
                    | 15, ho, hdp, hot, hst =>
                      obtain rfl := Option.some.inj ho
                      have e98 : a'.tmps[98]? = some (.pointer (some ⟨wr.heap.size, 0 + 1, none⟩)) := hdp 14 (Reg.mem_of (by kernel_rfl)) _ rfl
                      have e97 : a'.tmps[97]? = some (.slice (some ⟨g9, 0, none⟩) (qn + 1) cap9) := hdp 13 (Reg.mem_of (by kernel_rfl)) _ rfl
                      have hw := hst.stored rfl
                      subst hw
                      exact st_known _ 98 97 _ _ _ (by simp) _ _ _ rfl rfl rfl e98 e97 zc zf ⟨rfl, rfl⟩
                    | ii + 16, ho, _, _, _ => exact absurd ho (by simp)
                  · intro us hul hus
                    obtain ⟨z0_, z1_, z2_, z3_, z4_, z5_, z6_, z7_, z8_, z9_, z10_, z11_, z12_, z13_, z14_, rfl⟩ : ∃ z0_ z1_ z2_ z3_ z4_ z5_ z6_ z7_ z8_ z9_ z10_ z11_ z12_ z13_ z14_, us = [z0_, z1_, z2_, z3_, z4_, z5_, z6_, z7_, z8_, z9_, z10_, z11_, z12_, z13_, z14_] := by
                      clear hus
                      match us, hul with
                      | [z0_, z1_, z2_, z3_, z4_, z5_, z6_, z7_, z8_, z9_, z10_, z11_, z12_, z13_, z14_], _ => exact ⟨z0_, z1_, z2_, z3_, z4_, z5_, z6_, z7_, z8_, z9_, z10_, z11_, z12_, z13_, z14_, rfl⟩
                    clear hus hul
                    simp only [List.map, List.zip, List.zipWith, Reg.puts, Act.put, List.setIfInBounds_toArray, List.set_cons_succ, List.set_cons_zero]
                    go_wp2_with fail
                    go_roundw
                    case rel => exact ⟨kk + 1, by omega, by omega, by go_num, HGP.out⟩
                    case measure => simp [Conf.intOf]; omega
                · have HE : Hid (Gp W5 w2 wr.heap.size z 8) := Lib.hid ⟨vp, qs, gN, gO, gR, by omega, gA⟩
                  clear gN gO gR gl gA
                  rcases Nat.lt_or_ge kk pl with h1 | h1
                  · have q3 : (kk : Int) < (pl : Int) := by omega
                    have q4 : ¬ (kk : Int) < 8 := by omega
                    go_wp2_with fail
                    go_meet
                    exact HE.out
                  · have q3 : ¬ (kk : Int) < (pl : Int) := by omega
                    go_wp2_with fail
                    go_meet
                    exact HE.out
            case rest =>
              obtain ⟨vp, qs, gN, gO, gR, gl, gA⟩ := hcut
              rename World => w2
              have hs5 := HS5.out
              have gs2 := gO.size
              have hbg : Below wr.heap.size wr w2 := HB5.out.trans (gO.below (by omega) fun q hq => by omega)
              have HF2 := Lib.hid (HF.out.keep hbg)
              obtain ⟨qp, qc, rfl, -⟩ := own_slice gR
              have hgp := own_base (B := W.heap.size) gR (by omega)
              have HFW := Lib.hid (HFEW.out.addG (x := (z, qs)) ⟨gl, gA⟩)
              obtain ⟨gs, hg1, hg2⟩ := HF2.out.grps
              have y0 := (at_cell HF2.out.blk 1 : _ = some (Value.slice u1 cf.grps.length m1))
              have t0 := (at_cell gN 0 : _ = some (Value.string ⟨z.toArray⟩))
              have t1 := (at_cell gN 1 : _ = some (Value.slice qp qs.length qc))
              have hle := HFEW.out.l1
              obtain ⟨nn, hnn⟩ : ∃ nn, nn = cf.grps.length := ⟨_, rfl⟩
              have HK := Lib.hid hnn
              rw [← hnn] at y0 hle
              obtain ⟨ql, hql⟩ : ∃ n, n = qs.length := ⟨_, rfl⟩
              have HQL := Lib.hid hql
              have hbl := at_lt HF2.out.blk
              have hwl : W.heap.size ≤ w2.heap.size := by omega
              have hgl := at_lt gN
              have HADD := Lib.hid (fun (w3 : World) (g9 cap9 : Nat) (own2 : w3.ownsRow W.heap.size 53 2 (.slice (some ⟨g9, 0, none⟩) (nn + 1) cap9) (nn + 1) (gs ++ [.string ⟨z.toArray⟩, .slice qp ql qc])) (grow : (w2.alloc (.cells #[.string ⟨z.toArray⟩, .slice qp ql qc] 53)).grownBy w3 (Value.slice u1 nn m1).ownBlock) =>
                HF2.out.addG z qs (.slice qp qs.length qc) gs hg1 hg2 hgp (v' := .slice (some ⟨g9, 0, none⟩) (nn + 1) cap9) ((Below.refl w2.heap.size w2).alloc (Nat.le_refl _) (.cells #[.string ⟨z.toArray⟩, .slice qp ql qc] 53)) (by rw [HK.out, HQL.out] at own2; rw [HK.out]; exact own2) (by rw [HK.out] at grow; exact grow))
              have hgA : w2.ownsRow W.heap.size 53 2 (.slice u1 nn m1) nn gs := by rw [HK.out]; exact hg1
              rw [← hql] at t1
              clear hnn hql hg1 hg2 hgp gN gO gR gl gA hbg
              apply hK9
              go_wp2_with (at_builtin; go_loud (refine wpList_append_lies _ rfl (.tmp 100) (.tmp 102) 23 rfl W.heap.size 53 i1 _ 2 40 Try.underlying23 hi1 hz10 hz11 hz12 rfl (by decide) _ nn _ rfl (World.ownsRow.alloc hgA _) ⟨w2.heap.size, 0, none⟩ 1 1 [.string ⟨z.toArray⟩, .slice qp ql qc] rfl rfl (new_news (at_new w2 (.cells #[.string ⟨z.toArray⟩, .slice qp ql qc] 53))) (by simp [Value.oneCell']) (by omega) (by unfold maxLen; omega) (by omega) (by simp; omega) _ rfl ?_; intro g9 cap9 w3 own2 grow2 _ _; obtain ⟨⟨zc, zf, zl⟩, L8⟩ := HADD.out w3 g9 cap9 own2 grow2; have HL8 := Lib.hid L8; clear L8 own2 grow2))
              go_roundw
              case rel => exact ⟨k + 1, by omega, by omega, by go_num, _, _, _, _, _, _, HL8.out, HFW.out⟩
              case measure => simp [Conf.intOf]; omega
        · clear hF hfew
          have y1 := (at_cell NC.out 1 : _ = some (Value.slice p1 n1 k1))
          have hcap := HR1.out.cap
          have HE : Hid (FwE W wr (w.heap.size + 1 + 1) 12 8 0 0) := Lib.hid ⟨_, _, _, _, _, _, HF.out, HFEW.out.mono (by omega) (by omega) (by omega) (by omega)⟩
          rcases Nat.lt_or_ge k n1 with h1 | h1
          · have q1 : (k : Int) < (n1 : Int) := by omega
            have q2 : ¬ (k : Int) < 8 := by omega
            go_wp2_with fail
            go_meet
            exact HE.out
          · have q1 : ¬ (k : Int) < (n1 : Int) := by omega
            go_wp2_with fail
            go_meet
            exact HE.out
    case rest =>
      have HF0 := Lib.hid hcut
      clear hcut
      apply hK2
      refine wp_seq_k fun K3 hK3 => ?_
      go_cut [8] (fun _ wx => FwE W wx (w.heap.size + 1 + 1) 12 8 8 0)
      case first =>
        as_aux_lemma =>
        go_wp2_with fail
        go_loopw [8] (fun i wr => ∃ k : Nat, k ≤ 8 ∧ k ≤ n2 ∧ i = .int .i64 k ∧ FwE W wr (w.heap.size + 1 + 1) 12 8 k 0) (fun i _ => 8 - (Conf.intOf i).toNat)
        case atStart => exact ⟨0, by omega, by omega, rfl, HF0.out⟩
        case round =>
          obtain ⟨k, hk12, hkn, rfl, v0, v1, v2, v3, bs, cf, hF, hfew⟩ := hrel
          rename World => wr
          have hsz := hF.out.size
          have HBW := Lib.hid (hF.out.below (B := w.heap.size) (by omega) fun q hq => by omega)
          have HBw := Lib.hid (HBX.out.below.trans HBW.out)
          have NC := Lib.hid (hF.out.at_ HBX.out.nc (by omega))
          obtain ⟨u0, m0, u1, m1, u2, m2, u3, m3, rfl, rfl, rfl, rfl⟩ := hF.shapes
          have HF := Lib.hid hF
          have HFEW := Lib.hid hfew
          have hblk := at_lt hF.blk
          by_cases hc : k < n2 ∧ k < 8
          · obtain ⟨hc0, hc1⟩ := hc
            have hl1 : k < c.usrs.length := by rw [← HN2.out]; exact hc0
            have q1 : (k : Int) < (n2 : Int) := by omega
            have q2 : (k : Int) < 8 := by omega
            have hlc := at_lt NC.out
            obtain ⟨g, o, rfl, hg, hkn, c0, c1⟩ := usr_at (HR2.out.below HBw.out) hl1
            have y1 := (at_cell NC.out 2 : _ = some (Value.slice (some ⟨g, o, none⟩) n2 k2))
            generalize c.usrs[k].1 = x1 at *
            generalize c.usrs[k].2 = x2 at *
            obtain ⟨z1, hz1⟩ : ∃ z, cutM x1 = z := ⟨_, rfl⟩
            obtain ⟨z2, hz2⟩ : ∃ z, cutM x2 = z := ⟨_, rfl⟩
            have HC1 := Lib.hid hz1
            have HC2 := Lib.hid hz2
            clear hz1 hz2
            have hcap := HR2.out.cap
            clear hl1 hF hfew
            have y0 := (at_cell HF.out.blk 2 : _ = some (Value.slice u2 cf.usrs.length m2))
            have hown := HF.out.usrs
            obtain ⟨nn, hnn⟩ : ∃ nn, nn = cf.usrs.length := ⟨_, rfl⟩
            have HK := Lib.hid hnn
            have hle := HFEW.out.l2
            rw [← hnn] at hown y0 hle
            clear hnn
            have hBw : W.heap.size ≤ wr.heap.size := hsz
            have hdr := (Below.refl wr.heap.size wr).drew
            have hal := hdr.alloc (Nat.le_refl _) (.cells #[.string ⟨z1.toArray⟩, .string ⟨z2.toArray⟩] 55)
            have HBE := Lib.hid (fun (w' : World) (h : w' = wr.drew ∨ w' = (wr.drew.alloc (.cells #[.string ⟨z1.toArray⟩, .string ⟨z2.toArray⟩] 55))) => (h.elim (fun e => by rw [e]; exact hdr) (fun e => by rw [e]; exact hal) : Below wr.heap.size wr w'))
            have hownA : (wr.drew.alloc (.cells #[.string ⟨z1.toArray⟩, .string ⟨z2.toArray⟩] 55)).ownsRow W.heap.size 55 2 (.slice u2 nn m2) nn (cf.usrs.flatMap urv) := World.ownsRow.alloc (w := wr.drew) hown _
            obtain ⟨g9, cap9, W2, hrun, own2, grow2, -, -⟩ := run_append_lies (P := Try.prog) (wr.drew.alloc (.cells #[.string ⟨z1.toArray⟩, .string ⟨z2.toArray⟩] 55)) 24 24 W.heap.size 55 i2 _ 2 32 Try.underlying24 hi2 hz20 hz21 hz22 rfl (by decide) _ nn _ hownA ⟨wr.heap.size, 0, none⟩ 1 1 [.string ⟨z1.toArray⟩, .string ⟨z2.toArray⟩] rfl (new_news (w := (wr.drew.alloc (.cells #[.string ⟨z1.toArray⟩, .string ⟨z2.toArray⟩] 55))) (at_new wr.drew (.cells #[.string ⟨z1.toArray⟩, .string ⟨z2.toArray⟩] 55))) (by simp [Value.oneCell']) (by omega) (by unfold maxLen; omega) (by omega) (by simp; omega) _ rfl
            obtain ⟨⟨zc, zf, -⟩, L8⟩ := HF.out.addU (v' := .slice (some ⟨g9, 0, none⟩) (nn + 1) cap9) (z1, z2) hal (by rw [HK.out] at own2; rw [HK.out]; exact own2) (by rw [HK.out] at grow2; exact grow2)
            have L8 := Lib.hid L8
            have HRUN := Lib.hid hrun
            clear own2 grow2 hownA hown hdr hal hrun
            have HFW := Lib.hid (HFEW.out.addU (z1, z2))
            go_wp2_with fail
            refine Reg.wp_chain (by kernel_rfl) [some 116, some 117, some 118, some 119, some 120, some 121, some 122, some 123, some 124, some 125, some 126, some 127, some 128, some 129, some 130, some 131, some 132, some 133, some 134, some 135, none] [(.pointer (some ⟨w.heap.size + 1 + 1, 0 + 2, none⟩)), (.slice u2 nn m2), (.pointer (some ⟨w.heap.size, 0 + 2, none⟩)), (.slice (some ⟨g, o, none⟩) n2 k2), (.int .i64 k), (.pointer (some ⟨g, o + k * 2, none⟩)), (.pointer (some ⟨g, o + k * 2 + 0, none⟩)), (.string ⟨x1.toArray⟩), (.string ⟨z1.toArray⟩), (.pointer (some ⟨w.heap.size, 0 + 2, none⟩)), (.slice (some ⟨g, o, none⟩) n2 k2), (.int .i64 k), (.pointer (some ⟨g, o + k * 2, none⟩)), (.pointer (some ⟨g, o + k * 2 + 1, none⟩)), (.string ⟨x2.toArray⟩), (.string ⟨z2.toArray⟩), (.agg #[.string ⟨z1.toArray⟩, .string ⟨z2.toArray⟩]), (.slice (some ⟨wr.heap.size, 0, none⟩) 1 1), (.slice (some ⟨g9, 0, none⟩) (nn + 1) cap9), (.pointer (some ⟨w.heap.size + 1 + 1, 0 + 2, none⟩)), undef] 17 18 20 (wr.drew) ((wr.drew.alloc (.cells #[.string ⟨z1.toArray⟩, .string ⟨z2.toArray⟩] 55))) (W2) (W2.setCell ⟨w.heap.size + 1 + 1, 2, none⟩ (.slice (some ⟨g9, 0, none⟩) (nn + 1) cap9)) [(116, 0), (117, 1), (118, 2), (119, 3), (120, 4), (121, 5), (122, 6), (123, 7), (124, 8), (125, 9), (126, 10), (127, 11), (128, 12), (129, 13), (130, 14), (131, 15), (132, 16), (133, 17), (134, 18), (135, 19)] (by kernel_rfl) (by kernel_rfl) (by kernel_rfl) (by decide) (by kernel_rfl) (by kernel_rfl) rfl ?_ ?_
            · intro ii op a' w' ho hdp hot hst
              match ii, ho, hdp, hot, hst with
              | 0, ho, hdp, hot, hst =>
                obtain rfl := Option.some.inj ho
                have e3 : a'.tmps[3]? = some (.pointer (some ⟨w.heap.size + 1 + 1, 0, none⟩)) := (hot 3 ⟨by kernel_rfl⟩).trans rfl
                exact wv19_fa_apiConf_2 3 _ _ rfl e3 ⟨rfl, rfl⟩
              | 1, ho, hdp, hot, hst =>
                obtain rfl := Option.some.inj ho
                have e116 : a'.tmps[116]? = some (.pointer (some ⟨w.heap.size + 1 + 1, 0 + 2, none⟩)) := hdp 0 (Reg.mem_of (by kernel_rfl)) _ rfl
                exact wv19_ld_slapiUser 116 _ _ rfl e116 (((HBE.out _ (hst.early (by kernel_rfl))).cell (p := ⟨w.heap.size + 1 + 1, 2, none⟩) hblk).trans y0) ⟨rfl, rfl⟩
              | 2, ho, hdp, hot, hst =>
                obtain rfl := Option.some.inj ho
                have e1 : a'.tmps[1]? = some (.pointer (some ⟨w.heap.size, 0, none⟩)) := (hot 1 ⟨by kernel_rfl⟩).trans rfl
                exact wv19_fa_apiConf_2 1 _ _ rfl e1 ⟨rfl, rfl⟩
              | 3, ho, hdp, hot, hst =>
                obtain rfl := Option.some.inj ho
                have e118 : a'.tmps[118]? = some (.pointer (some ⟨w.heap.size, 0 + 2, none⟩)) := hdp 2 (Reg.mem_of (by kernel_rfl)) _ rfl
                exact wv19_ld_slapiUser 118 _ _ rfl e118 (((HBE.out _ (hst.early (by kernel_rfl))).cell (p := ⟨w.heap.size, 2, none⟩) hlc).trans y1) ⟨rfl, rfl⟩
              | 4, ho, hdp, hot, hst =>
                obtain rfl := Option.some.inj ho
                have e8 : a'.tmps[8]? = some (.int .i64 k) := (hot 8 ⟨by kernel_rfl⟩).trans rfl
                exact wv19_move 8 _ rfl e8 ⟨rfl, rfl⟩
              | 5, ho, hdp, hot, hst =>
                obtain rfl := Option.some.inj ho
                have e119 : a'.tmps[119]? = some (.slice (some ⟨g, o, none⟩) n2 k2) := hdp 3 (Reg.mem_of (by kernel_rfl)) _ rfl
                have e120 : a'.tmps[120]? = some (.int .i64 k) := hdp 4 (Reg.mem_of (by kernel_rfl)) _ rfl
                exact wv19_ix_slapiUser 119 120 _ _ _ _ _ rfl e119 e120 hc0 ⟨rfl, rfl⟩
              | 6, ho, hdp, hot, hst =>
                obtain rfl := Option.some.inj ho
                have e121 : a'.tmps[121]? = some (.pointer (some ⟨g, o + k * 2, none⟩)) := hdp 5 (Reg.mem_of (by kernel_rfl)) _ rfl
                exact wv19_fa_apiUser_0 121 _ _ rfl e121 ⟨rfl, rfl⟩
              | 7, ho, hdp, hot, hst =>
                obtain rfl := Option.some.inj ho
                have e122 : a'.tmps[122]? = some (.pointer (some ⟨g, o + k * 2 + 0, none⟩)) := hdp 6 (Reg.mem_of (by kernel_rfl)) _ rfl
                exact wv19_ld_string 122 _ _ rfl e122 (((HBE.out _ (hst.early (by kernel_rfl))).cell (p := ⟨g, o + k * 2, none⟩) hg).trans c0) ⟨rfl, rfl⟩
              | 8, ho, hdp, hot, hst =>
                obtain rfl := Option.some.inj ho
                have e123 : a'.tmps[123]? = some (.string ⟨x1.toArray⟩) := hdp 7 (Reg.mem_of (by kernel_rfl)) _ rfl
                exact cut_known 123 _ _ _ rfl e123 HC1.out ⟨rfl, rfl⟩
              | 9, ho, hdp, hot, hst =>
                obtain rfl := Option.some.inj ho
                have e1 : a'.tmps[1]? = some (.pointer (some ⟨w.heap.size, 0, none⟩)) := (hot 1 ⟨by kernel_rfl⟩).trans rfl
                exact wv19_fa_apiConf_2 1 _ _ rfl e1 ⟨rfl, rfl⟩
              | 10, ho, hdp, hot, hst =>
                obtain rfl := Option.some.inj ho
                have e125 : a'.tmps[125]? = some (.pointer (some ⟨w.heap.size, 0 + 2, none⟩)) := hdp 9 (Reg.mem_of (by kernel_rfl)) _ rfl
                exact wv19_ld_slapiUser 125 _ _ rfl e125 (((HBE.out _ (hst.early (by kernel_rfl))).cell (p := ⟨w.heap.size, 2, none⟩) hlc).trans y1) ⟨rfl, rfl⟩
              | 11, ho, hdp, hot, hst =>
                obtain rfl := Option.some.inj ho
                have e8 : a'.tmps[8]? = some (.int .i64 k) := (hot 8 ⟨by kernel_rfl⟩).trans rfl
                exact wv19_move 8 _ rfl e8 ⟨rfl, rfl⟩
              | 12, ho, hdp, hot, hst =>
                obtain rfl := Option.some.inj ho
                have e126 : a'.tmps[126]? = some (.slice (some ⟨g, o, none⟩) n2 k2) := hdp 10 (Reg.mem_of (by kernel_rfl)) _ rfl
                have e127 : a'.tmps[127]? = some (.int .i64 k) := hdp 11 (Reg.mem_of (by kernel_rfl)) _ rfl
                exact wv19_ix_slapiUser 126 127 _ _ _ _ _ rfl e126 e127 hc0 ⟨rfl, rfl⟩
              | 13, ho, hdp, hot, hst =>
                obtain rfl := Option.some.inj ho
                have e128 : a'.tmps[128]? = some (.pointer (some ⟨g, o + k * 2, none⟩)) := hdp 12 (Reg.mem_of (by kernel_rfl)) _ rfl
                exact wv19_fa_apiUser_1 128 _ _ rfl e128 ⟨rfl, rfl⟩
              | 14, ho, hdp, hot, hst =>
                obtain rfl := Option.some.inj ho
                have e129 : a'.tmps[129]? = some (.pointer (some ⟨g, o + k * 2 + 1, none⟩)) := hdp 13 (Reg.mem_of (by kernel_rfl)) _ rfl
                exact wv19_ld_string 129 _ _ rfl e129 (((HBE.out _ (hst.early (by kernel_rfl))).cell (p := ⟨g, o + k * 2 + 1, none⟩) hg).trans c1) ⟨rfl, rfl⟩
              | 15, ho, hdp, hot, hst =>
                obtain rfl := Option.some.inj ho
                have e130 : a'.tmps[130]? = some (.string ⟨x2.toArray⟩) := hdp 14 (Reg.mem_of (by kernel_rfl)) _ rfl
                exact cut_known 130 _ _ _ rfl e130 HC2.out ⟨rfl, rfl⟩
              | 16, ho, hdp, hot, hst =>
                obtain rfl := Option.some.inj ho
                have e124 : a'.tmps[124]? = some (.string ⟨z1.toArray⟩) := hdp 8 (Reg.mem_of (by kernel_rfl)) _ rfl
                have e131 : a'.tmps[131]? = some (.string ⟨z2.toArray⟩) := hdp 15 (Reg.mem_of (by kernel_rfl)) _ rfl
                exact bd_usr 124 131 _ _ rfl e124 e131 ⟨rfl, rfl⟩
              | 17, ho, hdp, hot, hst =>
                obtain rfl := Option.some.inj ho
                have e132 : a'.tmps[132]? = some (.agg #[.string ⟨z1.toArray⟩, .string ⟨z2.toArray⟩]) := hdp 16 (Reg.mem_of (by kernel_rfl)) _ rfl
                have hw := hst.made rfl
                subst hw
                exact bs_usr 132 _ _ rfl e132 ⟨rfl, rfl⟩
              | 18, ho, hdp, hot, hst =>
                obtain rfl := Option.some.inj ho
                have e117 : a'.tmps[117]? = some (.slice u2 nn m2) := hdp 1 (Reg.mem_of (by kernel_rfl)) _ rfl
                have e133 : a'.tmps[133]? = some (.slice (some ⟨wr.heap.size, 0, none⟩) 1 1) := hdp 17 (Reg.mem_of (by kernel_rfl)) _ rfl
                have hw := hst.app rfl
                subst hw
                exact ap_known 117 133 _ _ rfl rfl _ _ _ _ e117 e133 HRUN.out ⟨rfl, rfl⟩
              | 19, ho, hdp, hot, hst =>
                obtain rfl := Option.some.inj ho
                have e3 : a'.tmps[3]? = some (.pointer (some ⟨w.heap.size + 1 + 1, 0, none⟩)) := (hot 3 ⟨by kernel_rfl⟩).trans rfl
                exact wv19_fa_apiConf_2 3 _ _ rfl e3 ⟨rfl, rfl⟩
              | 20, ho, hdp, hot, hst =>
                obtain rfl := Option.some.inj ho
                have e135 : a'.tmps[135]? = some (.pointer (some ⟨w.heap.size + 1 + 1, 0 + 2, none⟩)) := hdp 19 (Reg.mem_of (by kernel_rfl)) _ rfl
                have e134 : a'.tmps[134]? = some (.slice (some ⟨g9, 0, none⟩) (nn + 1) cap9) := hdp 18 (Reg.mem_of (by kernel_rfl)) _ rfl
                have hw := hst.stored rfl
                subst hw
                exact st_known _ 135 134 _ _ _ (by simp) _ _ _ rfl rfl rfl e135 e134 zc zf ⟨rfl, rfl⟩
              | ii + 21, ho, _, _, _ => exact absurd ho (by simp)
            · intro us hul hus
              obtain ⟨z0_, z1_, z2_, z3_, z4_, z5_, z6_, z7_, z8_, z9_, z10_, z11_, z12_, z13_, z14_, z15_, z16_, z17_, z18_, z19_, rfl⟩ : ∃ z0_ z1_ z2_ z3_ z4_ z5_ z6_ z7_ z8_ z9_ z10_ z11_ z12_ z13_ z14_ z15_ z16_ z17_ z18_ z19_, us = [z0_, z1_, z2_, z3_, z4_, z5_, z6_, z7_, z8_, z9_, z10_, z11_, z12_, z13_, z14_, z15_, z16_, z17_, z18_, z19_] := by
                clear hus
                match us, hul with
                | [z0_, z1_, z2_, z3_, z4_, z5_, z6_, z7_, z8_, z9_, z10_, z11_, z12_, z13_, z14_, z15_, z16_, z17_, z18_, z19_], _ => exact ⟨z0_, z1_, z2_, z3_, z4_, z5_, z6_, z7_, z8_, z9_, z10_, z11_, z12_, z13_, z14_, z15_, z16_, z17_, z18_, z19_, rfl⟩
              clear hus hul
              simp only [List.map, List.zip, List.zipWith, Reg.puts, Act.put, List.setIfInBounds_toArray, List.set_cons_succ, List.set_cons_zero]
              go_wp2_with fail
              go_roundw
              case rel => exact ⟨k + 1, by omega, by omega, by go_num, _, _, _, _, _, _, L8.out, HFW.out⟩
              case measure => simp [Conf.intOf]; omega
          · clear hF hfew
            have y1 := (at_cell NC.out 2 : _ = some (Value.slice p2 n2 k2))
            have hcap := HR2.out.cap
            have HE : Hid (FwE W wr (w.heap.size + 1 + 1) 12 8 8 0) := Lib.hid ⟨_, _, _, _, _, _, HF.out, HFEW.out.mono (by omega) (by omega) (by omega) (by omega)⟩
            rcases Nat.lt_or_ge k n2 with h1 | h1
            · have q1 : (k : Int) < (n2 : Int) := by omega
              have q2 : ¬ (k : Int) < 8 := by omega
              go_wp2_with fail
              go_meet
              exact HE.out
            · have q1 : ¬ (k : Int) < (n2 : Int) := by omega
              go_wp2_with fail
              go_meet
              exact HE.out
      case rest =>
        have HF0 := Lib.hid hcut
        clear hcut
        apply hK3
        refine wp_seq_k fun K4 hK4 => ?_
        go_cut [9] (fun _ wx => FwE W wx (w.heap.size + 1 + 1) 12 8 8 12)
        case first =>
          as_aux_lemma =>
          go_wp2_with fail
          go_loopw [9] (fun i wr => ∃ k : Nat, k ≤ 12 ∧ k ≤ n3 ∧ i = .int .i64 k ∧ FwE W wr (w.heap.size + 1 + 1) 12 8 8 k) (fun i _ => 12 - (Conf.intOf i).toNat)
          case atStart => exact ⟨0, by omega, by omega, rfl, HF0.out⟩
          case round =>
            obtain ⟨k, hk12, hkn, rfl, v0, v1, v2, v3, bs, cf, hF, hfew⟩ := hrel
            rename World => wr
            have hsz := hF.out.size
            have HBW := Lib.hid (hF.out.below (B := w.heap.size) (by omega) fun q hq => by omega)
            have HBw := Lib.hid (HBX.out.below.trans HBW.out)
            have NC := Lib.hid (hF.out.at_ HBX.out.nc (by omega))
            obtain ⟨u0, m0, u1, m1, u2, m2, u3, m3, rfl, rfl, rfl, rfl⟩ := hF.shapes
            have HF := Lib.hid hF
            have HFEW := Lib.hid hfew
            have hblk := at_lt hF.blk
            by_cases hc : k < n3 ∧ k < 12
            · obtain ⟨hc0, hc1⟩ := hc
              have hl1 : k < c.accs.length := by rw [← HN3.out]; exact hc0
              have q1 : (k : Int) < (n3 : Int) := by omega
              have q2 : (k : Int) < 12 := by omega
              have hlc := at_lt NC.out
              obtain ⟨g, o, rfl, hg, hkn, c0, c1, c2⟩ := acc_at (HR3.out.below HBw.out) hl1
              have y1 := (at_cell NC.out 3 : _ = some (Value.slice (some ⟨g, o, none⟩) n3 k3))
              generalize c.accs[k].1 = x1 at *
              generalize c.accs[k].2.1 = x2 at *
              generalize c.accs[k].2.2 = x3 at *
              obtain ⟨z1, hz1⟩ : ∃ z, cutM x1 = z := ⟨_, rfl⟩
              obtain ⟨z2, hz2⟩ : ∃ z, cutM x2 = z := ⟨_, rfl⟩
              have HC1 := Lib.hid hz1
              have HC2 := Lib.hid hz2
              clear hz1 hz2
              have hzl : z1.length ≤ 40 ∧ z2.length ≤ 40 := by rw [← HC1.out, ← HC2.out]; exact ⟨cut_len _, cut_len _⟩
              have hcap := HR3.out.cap
              clear hl1 hF hfew
              have y0 := (at_cell HF.out.blk 3 : _ = some (Value.slice u3 cf.accs.length m3))
              have hown := HF.out.accs
              obtain ⟨nn, hnn⟩ : ∃ nn, nn = cf.accs.length := ⟨_, rfl⟩
              have HK := Lib.hid hnn
              have hle := HFEW.out.l3
              rw [← hnn] at hown y0 hle
              clear hnn
              have hBw : W.heap.size ≤ wr.heap.size := hsz
              have hdr := (Below.refl wr.heap.size wr).drew
              have hal := hdr.alloc (Nat.le_refl _) (.cells #[.string ⟨z1.toArray⟩, .string ⟨z2.toArray⟩, .int .i64 x3] 50)
              have HBE := Lib.hid (fun (w' : World) (h : w' = wr.drew ∨ w' = (wr.drew.alloc (.cells #[.string ⟨z1.toArray⟩, .string ⟨z2.toArray⟩, .int .i64 x3] 50))) => (h.elim (fun e => by rw [e]; exact hdr) (fun e => by rw [e]; exact hal) : Below wr.heap.size wr w'))
              have hownA : (wr.drew.alloc (.cells #[.string ⟨z1.toArray⟩, .string ⟨z2.toArray⟩, .int .i64 x3] 50)).ownsRow W.heap.size 50 3 (.slice u3 nn m3) nn (cf.accs.flatMap acv) := World.ownsRow.alloc (w := wr.drew) hown _
              obtain ⟨g9, cap9, W2, hrun, own2, grow2, -, -⟩ := run_append_lies (P := Try.prog) (wr.drew.alloc (.cells #[.string ⟨z1.toArray⟩, .string ⟨z2.toArray⟩, .int .i64 x3] 50)) 25 25 W.heap.size 50 i3 _ 3 40 Try.underlying25 hi3 hz30 hz31 hz32 rfl (by decide) _ nn _ hownA ⟨wr.heap.size, 0, none⟩ 1 1 [.string ⟨z1.toArray⟩, .string ⟨z2.toArray⟩, .int .i64 x3] rfl (new_news (w := (wr.drew.alloc (.cells #[.string ⟨z1.toArray⟩, .string ⟨z2.toArray⟩, .int .i64 x3] 50))) (at_new wr.drew (.cells #[.string ⟨z1.toArray⟩, .string ⟨z2.toArray⟩, .int .i64 x3] 50))) (by simp [Value.oneCell']) (by omega) (by unfold maxLen; omega) (by omega) (by simp; omega) _ rfl
              obtain ⟨⟨zc, zf, -⟩, L8⟩ := HF.out.addA (v' := .slice (some ⟨g9, 0, none⟩) (nn + 1) cap9) (z1, z2, x3) hal (by rw [HK.out] at own2; rw [HK.out]; exact own2) (by rw [HK.out] at grow2; exact grow2)
              have L8 := Lib.hid L8
              have HRUN := Lib.hid hrun
              clear own2 grow2 hownA hown hdr hal hrun
              have HFW := Lib.hid (HFEW.out.addA (x := (z1, z2, x3)) hzl)
              go_wp2_with fail
              refine Reg.wp_chain (by kernel_rfl) [some 147, some 148, some 149, some 150, some 151, some 152, some 153, some 154, some 155, some 156, some 157, some 158, some 159, some 160, some 161, some 162, some 163, some 164, some 165, some 166, some 167, some 168, some 169, some 170, some 171, some 172, none] [(.pointer (some ⟨w.heap.size + 1 + 1, 0 + 3, none⟩)), (.slice u3 nn m3), (.pointer (some ⟨w.heap.size, 0 + 3, none⟩)), (.slice (some ⟨g, o, none⟩) n3 k3), (.int .i64 k), (.pointer (some ⟨g, o + k * 3, none⟩)), (.pointer (some ⟨g, o + k * 3 + 0, none⟩)), (.string ⟨x1.toArray⟩), (.string ⟨z1.toArray⟩), (.pointer (some ⟨w.heap.size, 0 + 3, none⟩)), (.slice (some ⟨g, o, none⟩) n3 k3), (.int .i64 k), (.pointer (some ⟨g, o + k * 3, none⟩)), (.pointer (some ⟨g, o + k * 3 + 1, none⟩)), (.string ⟨x2.toArray⟩), (.string ⟨z2.toArray⟩), (.pointer (some ⟨w.heap.size, 0 + 3, none⟩)), (.slice (some ⟨g, o, none⟩) n3 k3), (.int .i64 k), (.pointer (some ⟨g, o + k * 3, none⟩)), (.pointer (some ⟨g, o + k * 3 + 2, none⟩)), (.int .i64 x3), (.agg #[.string ⟨z1.toArray⟩, .string ⟨z2.toArray⟩, .int .i64 x3]), (.slice (some ⟨wr.heap.size, 0, none⟩) 1 1), (.slice (some ⟨g9, 0, none⟩) (nn + 1) cap9), (.pointer (some ⟨w.heap.size + 1 + 1, 0 + 3, none⟩)), undef] 23 24 26 (wr.drew) ((wr.drew.alloc (.cells #[.string ⟨z1.toArray⟩, .string ⟨z2.toArray⟩, .int .i64 x3] 50))) (W2) (W2.setCell ⟨w.heap.size + 1 + 1, 3, none⟩ (.slice (some ⟨g9, 0, none⟩) (nn + 1) cap9)) [(147, 0), (148, 1), (149, 2), (150, 3), (151, 4), (152, 5), (153, 6), (154, 7), (155, 8), (156, 9), (157, 10), (158, 11), (159, 12), (160, 13), (161, 14), (162, 15), (163, 16), (164, 17), (165, 18), (166, 19), (167, 20), (168, 21), (169, 22), (170, 23), (171, 24), (172, 25)] (by kernel_rfl) (by kernel_rfl) (by kernel_rfl) (by decide) (by kernel_rfl) (by kernel_rfl) rfl ?_ ?_
              · intro ii op a' w' ho hdp hot hst
                match ii, ho, hdp, hot, hst with
                | 0, ho, hdp, hot, hst =>
                  obtain rfl := Option.some.inj ho
                  have e3 : a'.tmps[3]? = some (.pointer (some ⟨w.heap.size + 1 + 1, 0, none⟩)) := (hot 3 ⟨by kernel_rfl⟩).trans rfl
                  exact wv23_fa_apiConf_3 3 _ _ rfl e3 ⟨rfl, rfl⟩
                | 1, ho, hdp, hot, hst =>
                  obtain rfl := Option.some.inj ho
                  have e147 : a'.tmps[147]? = some (.pointer (some ⟨w.heap.size + 1 + 1, 0 + 3, none⟩)) := hdp 0 (Reg.mem_of (by kernel_rfl)) _ rfl
                  exact wv23_ld_slapiAccess 147 _ _ rfl e147 (((HBE.out _ (hst.early (by kernel_rfl))).cell (p := ⟨w.heap.size + 1 + 1, 3, none⟩) hblk).trans y0) ⟨rfl, rfl⟩
                | 2, ho, hdp, hot, hst =>
                  obtain rfl := Option.some.inj ho
                  have e1 : a'.tmps[1]? = some (.pointer (some ⟨w.heap.size, 0, none⟩)) := (hot 1 ⟨by kernel_rfl⟩).trans rfl
                  exact wv23_fa_apiConf_3 1 _ _ rfl e1 ⟨rfl, rfl⟩
                | 3, ho, hdp, hot, hst =>
                  obtain rfl := Option.some.inj ho
                  have e149 : a'.tmps[149]? = some (.pointer (some ⟨w.heap.size, 0 + 3, none⟩)) := hdp 2 (Reg.mem_of (by kernel_rfl)) _ rfl
                  exact wv23_ld_slapiAccess 149 _ _ rfl e149 (((HBE.out _ (hst.early (by kernel_rfl))).cell (p := ⟨w.heap.size, 3, none⟩) hlc).trans y1) ⟨rfl, rfl⟩
                | 4, ho, hdp, hot, hst =>
                  obtain rfl := Option.some.inj ho
                  have e9 : a'.tmps[9]? = some (.int .i64 k) := (hot 9 ⟨by kernel_rfl⟩).trans rfl
                  exact wv23_move 9 _ rfl e9 ⟨rfl, rfl⟩
                | 5, ho, hdp, hot, hst =>
                  obtain rfl := Option.some.inj ho
                  have e150 : a'.tmps[150]? = some (.slice (some ⟨g, o, none⟩) n3 k3) := hdp 3 (Reg.mem_of (by kernel_rfl)) _ rfl
                  have e151 : a'.tmps[151]? = some (.int .i64 k) := hdp 4 (Reg.mem_of (by kernel_rfl)) _ rfl
                  exact wv23_ix_slapiAccess 150 151 _ _ _ _ _ rfl e150 e151 hc0 ⟨rfl, rfl⟩
                | 6, ho, hdp, hot, hst =>
                  obtain rfl := Option.some.inj ho
                  have e152 : a'.tmps[152]? = some (.pointer (some ⟨g, o + k * 3, none⟩)) := hdp 5 (Reg.mem_of (by kernel_rfl)) _ rfl
                  exact wv23_fa_apiAccess_0 152 _ _ rfl e152 ⟨rfl, rfl⟩
                | 7, ho, hdp, hot, hst =>
                  obtain rfl := Option.some.inj ho
                  have e153 : a'.tmps[153]? = some (.pointer (some ⟨g, o + k * 3 + 0, none⟩)) := hdp 6 (Reg.mem_of (by kernel_rfl)) _ rfl
                  exact wv23_ld_string 153 _ _ rfl e153 (((HBE.out _ (hst.early (by kernel_rfl))).cell (p := ⟨g, o + k * 3, none⟩) hg).trans c0) ⟨rfl, rfl⟩
                | 8, ho, hdp, hot, hst =>
                  obtain rfl := Option.some.inj ho
                  have e154 : a'.tmps[154]? = some (.string ⟨x1.toArray⟩) := hdp 7 (Reg.mem_of (by kernel_rfl)) _ rfl
                  exact cut_known 154 _ _ _ rfl e154 HC1.out ⟨rfl, rfl⟩
                | 9, ho, hdp, hot, hst =>
                  obtain rfl := Option.some.inj ho
                  have e1 : a'.tmps[1]? = some (.pointer (some ⟨w.heap.size, 0, none⟩)) := (hot 1 ⟨by kernel_rfl⟩).trans rfl
                  exact wv23_fa_apiConf_3 1 _ _ rfl e1 ⟨rfl, rfl⟩
                | 10, ho, hdp, hot, hst =>
                  obtain rfl := Option.some.inj ho
                  have e156 : a'.tmps[156]? = some (.pointer (some ⟨w.heap.size, 0 + 3, none⟩)) := hdp 9 (Reg.mem_of (by kernel_rfl)) _ rfl
                  exact wv23_ld_slapiAccess 156 _ _ rfl e156 (((HBE.out _ (hst.early (by kernel_rfl))).cell (p := ⟨w.heap.size, 3, none⟩) hlc).trans y1) ⟨rfl, rfl⟩
                | 11, ho, hdp, hot, hst =>
                  obtain rfl := Option.some.inj ho
                  have e9 : a'.tmps[9]? = some (.int .i64 k) := (hot 9 ⟨by kernel_rfl⟩).trans rfl
                  exact wv23_move 9 _ rfl e9 ⟨rfl, rfl⟩
                | 12, ho, hdp, hot, hst =>
                  obtain rfl := Option.some.inj ho
                  have e157 : a'.tmps[157]? = some (.slice (some ⟨g, o, none⟩) n3 k3) := hdp 10 (Reg.mem_of (by kernel_rfl)) _ rfl
                  have e158 : a'.tmps[158]? = some (.int .i64 k) := hdp 11 (Reg.mem_of (by kernel_rfl)) _ rfl
                  exact wv23_ix_slapiAccess 157 158 _ _ _ _ _ rfl e157 e158 hc0 ⟨rfl, rfl⟩
                | 13, ho, hdp, hot, hst =>
                  obtain rfl := Option.some.inj ho
                  have e159 : a'.tmps[159]? = some (.pointer (some ⟨g, o + k * 3, none⟩)) := hdp 12 (Reg.mem_of (by kernel_rfl)) _ rfl
                  exact wv23_fa_apiAccess_1 159 _ _ rfl e159 ⟨rfl, rfl⟩
                | 14, ho, hdp, hot, hst =>
                  obtain rfl := Option.some.inj ho
                  have e160 : a'.tmps[160]? = some (.pointer (some ⟨g, o + k * 3 + 1, none⟩)) := hdp 13 (Reg.mem_of (by kernel_rfl)) _ rfl
                  exact wv23_ld_string 160 _ _ rfl e160 (((HBE.out _ (hst.early (by kernel_rfl))).cell (p := ⟨g, o + k * 3 + 1, none⟩) hg).trans c1) ⟨rfl, rfl⟩
                | 15, ho, hdp, hot, hst =>
                  obtain rfl := Option.some.inj ho
                  have e161 : a'.tmps[161]? = some (.string ⟨x2.toArray⟩) := hdp 14 (Reg.mem_of (by kernel_rfl)) _ rfl
                  exact cut_known 161 _ _ _ rfl e161 HC2.out ⟨rfl, rfl⟩
                | 16, ho, hdp, hot, hst =>
                  obtain rfl := Option.some.inj ho
                  have e1 : a'.tmps[1]? = some (.pointer (some ⟨w.heap.size, 0, none⟩)) := (hot 1 ⟨by kernel_rfl⟩).trans rfl
                  exact wv23_fa_apiConf_3 1 _ _ rfl e1 ⟨rfl, rfl⟩
                | 17, ho, hdp, hot, hst =>
                  obtain rfl := Option.some.inj ho
                  have e163 : a'.tmps[163]? = some (.pointer (some ⟨w.heap.size, 0 + 3, none⟩)) := hdp 16 (Reg.mem_of (by kernel_rfl)) _ rfl
                  exact wv23_ld_slapiAccess 163 _ _ rfl e163 (((HBE.out _ (hst.early (by kernel_rfl))).cell (p := ⟨w.heap.size, 3, none⟩) hlc).trans y1) ⟨rfl, rfl⟩
                | 18, ho, hdp, hot, hst =>
                  obtain rfl := Option.some.inj ho
                  have e9 : a'.tmps[9]? = some (.int .i64 k) := (hot 9 ⟨by kernel_rfl⟩).trans rfl
                  exact wv23_move 9 _ rfl e9 ⟨rfl, rfl⟩
                | 19, ho, hdp, hot, hst =>
                  obtain rfl := Option.some.inj ho
                  have e164 : a'.tmps[164]? = some (.slice (some ⟨g, o, none⟩) n3 k3) := hdp 17 (Reg.mem_of (by kernel_rfl)) _ rfl
                  have e165 : a'.tmps[165]? = some (.int .i64 k) := hdp 18 (Reg.mem_of (by kernel_rfl)) _ rfl
                  exact wv23_ix_slapiAccess 164 165 _ _ _ _ _ rfl e164 e165 hc0 ⟨rfl, rfl⟩
                | 20, ho, hdp, hot, hst =>
                  obtain rfl := Option.some.inj ho
                  have e166 : a'.tmps[166]? = some (.pointer (some ⟨g, o + k * 3, none⟩)) := hdp 19 (Reg.mem_of (by kernel_rfl)) _ rfl
                  exact wv23_fa_apiAccess_2 166 _ _ rfl e166 ⟨rfl, rfl⟩
                | 21, ho, hdp, hot, hst =>
                  obtain rfl := Option.some.inj ho
                  have e167 : a'.tmps[167]? = some (.pointer (some ⟨g, o + k * 3 + 2, none⟩)) := hdp 20 (Reg.mem_of (by kernel_rfl)) _ rfl
                  exact wv23_ld_int 167 _ _ rfl e167 (((HBE.out _ (hst.early (by kernel_rfl))).cell (p := ⟨g, o + k * 3 + 2, none⟩) hg).trans c2) ⟨rfl, rfl⟩
                | 22, ho, hdp, hot, hst =>
                  obtain rfl := Option.some.inj ho
                  have e155 : a'.tmps[155]? = some (.string ⟨z1.toArray⟩) := hdp 8 (Reg.mem_of (by kernel_rfl)) _ rfl
                  have e162 : a'.tmps[162]? = some (.string ⟨z2.toArray⟩) := hdp 15 (Reg.mem_of (by kernel_rfl)) _ rfl
                  have e168 : a'.tmps[168]? = some (.int .i64 x3) := hdp 21 (Reg.mem_of (by kernel_rfl)) _ rfl
                  exact bd_acc 155 162 168 _ _ _ rfl e155 e162 e168 ⟨rfl, rfl⟩
                | 23, ho, hdp, hot, hst =>
                  obtain rfl := Option.some.inj ho
                  have e169 : a'.tmps[169]? = some (.agg #[.string ⟨z1.toArray⟩, .string ⟨z2.toArray⟩, .int .i64 x3]) := hdp 22 (Reg.mem_of (by kernel_rfl)) _ rfl
                  have hw := hst.made rfl
                  subst hw
                  exact bs_acc 169 _ _ _ rfl e169 ⟨rfl, rfl⟩
                | 24, ho, hdp, hot, hst =>
                  obtain rfl := Option.some.inj ho
                  have e148 : a'.tmps[148]? = some (.slice u3 nn m3) := hdp 1 (Reg.mem_of (by kernel_rfl)) _ rfl
                  have e170 : a'.tmps[170]? = some (.slice (some ⟨wr.heap.size, 0, none⟩) 1 1) := hdp 23 (Reg.mem_of (by kernel_rfl)) _ rfl
                  have hw := hst.app rfl
                  subst hw
                  exact ap_known 148 170 _ _ rfl rfl _ _ _ _ e148 e170 HRUN.out ⟨rfl, rfl⟩
                | 25, ho, hdp, hot, hst =>
                  obtain rfl := Option.some.inj ho
                  have e3 : a'.tmps[3]? = some (.pointer (some ⟨w.heap.size + 1 + 1, 0, none⟩)) := (hot 3 ⟨by kernel_rfl⟩).trans rfl
                  exact wv23_fa_apiConf_3 3 _ _ rfl e3 ⟨rfl, rfl⟩
                | 26, ho, hdp, hot, hst =>
                  obtain rfl := Option.some.inj ho
                  have e172 : a'.tmps[172]? = some (.pointer (some ⟨w.heap.size + 1 + 1, 0 + 3, none⟩)) := hdp 25 (Reg.mem_of (by kernel_rfl)) _ rfl
                  have e171 : a'.tmps[171]? = some (.slice (some ⟨g9, 0, none⟩) (nn + 1) cap9) := hdp 24 (Reg.mem_of (by kernel_rfl)) _ rfl
                  have hw := hst.stored rfl
                  subst hw
                  exact st_known _ 172 171 _ _ _ (by simp) _ _ _ rfl rfl rfl e172 e171 zc zf ⟨rfl, rfl⟩
                | ii + 27, ho, _, _, _ => exact absurd ho (by simp)
              · intro us hul hus
                obtain ⟨z0_, z1_, z2_, z3_, z4_, z5_, z6_, z7_, z8_, z9_, z10_, z11_, z12_, z13_, z14_, z15_, z16_, z17_, z18_, z19_, z20_, z21_, z22_, z23_, z24_, z25_, rfl⟩ : ∃ z0_ z1_ z2_ z3_ z4_ z5_ z6_ z7_ z8_ z9_ z10_ z11_ z12_ z13_ z14_ z15_ z16_ z17_ z18_ z19_ z20_ z21_ z22_ z23_ z24_ z25_, us = [z0_, z1_, z2_, z3_, z4_, z5_, z6_, z7_, z8_, z9_, z10_, z11_, z12_, z13_, z14_, z15_, z16_, z17_, z18_, z19_, z20_, z21_, z22_, z23_, z24_, z25_] := by
                  clear hus
                  match us, hul with
                  | [z0_, z1_, z2_, z3_, z4_, z5_, z6_, z7_, z8_, z9_, z10_, z11_, z12_, z13_, z14_, z15_, z16_, z17_, z18_, z19_, z20_, z21_, z22_, z23_, z24_, z25_], _ => exact ⟨z0_, z1_, z2_, z3_, z4_, z5_, z6_, z7_, z8_, z9_, z10_, z11_, z12_, z13_, z14_, z15_, z16_, z17_, z18_, z19_, z20_, z21_, z22_, z23_, z24_, z25_, rfl⟩
                clear hus hul
                simp only [List.map, List.zip, List.zipWith, Reg.puts, Act.put, List.setIfInBounds_toArray, List.set_cons_succ, List.set_cons_zero]
                go_wp2_with fail
                go_roundw
                case rel => exact ⟨k + 1, by omega, by omega, by go_num, _, _, _, _, _, _, L8.out, HFW.out⟩
                case measure => simp [Conf.intOf]; omega
            · clear hF hfew
              have y1 := (at_cell NC.out 3 : _ = some (Value.slice p3 n3 k3))
              have hcap := HR3.out.cap
              have HE : Hid (FwE W wr (w.heap.size + 1 + 1) 12 8 8 12) := Lib.hid ⟨_, _, _, _, _, _, HF.out, HFEW.out.mono (by omega) (by omega) (by omega) (by omega)⟩
              rcases Nat.lt_or_ge k n3 with h1 | h1
              · have q1 : (k : Int) < (n3 : Int) := by omega
                have q2 : ¬ (k : Int) < 12 := by omega
                go_wp2_with fail
                go_meet
                exact HE.out
              · have q1 : ¬ (k : Int) < (n3 : Int) := by omega
                go_wp2_with fail
                go_meet
                exact HE.out
        case rest =>
          have HF0 := Lib.hid hcut
          clear hcut
          apply hK4
          refine wp_seq_k fun K6 hK6 => ?_
          go_cut [10] (fun _ wx => FwE W wx (w.heap.size + 1 + 1) 12 8 8 12)
          case first =>
            as_aux_lemma =>
            go_wp2_with fail
            go_loopw [10] (fun i wr => ∃ k : Nat, k ≤ 10 ∧ i = .int .i64 k ∧ FwE W wr (w.heap.size + 1 + 1) 12 8 8 12) (fun i _ => 10 - (Conf.intOf i).toNat)
            case atStart => exact ⟨0, by omega, rfl, HF0.out⟩
            case round =>
              obtain ⟨k, hk12, rfl, v0, v1, v2, v3, bs, cf, hF, hfew⟩ := hrel
              rename World => wr
              have hsz := hF.out.size
              have HBW := Lib.hid (hF.out.below (B := w.heap.size) (by omega) fun q hq => by omega)
              have HBw := Lib.hid (HBX.out.below.trans HBW.out)
              have NC := Lib.hid (hF.out.at_ HBX.out.nc (by omega))
              obtain ⟨u0, m0, u1, m1, u2, m2, u3, m3, rfl, rfl, rfl, rfl⟩ := hF.shapes
              have HF := Lib.hid hF
              have HFEW := Lib.hid hfew
              have hblk := at_lt hF.blk
              have hlc := at_lt NC.out
              rcases Nat.lt_or_eq_of_le hk12 with hlt | rfl
              · obtain ⟨s, hs⟩ : ∃ s : Bs, wr.cell? ⟨w.heap.size, 4 + k, none⟩ = some (.string ⟨s.toArray⟩) := brk_at NC.out hlt
                have q1 : (k : Int) < 10 := by omega
                obtain ⟨⟨s0, zc⟩, zf, L8⟩ := hF.brk k hlt s
                have HL8 := Lib.hid L8
                clear L8 hF hfew
                by_cases h255 : s.length ≤ 255
                · have q2 : (s.length : Int) ≤ 255 := by omega
                  go_wp2_with fail
                  go_roundw
                  case rel => exact ⟨k + 1, by omega, by go_num, _, _, _, _, _, _, HL8.out, HFEW.out⟩
                  case measure => simp [Conf.intOf]; omega
                · have q2 : ¬ (s.length : Int) ≤ 255 := by omega
                  go_wp2_with fail
                  go_roundw
                  case rel => exact ⟨k + 1, by omega, by go_num, _, _, _, _, _, _, HF.out, HFEW.out⟩
                  case measure => simp [Conf.intOf]; omega
              · clear hF hfew
                rw [show ((10 : Nat) : Int) = 10 from rfl]
                go_wp2_with fail
                go_meet
                exact ⟨_, _, _, _, _, _, HF.out, HFEW.out⟩
          case rest =>
            obtain ⟨v0, v1, v2, v3, bs, cf, hF, hfew⟩ := hcut
            obtain ⟨u0, m0, u1, m1, u2, m2, u3, m3, rfl, rfl, rfl, rfl⟩ := hF.shapes
            have hten := hF.ten
            obtain ⟨d0, d1, d2, d3, d4, d5, d6, d7, d8, d9, rfl⟩ : ∃ d0 d1 d2 d3 d4 d5 d6 d7 d8 d9, bs = [d0, d1, d2, d3, d4, d5, d6, d7, d8, d9] := by
              match bs, hten with
              | [d0, d1, d2, d3, d4, d5, d6, d7, d8, d9], _ => exact ⟨d0, d1, d2, d3, d4, d5, d6, d7, d8, d9, rfl⟩
            rename World => wr
            have HFEW := Lib.hid hfew
            have hnb := hF.blk
            have hnr := hF.out.at_ HBX.out.nr (by omega)
            have HNR := Lib.hid hnr
            have HF := Lib.hid hF
            have HSZ := Lib.hid hF.out.size
            have cb0 : wr.cell? ⟨w.heap.size + 1 + 1, 0, none⟩ = some (.slice u0 cf.cons.length m0) := (at_cell hnb 0).trans rfl
            have cb1 : wr.cell? ⟨w.heap.size + 1 + 1, 1, none⟩ = some (.slice u1 cf.grps.length m1) := (at_cell hnb 1).trans rfl
            have cb2 : wr.cell? ⟨w.heap.size + 1 + 1, 2, none⟩ = some (.slice u2 cf.usrs.length m2) := (at_cell hnb 2).trans rfl
            have cb3 : wr.cell? ⟨w.heap.size + 1 + 1, 3, none⟩ = some (.slice u3 cf.accs.length m3) := (at_cell hnb 3).trans rfl
            have cb4 : wr.cell? ⟨w.heap.size + 1 + 1, 4, none⟩ = some (.string ⟨d0.toArray⟩) := (at_cell hnb 4).trans rfl
            have cb5 : wr.cell? ⟨w.heap.size + 1 + 1, 5, none⟩ = some (.string ⟨d1.toArray⟩) := (at_cell hnb 5).trans rfl
            have cb6 : wr.cell? ⟨w.heap.size + 1 + 1, 6, none⟩ = some (.string ⟨d2.toArray⟩) := (at_cell hnb 6).trans rfl
            have cb7 : wr.cell? ⟨w.heap.size + 1 + 1, 7, none⟩ = some (.string ⟨d3.toArray⟩) := (at_cell hnb 7).trans rfl
            have cb8 : wr.cell? ⟨w.heap.size + 1 + 1, 8, none⟩ = some (.string ⟨d4.toArray⟩) := (at_cell hnb 8).trans rfl
            have cb9 : wr.cell? ⟨w.heap.size + 1 + 1, 9, none⟩ = some (.string ⟨d5.toArray⟩) := (at_cell hnb 9).trans rfl
            have cb10 : wr.cell? ⟨w.heap.size + 1 + 1, 10, none⟩ = some (.string ⟨d6.toArray⟩) := (at_cell hnb 10).trans rfl
            have cb11 : wr.cell? ⟨w.heap.size + 1 + 1, 11, none⟩ = some (.string ⟨d7.toArray⟩) := (at_cell hnb 11).trans rfl
            have cb12 : wr.cell? ⟨w.heap.size + 1 + 1, 12, none⟩ = some (.string ⟨d8.toArray⟩) := (at_cell hnb 12).trans rfl
            have cb13 : wr.cell? ⟨w.heap.size + 1 + 1, 13, none⟩ = some (.string ⟨d9.toArray⟩) := (at_cell hnb 13).trans rfl
            have cr0 : wr.cell? ⟨w.heap.size + 1, 0, none⟩ = some (.slice none 0 0) := (at_cell hnr 0).trans rfl
            have cr1 : wr.cell? ⟨w.heap.size + 1, 1, none⟩ = some (.slice none 0 0) := (at_cell hnr 1).trans rfl
            have cr2 : wr.cell? ⟨w.heap.size + 1, 2, none⟩ = some (.slice none 0 0) := (at_cell hnr 2).trans rfl
            have cr3 : wr.cell? ⟨w.heap.size + 1, 3, none⟩ = some (.slice none 0 0) := (at_cell hnr 3).trans rfl
            have cr4 : wr.cell? ⟨w.heap.size + 1, 4, none⟩ = some (.string ⟨#[]⟩) := (at_cell hnr 4).trans rfl
            have cr5 : wr.cell? ⟨w.heap.size + 1, 5, none⟩ = some (.string ⟨#[]⟩) := (at_cell hnr 5).trans rfl
            have cr6 : wr.cell? ⟨w.heap.size + 1, 6, none⟩ = some (.string ⟨#[]⟩) := (at_cell hnr 6).trans rfl
            have cr7 : wr.cell? ⟨w.heap.size + 1, 7, none⟩ = some (.string ⟨#[]⟩) := (at_cell hnr 7).trans rfl
            have cr8 : wr.cell? ⟨w.heap.size + 1, 8, none⟩ = some (.string ⟨#[]⟩) := (at_cell hnr 8).trans rfl
            have cr9 : wr.cell? ⟨w.heap.size + 1, 9, none⟩ = some (.string ⟨#[]⟩) := (at_cell hnr 9).trans rfl
            have cr10 : wr.cell? ⟨w.heap.size + 1, 10, none⟩ = some (.string ⟨#[]⟩) := (at_cell hnr 10).trans rfl
            have cr11 : wr.cell? ⟨w.heap.size + 1, 11, none⟩ = some (.string ⟨#[]⟩) := (at_cell hnr 11).trans rfl
            have cr12 : wr.cell? ⟨w.heap.size + 1, 12, none⟩ = some (.string ⟨#[]⟩) := (at_cell hnr 12).trans rfl
            have cr13 : wr.cell? ⟨w.heap.size + 1, 13, none⟩ = some (.string ⟨#[]⟩) := (at_cell hnr 13).trans rfl
            have fr0 := at_frozen hnr 0
            have fr1 := at_frozen hnr 1
            have fr2 := at_frozen hnr 2
            have fr3 := at_frozen hnr 3
            have fr4 := at_frozen hnr 4
            have fr5 := at_frozen hnr 5
            have fr6 := at_frozen hnr 6
            have fr7 := at_frozen hnr 7
            have fr8 := at_frozen hnr 8
            have fr9 := at_frozen hnr 9
            have fr10 := at_frozen hnr 10
            have fr11 := at_frozen hnr 11
            have fr12 := at_frozen hnr 12
            have fr13 := at_frozen hnr 13
            have HNB := Lib.hid hnb
            clear hnb hnr hF hfew hten
            apply hK6
            go_wp2_with fail
            clear cb0 cr0 fr0 cb1 cr1 fr1 cb2 cr2 fr2 cb3 cr3 fr3 cb4 cr4 fr4 cb5 cr5 fr5 cb6 cr6 fr6 cb7 cr7 fr7 cb8 cr8 fr8 cb9 cr9 fr9 cb10 cr10 fr10 cb11 cr11 fr11 cb12 cr12 fr12 cb13 cr13 fr13
            have NY := set14_row (y0 := .slice u0 cf.cons.length m0) (y1 := .slice u1 cf.grps.length m1) (y2 := .slice u2 cf.usrs.length m2) (y3 := .slice u3 cf.accs.length m3) (y4 := .string ⟨d0.toArray⟩) (y5 := .string ⟨d1.toArray⟩) (y6 := .string ⟨d2.toArray⟩) (y7 := .string ⟨d3.toArray⟩) (y8 := .string ⟨d4.toArray⟩) (y9 := .string ⟨d5.toArray⟩) (y10 := .string ⟨d6.toArray⟩) (y11 := .string ⟨d7.toArray⟩) (y12 := .string ⟨d8.toArray⟩) (y13 := .string ⟨d9.toArray⟩) HNR.out
            have OY := set14_out wr (w.heap.size + 1) (.slice u0 cf.cons.length m0) (.slice u1 cf.grps.length m1) (.slice u2 cf.usrs.length m2) (.slice u3 cf.accs.length m3) (.string ⟨d0.toArray⟩) (.string ⟨d1.toArray⟩) (.string ⟨d2.toArray⟩) (.string ⟨d3.toArray⟩) (.string ⟨d4.toArray⟩) (.string ⟨d5.toArray⟩) (.string ⟨d6.toArray⟩) (.string ⟨d7.toArray⟩) (.string ⟨d8.toArray⟩) (.string ⟨d9.toArray⟩)
            generalize ((((((((((((((wr.setCell ⟨w.heap.size + 1, 0, none⟩ (.slice u0 cf.cons.length m0)).setCell ⟨w.heap.size + 1, 1, none⟩ (.slice u1 cf.grps.length m1)).setCell ⟨w.heap.size + 1, 2, none⟩ (.slice u2 cf.usrs.length m2)).setCell ⟨w.heap.size + 1, 3, none⟩ (.slice u3 cf.accs.length m3)).setCell ⟨w.heap.size + 1, 4, none⟩ (.string ⟨d0.toArray⟩)).setCell ⟨w.heap.size + 1, 5, none⟩ (.string ⟨d1.toArray⟩)).setCell ⟨w.heap.size + 1, 6, none⟩ (.string ⟨d2.toArray⟩)).setCell ⟨w.heap.size + 1, 7, none⟩ (.string ⟨d3.toArray⟩)).setCell ⟨w.heap.size + 1, 8, none⟩ (.string ⟨d4.toArray⟩)).setCell ⟨w.heap.size + 1, 9, none⟩ (.string ⟨d5.toArray⟩)).setCell ⟨w.heap.size + 1, 10, none⟩ (.string ⟨d6.toArray⟩)).setCell ⟨w.heap.size + 1, 11, none⟩ (.string ⟨d7.toArray⟩)).setCell ⟨w.heap.size + 1, 12, none⟩ (.string ⟨d8.toArray⟩)).setCell ⟨w.heap.size + 1, 13, none⟩ (.string ⟨d9.toArray⟩)) = Y at NY OY ⊢
            have c0 : Y.cell? ⟨w.heap.size + 1, 0, none⟩ = some (.slice u0 cf.cons.length m0) := (at_cell NY 0).trans rfl
            have c1 : Y.cell? ⟨w.heap.size + 1, 1, none⟩ = some (.slice u1 cf.grps.length m1) := (at_cell NY 1).trans rfl
            have c2 : Y.cell? ⟨w.heap.size + 1, 2, none⟩ = some (.slice u2 cf.usrs.length m2) := (at_cell NY 2).trans rfl
            have c3 : Y.cell? ⟨w.heap.size + 1, 3, none⟩ = some (.slice u3 cf.accs.length m3) := (at_cell NY 3).trans rfl
            have c4 : Y.cell? ⟨w.heap.size + 1, 4, none⟩ = some (.string ⟨d0.toArray⟩) := (at_cell NY 4).trans rfl
            have c5 : Y.cell? ⟨w.heap.size + 1, 5, none⟩ = some (.string ⟨d1.toArray⟩) := (at_cell NY 5).trans rfl
            have c6 : Y.cell? ⟨w.heap.size + 1, 6, none⟩ = some (.string ⟨d2.toArray⟩) := (at_cell NY 6).trans rfl
            have c7 : Y.cell? ⟨w.heap.size + 1, 7, none⟩ = some (.string ⟨d3.toArray⟩) := (at_cell NY 7).trans rfl
            have c8 : Y.cell? ⟨w.heap.size + 1, 8, none⟩ = some (.string ⟨d4.toArray⟩) := (at_cell NY 8).trans rfl
            have c9 : Y.cell? ⟨w.heap.size + 1, 9, none⟩ = some (.string ⟨d5.toArray⟩) := (at_cell NY 9).trans rfl
            have c10 : Y.cell? ⟨w.heap.size + 1, 10, none⟩ = some (.string ⟨d6.toArray⟩) := (at_cell NY 10).trans rfl
            have c11 : Y.cell? ⟨w.heap.size + 1, 11, none⟩ = some (.string ⟨d7.toArray⟩) := (at_cell NY 11).trans rfl
            have c12 : Y.cell? ⟨w.heap.size + 1, 12, none⟩ = some (.string ⟨d8.toArray⟩) := (at_cell NY 12).trans rfl
            have c13 : Y.cell? ⟨w.heap.size + 1, 13, none⟩ = some (.string ⟨d9.toArray⟩) := (at_cell NY 13).trans rfl
            have R : Hid (∀ Z, Out (fun k => k < w.heap.size) Y Z → CfR Z (.slice u0 cf.cons.length m0) (.slice u1 cf.grps.length m1) (.slice u2 cf.usrs.length m2) (.slice u3 cf.accs.length m3) cf) := Lib.hid fun Z hZ => HF.out.res2 (S := fun k => k = w.heap.size + 1 ∨ k < w.heap.size) ((OY.mono fun _ _ e => .inl e).trans hZ fun _ _ e => .inr e) fun k e => by omega
            have B := Lib.hid (HBX.out.below.trans ((HF.out.out.below (B := w.heap.size) (by omega) fun q hq => by omega).trans (OY.below (by have := HSZ.out; omega) fun q hq => by omega)))
            clear NY OY HNR HNB
            refine bodyPost_ret (v := confV (.slice u0 cf.cons.length m0) (.slice u1 cf.grps.length m1) (.slice u2 cf.usrs.length m2) (.slice u3 cf.accs.length m3) d0 d1 d2 d3 d4 d5 d6 d7 d8 d9) ?_ rfl ⟨_, _, _, _, _, _, _, _, _, _, _, _, _, _, _, rfl, R.out, HFEW.out, B.out⟩
            simp [results, Try.results6, go_sem, confV, *]
end Go.Proofs.Ytomnkmcabkoagaa.Rgt
