/-
  Layer 16 (rights): RightsPicks, walked.
-/
import Derived.Test.YtpbjmfchnihjeaaRgtLawB
import Derived.Test.YtpbjmfchnihjeaaRgtFewO
namespace Go.Proofs.Ytpbjmfchnihjeaa.Rgt
open Go.RowKit Go.Proofs.Ytpbjmfchnihjeaa.Own Go.Proofs.Ytpbjmfchnihjeaa.Rw Go.Proofs.Ytpbjmfchnihjeaa.Tree Go.Proofs.Ytpbjmfchnihjeaa.Conf

def txK (s : Bs) : Reg.Kn := ⟨fun w v => ∃ g, v = .slice (some ⟨g, 0, none⟩) 1 1 ∧ Texts w (some ⟨g, 0, none⟩) 1 [s], fun _ _ _ hb h => by obtain ⟨g, e, r⟩ := h; exact ⟨g, e, r.below hb⟩, none, fun _ _ _ h => nomatch h⟩
theorem tx_new (w : World) (s : Bs) : (txK s).sat (w.alloc (.cells #[.string ⟨s.toArray⟩] 9)) (.slice (some ⟨w.heap.size, 0, none⟩) 1 1) := by
  have r := rd_lit (n := 1) (k := 1) (xs := strs [s]) (at_new w (.cells #[.string ⟨s.toArray⟩] 9)) rfl rfl (by unfold maxLen; decide)
  exact ⟨_, rfl, ⟨⟨r.cap, r.max, .inr (r.cells.resolve_left (by decide))⟩⟩⟩
theorem fits_one (m : Cf) (q : Bs) : fitsM m [q] = fitM m q := by unfold fitsM fitM; congr 1; funext x; simp
theorem pick_ok (c : Cf) (u n : Bs) : ((pickM c u n).2 ≠ 0 ∧ (pickM c u n).1 = -1) ∨ ((pickM c u n).2 = 0 ∧ ∃ k, ∃ h : k < c.cons.length, (pickM c u n).1 = k ∧ sees c.accs u c.cons[k] = true) := by
  have hb : ∀ i, begM c u n = [i] → ∃ h : i < c.cons.length, sees c.accs u c.cons[i] = true := fun i e => by
    have : i ∈ begM c u n := by rw [e]; exact List.mem_singleton.2 rfl
    obtain ⟨h, g⟩ := plc_mem.1 this
    exact ⟨h, by simp at g; exact g.2⟩
  rcases idx_cases c.cons (nmF n) with ⟨e, hf⟩ | ⟨k, hk, e, hf⟩
  · have hone : ∀ x, c.cons.find? (nmF n) = some x → sees c.accs u x = false := fun x hx => by rw [hf] at hx; cases hx
    rcases hbg : begM c u n with _ | ⟨i, _ | ⟨j, r⟩⟩
    · rw [pk_none hf hbg]; left; exact ⟨by decide, rfl⟩
    · rw [pk_one hone hbg]; right
      obtain ⟨h, g⟩ := hb i hbg
      exact ⟨rfl, i, h, rfl, g⟩
    · rw [pk_many hone hbg]; left; exact ⟨by decide, rfl⟩
  · cases hs : sees c.accs u c.cons[k] with
    | true => rw [pk_yes hf hs, e]; right; exact ⟨rfl, k, hk, rfl, hs⟩
    | false =>
      have hone : ∀ x, c.cons.find? (nmF n) = some x → sees c.accs u x = false := fun x hx => by rw [hf] at hx; cases hx; exact hs
      rcases hbg : begM c u n with _ | ⟨i, _ | ⟨j, r⟩⟩
      · rw [pk_denied hf hs hbg]; left; exact ⟨by decide, rfl⟩
      · rw [pk_one hone hbg]; right
        obtain ⟨h, g⟩ := hb i hbg
        exact ⟨rfl, i, h, rfl, g⟩
      · rw [pk_many hone hbg]; left; exact ⟨by decide, rfl⟩
set_option maxRecDepth 100000 in
theorem wp_move {o : Oper} {a : Act} {w : World} {K : Act → World → Prop} {Q : Exit → Act → World → Prop} (t : Nat) (v : Value) (ho : o.op = .move (.tmp t)) (h1 : a.tmps[t]? = some v) (h : K (a.put o.dst v) w) : Oper.wp Try.prog o a w K Q := by
  obtain ⟨d, op, ty, ps, af, gd⟩ := o
  cases ho
  unfold Oper.wp
  simp [go_sem, h1, Oper.upon]
  exact h
set_option maxRecDepth 100000 in
theorem wp_call2_wheelhouseref16Same {o : Oper} {a : Act} {w : World} {K : Act → World → Prop} {Q : Exit → Act → World → Prop} (t0 : Nat) (t1 : Nat) (v0 : Value) (v1 : Value) (ts : Array TypeId) (S : World → Value → Prop) (ho : o.op = .call { callee := .value (.func 11), args := #[.tmp t0, .tmp t1], argTypes := ts }) (h0 : a.tmps[t0]? = some v0) (h1 : a.tmps[t1]? = some v1) (h : Calls Try.prog 11 #[v0, v1] w (fun e w2 => ∃ v, e = .returned v ∧ S w2 v ∧ Below w.heap.size w w2)) (hK : ∀ v w2, S w2 v → Below w.heap.size w w2 → K (a.put o.dst v) w2) : Oper.wp Try.prog o a w K Q := by
  obtain ⟨d, op, ty, ps, af, gd⟩ := o
  cases ho
  unfold Oper.wp
  simp [go_sem, Oper.upon, h0, h1]
  refine h.mono ?_
  rintro e w2 ⟨v, rfl, hk, hb⟩
  exact hK v w2 hk hb
set_option maxRecDepth 100000 in
theorem wp_not {o : Oper} {a : Act} {w : World} {K : Act → World → Prop} {Q : Exit → Act → World → Prop} (t : Nat) (x q : Bool) (ho : o.op = .unOp .not 4 (.tmp t)) (h1 : a.tmps[t]? = some (.bool x)) (hq : (!x) = q) (h : K (a.put o.dst (.bool q)) w) : Oper.wp Try.prog o a w K Q := by
  obtain ⟨d, op, ty, ps, af, gd⟩ := o
  cases ho
  unfold Oper.wp
  subst hq
  simp [go_sem, h1, Oper.upon]
  exact h
set_option maxRecDepth 100000 in
theorem wp_neq_apiCode {o : Oper} {a : Act} {w : World} {K : Act → World → Prop} {Q : Exit → Act → World → Prop} (t u : Nat) (x y : Int) (q : Bool) (ho : o.op = .binOp .neq 36 (.tmp t) (.tmp u) 36) (h1 : a.tmps[t]? = some (.int .i64 x)) (h2 : a.tmps[u]? = some (.int .i64 y)) (hq : (x != y) = q) (h : K (a.put o.dst (.bool q)) w) : Oper.wp Try.prog o a w K Q := by
  obtain ⟨d, op, ty, ps, af, gd⟩ := o
  cases ho
  unfold Oper.wp
  subst hq
  simp [go_sem, h1, h2, Oper.upon]
  exact h
set_option maxRecDepth 100000 in
theorem wp_pickFct {o : Oper} {a : Act} {w : World} {K : Act → World → Prop} {Q : Exit → Act → World → Prop} (t z : Nat) (cy : Value) (v : Value) (ho : o.op = .pick (.tmp t) (.const cy) (.tmp z)) (h1 : a.tmps[t]? = some (.bool false)) (h2 : a.tmps[z]? = some v) (h : K (a.put o.dst v) w) : Oper.wp Try.prog o a w K Q := by
  obtain ⟨d, op, ty, ps, af, gd⟩ := o
  cases ho
  unfold Oper.wp
  simp [go_sem, h1, h2, Oper.upon]
  exact h
set_option maxRecDepth 100000 in
theorem wp_neq_int {o : Oper} {a : Act} {w : World} {K : Act → World → Prop} {Q : Exit → Act → World → Prop} (t u : Nat) (x y : Int) (q : Bool) (ho : o.op = .binOp .neq 3 (.tmp t) (.tmp u) 3) (h1 : a.tmps[t]? = some (.int .i64 x)) (h2 : a.tmps[u]? = some (.int .i64 y)) (hq : (x != y) = q) (h : K (a.put o.dst (.bool q)) w) : Oper.wp Try.prog o a w K Q := by
  obtain ⟨d, op, ty, ps, af, gd⟩ := o
  cases ho
  unfold Oper.wp
  subst hq
  simp [go_sem, h1, h2, Oper.upon]
  exact h
set_option maxRecDepth 100000 in
set_option maxHeartbeats 4000000 in
theorem wp_ldConf {o : Oper} {a : Act} {w : World} {K : Act → World → Prop} {Q : Exit → Act → World → Prop} (t b : Nat) (x0 x1 x2 x3 x4 x5 x6 x7 x8 x9 x10 x11 x12 x13 : Value) (ho : o.op = .load 28 (.tmp t)) (h1 : a.tmps[t]? = some (.pointer (some ⟨b, 0, none⟩))) (N : w.heap[b]? = some (.cells #[x0, x1, x2, x3, x4, x5, x6, x7, x8, x9, x10, x11, x12, x13] 28 (0, 0))) (h : K (a.put o.dst (.agg #[x0, x1, x2, x3, x4, x5, x6, x7, x8, x9, x10, x11, x12, x13])) w) : Oper.wp Try.prog o a w K Q := by
  have c0 : w.cell? ⟨b, 0, none⟩ = some x0 := at_cell N 0
  have c1 : w.cell? ⟨b, 1, none⟩ = some x1 := at_cell N 1
  have c2 : w.cell? ⟨b, 2, none⟩ = some x2 := at_cell N 2
  have c3 : w.cell? ⟨b, 3, none⟩ = some x3 := at_cell N 3
  have c4 : w.cell? ⟨b, 4, none⟩ = some x4 := at_cell N 4
  have c5 : w.cell? ⟨b, 5, none⟩ = some x5 := at_cell N 5
  have c6 : w.cell? ⟨b, 6, none⟩ = some x6 := at_cell N 6
  have c7 : w.cell? ⟨b, 7, none⟩ = some x7 := at_cell N 7
  have c8 : w.cell? ⟨b, 8, none⟩ = some x8 := at_cell N 8
  have c9 : w.cell? ⟨b, 9, none⟩ = some x9 := at_cell N 9
  have c10 : w.cell? ⟨b, 10, none⟩ = some x10 := at_cell N 10
  have c11 : w.cell? ⟨b, 11, none⟩ = some x11 := at_cell N 11
  have c12 : w.cell? ⟨b, 12, none⟩ = some x12 := at_cell N 12
  have c13 : w.cell? ⟨b, 13, none⟩ = some x13 := at_cell N 13
  clear N
  obtain ⟨d, op, ty, ps, af, gd⟩ := o
  cases ho
  unfold Oper.wp
  simp [go_sem, h1, Oper.upon, c0, c1, c2, c3, c4, c5, c6, c7, c8, c9, c10, c11, c12, c13]
  exact h
set_option maxRecDepth 100000 in
theorem wp_call2_rightsFit {o : Oper} {a : Act} {w : World} {K : Act → World → Prop} {Q : Exit → Act → World → Prop} (t0 : Nat) (t1 : Nat) (v0 : Value) (v1 : Value) (ts : Array TypeId) (S : World → Value → Prop) (ho : o.op = .call { callee := .value (.func 21), args := #[.tmp t0, .tmp t1], argTypes := ts }) (h0 : a.tmps[t0]? = some v0) (h1 : a.tmps[t1]? = some v1) (h : Calls Try.prog 21 #[v0, v1] w (fun e w2 => ∃ v, e = .returned v ∧ S w2 v ∧ Below w.heap.size w w2)) (hK : ∀ v w2, S w2 v → Below w.heap.size w w2 → K (a.put o.dst v) w2) : Oper.wp Try.prog o a w K Q := by
  obtain ⟨d, op, ty, ps, af, gd⟩ := o
  cases ho
  unfold Oper.wp
  simp [go_sem, Oper.upon, h0, h1]
  refine h.mono ?_
  rintro e w2 ⟨v, rfl, hk, hb⟩
  exact hK v w2 hk hb
set_option maxRecDepth 100000 in
theorem wp_call2_wheelhouseref16Fit {o : Oper} {a : Act} {w : World} {K : Act → World → Prop} {Q : Exit → Act → World → Prop} (t0 : Nat) (t1 : Nat) (v0 : Value) (v1 : Value) (ts : Array TypeId) (S : World → Value → Prop) (ho : o.op = .call { callee := .value (.func 22), args := #[.tmp t0, .tmp t1], argTypes := ts }) (h0 : a.tmps[t0]? = some v0) (h1 : a.tmps[t1]? = some v1) (h : Calls Try.prog 22 #[v0, v1] w (fun e w2 => ∃ v, e = .returned v ∧ S w2 v ∧ Below w.heap.size w w2)) (hK : ∀ v w2, S w2 v → Below w.heap.size w w2 → K (a.put o.dst v) w2) : Oper.wp Try.prog o a w K Q := by
  obtain ⟨d, op, ty, ps, af, gd⟩ := o
  cases ho
  unfold Oper.wp
  simp [go_sem, Oper.upon, h0, h1]
  refine h.mono ?_
  rintro e w2 ⟨v, rfl, hk, hb⟩
  exact hK v w2 hk hb
set_option maxRecDepth 100000 in
theorem wp_geq_intc {o : Oper} {a : Act} {w : World} {K : Act → World → Prop} {Q : Exit → Act → World → Prop} (t : Nat) (x y : Int) (q : Bool) (ho : o.op = .binOp .geq 3 (.tmp t) (.const (.int .i64 y)) 3) (h1 : a.tmps[t]? = some (.int .i64 x)) (hq : (decide (y ≤ x)) = q) (h : K (a.put o.dst (.bool q)) w) : Oper.wp Try.prog o a w K Q := by
  obtain ⟨d, op, ty, ps, af, gd⟩ := o
  cases ho
  unfold Oper.wp
  subst hq
  simp [go_sem, h1, Oper.upon]
  exact h
set_option maxRecDepth 100000 in
theorem wp_fa_apiConf_0 {o : Oper} {a : Act} {w : World} {K : Act → World → Prop} {Q : Exit → Act → World → Prop} (t b of : Nat) (ho : o.op = .fieldAddr 28 (.tmp t) 0) (h1 : a.tmps[t]? = some (.pointer (some ⟨b, of, none⟩))) (h : K (a.put o.dst (.pointer (some ⟨b, of + 0, none⟩))) w) : Oper.wp Try.prog o a w K Q := by
  obtain ⟨d, op, ty, ps, af, gd⟩ := o
  cases ho
  unfold Oper.wp
  simp [go_sem, h1, Oper.upon]
  exact h
set_option maxRecDepth 100000 in
theorem wp_ld_slapiConsole {o : Oper} {a : Act} {w : World} {K : Act → World → Prop} {Q : Exit → Act → World → Prop} (t : Nat) (ad : Addr) (v : Value) (ho : o.op = .load 22 (.tmp t)) (h1 : a.tmps[t]? = some (.pointer (some ad))) (hc : w.cell? ad = some v) (h : K (a.put o.dst v) w) : Oper.wp Try.prog o a w K Q := by
  obtain ⟨d, op, ty, ps, af, gd⟩ := o
  cases ho
  unfold Oper.wp
  simp [go_sem, h1, hc, Oper.upon]
  exact h
set_option maxRecDepth 100000 in
theorem wp_len {o : Oper} {a : Act} {w : World} {K : Act → World → Prop} {Q : Exit → Act → World → Prop} (t : Nat) (ts : Array TypeId) (q : Option Addr) (n c : Nat) (hts : ts = #[22]) (ho : o.op = .call { callee := .builtin .len, args := #[.tmp t], argTypes := ts }) (h1 : a.tmps[t]? = some (.slice q n c)) (h : K (a.put o.dst (.int .i64 n)) w) : Oper.wp Try.prog o a w K Q := by
  obtain ⟨d, op, ty, ps, af, gd⟩ := o
  cases ho
  unfold Oper.wp
  subst hts
  simp [go_sem, h1, Oper.upon]
  exact h
set_option maxRecDepth 100000 in
theorem wp_lss_int {o : Oper} {a : Act} {w : World} {K : Act → World → Prop} {Q : Exit → Act → World → Prop} (t u : Nat) (x y : Int) (q : Bool) (ho : o.op = .binOp .lss 3 (.tmp t) (.tmp u) 3) (h1 : a.tmps[t]? = some (.int .i64 x)) (h2 : a.tmps[u]? = some (.int .i64 y)) (hq : (decide (x < y)) = q) (h : K (a.put o.dst (.bool q)) w) : Oper.wp Try.prog o a w K Q := by
  obtain ⟨d, op, ty, ps, af, gd⟩ := o
  cases ho
  unfold Oper.wp
  subst hq
  simp [go_sem, h1, h2, Oper.upon]
  exact h
set_option maxRecDepth 100000 in
theorem wp_pickTtc {o : Oper} {a : Act} {w : World} {K : Act → World → Prop} {Q : Exit → Act → World → Prop} (t y : Nat) (cz : Value) (v : Value) (ho : o.op = .pick (.tmp t) (.tmp y) (.const cz)) (h1 : a.tmps[t]? = some (.bool true)) (h2 : a.tmps[y]? = some v) (h : K (a.put o.dst v) w) : Oper.wp Try.prog o a w K Q := by
  obtain ⟨d, op, ty, ps, af, gd⟩ := o
  cases ho
  unfold Oper.wp
  simp [go_sem, h1, h2, Oper.upon]
  exact h
set_option maxRecDepth 100000 in
theorem wp_ix_slapiConsole {o : Oper} {a : Act} {w : World} {K : Act → World → Prop} {Q : Exit → Act → World → Prop} (t u g of n c i : Nat) (ho : o.op = .indexAddr 22 (.tmp t) (.tmp u)) (h1 : a.tmps[t]? = some (.slice (some ⟨g, of, none⟩) n c)) (h2 : a.tmps[u]? = some (.int .i64 i)) (hi : i < n) (h : K (a.put o.dst (.pointer (some ⟨g, of + i * 10, none⟩))) w) : Oper.wp Try.prog o a w K Q := by
  obtain ⟨d, op, ty, ps, af, gd⟩ := o
  cases ho
  unfold Oper.wp
  have hi2 : (i : Int) < (n : Int) := by omega
  simp [go_sem, h1, h2, hi2, Oper.upon]
  exact h
set_option maxRecDepth 100000 in
theorem wp_fa_apiConsole_0 {o : Oper} {a : Act} {w : World} {K : Act → World → Prop} {Q : Exit → Act → World → Prop} (t b of : Nat) (ho : o.op = .fieldAddr 47 (.tmp t) 0) (h1 : a.tmps[t]? = some (.pointer (some ⟨b, of, none⟩))) (h : K (a.put o.dst (.pointer (some ⟨b, of + 0, none⟩))) w) : Oper.wp Try.prog o a w K Q := by
  obtain ⟨d, op, ty, ps, af, gd⟩ := o
  cases ho
  unfold Oper.wp
  simp [go_sem, h1, Oper.upon]
  exact h
set_option maxRecDepth 100000 in
theorem wp_ld_string {o : Oper} {a : Act} {w : World} {K : Act → World → Prop} {Q : Exit → Act → World → Prop} (t : Nat) (ad : Addr) (v : Value) (ho : o.op = .load 9 (.tmp t)) (h1 : a.tmps[t]? = some (.pointer (some ad))) (hc : w.cell? ad = some v) (h : K (a.put o.dst v) w) : Oper.wp Try.prog o a w K Q := by
  obtain ⟨d, op, ty, ps, af, gd⟩ := o
  cases ho
  unfold Oper.wp
  simp [go_sem, h1, hc, Oper.upon]
  exact h
set_option maxRecDepth 100000 in
theorem wp_call4c_rightsMay {o : Oper} {a : Act} {w : World} {K : Act → World → Prop} {Q : Exit → Act → World → Prop} (t0 : Nat) (t1 : Nat) (t2 : Nat) (v0 : Value) (v1 : Value) (v2 : Value) (v3 : Value) (ts : Array TypeId) (S : World → Value → Prop) (ho : o.op = .call { callee := .value (.func 10), args := #[.tmp t0, .tmp t1, .tmp t2, .const v3], argTypes := ts }) (h0 : a.tmps[t0]? = some v0) (h1 : a.tmps[t1]? = some v1) (h2 : a.tmps[t2]? = some v2) (h : Calls Try.prog 10 #[v0, v1, v2, v3] w (fun e w2 => ∃ v, e = .returned v ∧ S w2 v ∧ Below w.heap.size w w2)) (hK : ∀ v w2, S w2 v → Below w.heap.size w w2 → K (a.put o.dst v) w2) : Oper.wp Try.prog o a w K Q := by
  obtain ⟨d, op, ty, ps, af, gd⟩ := o
  cases ho
  unfold Oper.wp
  simp [go_sem, Oper.upon, h0, h1, h2]
  refine h.mono ?_
  rintro e w2 ⟨v, rfl, hk, hb⟩
  exact hK v w2 hk hb
set_option maxRecDepth 100000 in
theorem wp_call0_wheelhouselaw16works {o : Oper} {a : Act} {w : World} {K : Act → World → Prop} {Q : Exit → Act → World → Prop} (ts : Array TypeId) (S : World → Value → Prop) (ho : o.op = .call { callee := .value (.func 16), args := #[], argTypes := ts }) (h : Calls Try.prog 16 #[] w (fun e w2 => ∃ v, e = .returned v ∧ S w2 v ∧ Below w.heap.size w w2)) (hK : ∀ v w2, S w2 v → Below w.heap.size w w2 → K (a.put o.dst v) w2) : Oper.wp Try.prog o a w K Q := by
  obtain ⟨d, op, ty, ps, af, gd⟩ := o
  cases ho
  unfold Oper.wp
  simp [go_sem, Oper.upon, Act.put]
  refine h.mono ?_
  rintro e w2 ⟨v, rfl, hk, hb⟩
  exact hK v w2 hk hb
set_option maxRecDepth 100000 in
theorem wp_assign {o : Oper} {a : Act} {w : World} {K : Act → World → Prop} {Q : Exit → Act → World → Prop} (t : Nat) (v : Value) (ho : o.op = .assign (.tmp t)) (h1 : a.tmps[t]? = some v) (h : K (a.put o.dst v) w) : Oper.wp Try.prog o a w K Q := by
  obtain ⟨d, op, ty, ps, af, gd⟩ := o
  cases ho
  unfold Oper.wp
  simp [go_sem, h1, Oper.upon]
  exact h
set_option maxRecDepth 100000 in
set_option maxHeartbeats 8000000 in
theorem picks_walk (hFew : FewSpec) (c : Cf) (p0 p1 p2 p3 : Option Addr) (n0 n1 n2 n3 k0 k1 k2 k3 : Nat) (b0 b1 b2 b3 b4 b5 b6 b7 b8 b9 : Bs) (u q : Bs) (w : World) (h : CfA w (.slice p0 n0 k0) (.slice p1 n1 k1) (.slice p2 n2 k2) (.slice p3 n3 k3) c) :
    Calls Try.prog 4 #[confV (.slice p0 n0 k0) (.slice p1 n1 k1) (.slice p2 n2 k2) (.slice p3 n3 k3) b0 b1 b2 b3 b4 b5 b6 b7 b8 b9, .string ⟨u.toArray⟩, .string ⟨q.toArray⟩] w fun e w' => e = .returned (.bool true) ∧ Below w.heap.size w w' := by
  have hB0 := (Below.refl w.heap.size w).alloc (Nat.le_refl _) (.cells #[.slice p0 n0 k0, .slice p1 n1 k1, .slice p2 n2 k2, .slice p3 n3 k3, .string ⟨b0.toArray⟩, .string ⟨b1.toArray⟩, .string ⟨b2.toArray⟩, .string ⟨b3.toArray⟩, .string ⟨b4.toArray⟩, .string ⟨b5.toArray⟩, .string ⟨b6.toArray⟩, .string ⟨b7.toArray⟩, .string ⟨b8.toArray⟩, .string ⟨b9.toArray⟩] 28)
  have N0 := at_new w (.cells #[.slice p0 n0 k0, .slice p1 n1 k1, .slice p2 n2 k2, .slice p3 n3 k3, .string ⟨b0.toArray⟩, .string ⟨b1.toArray⟩, .string ⟨b2.toArray⟩, .string ⟨b3.toArray⟩, .string ⟨b4.toArray⟩, .string ⟨b5.toArray⟩, .string ⟨b6.toArray⟩, .string ⟨b7.toArray⟩, .string ⟨b8.toArray⟩, .string ⟨b9.toArray⟩] 28)
  have hs0 : (w.alloc (.cells #[.slice p0 n0 k0, .slice p1 n1 k1, .slice p2 n2 k2, .slice p3 n3 k3, .string ⟨b0.toArray⟩, .string ⟨b1.toArray⟩, .string ⟨b2.toArray⟩, .string ⟨b3.toArray⟩, .string ⟨b4.toArray⟩, .string ⟨b5.toArray⟩, .string ⟨b6.toArray⟩, .string ⟨b7.toArray⟩, .string ⟨b8.toArray⟩, .string ⟨b9.toArray⟩] 28)).heap.size = w.heap.size + 1 := by simp
  have hBX := hB0
  have NX := N0
  have hsX := hs0
  have HFC := Lib.hid (hFew c p0 p1 p2 p3 n0 n1 n2 n3 k0 k1 k2 k3 b0 b1 b2 b3 b4 b5 b6 b7 b8 b9 (w.alloc (.cells #[.slice p0 n0 k0, .slice p1 n1 k1, .slice p2 n2 k2, .slice p3 n3 k3, .string ⟨b0.toArray⟩, .string ⟨b1.toArray⟩, .string ⟨b2.toArray⟩, .string ⟨b3.toArray⟩, .string ⟨b4.toArray⟩, .string ⟨b5.toArray⟩, .string ⟨b6.toArray⟩, .string ⟨b7.toArray⟩, .string ⟨b8.toArray⟩, .string ⟨b9.toArray⟩] 28)) (h.keep hBX))
  have HB0 := Lib.hid hBX
  have HN0 := Lib.hid NX
  have HS0 := Lib.hid hsX
  obtain ⟨u', hu'⟩ : ∃ z, cutM u = z := ⟨_, rfl⟩
  obtain ⟨q', hq'⟩ : ∃ z, cutM q = z := ⟨_, rfl⟩
  have HC1 : Hid (∀ w', Calls Try.prog 7 #[.string ⟨u.toArray⟩] w' fun e w2 => e = .returned (.string ⟨u'.toArray⟩) ∧ w' = w2) := Lib.hid fun w' => by rw [← hu']; exact cut_calls u w'
  have HC2 : Hid (∀ w', Calls Try.prog 7 #[.string ⟨q.toArray⟩] w' fun e w2 => e = .returned (.string ⟨q'.toArray⟩) ∧ w' = w2) := Lib.hid fun w' => by rw [← hq']; exact cut_calls q w'
  have hul : u'.length ≤ 65536 := by rw [← hu']; exact Nat.le_trans (cut_le u) (by decide)
  have hql : q'.length ≤ 65536 := by rw [← hq']; exact Nat.le_trans (cut_le q) (by decide)
  clear h hu' hq' N0 hs0 hB0
  unfold confV at *
  go_enter Try.func4, Try.ntmps4
  go_wp2_with fail
  refine HFC.out.mono ?_
  rintro e w1 ⟨v0, v1, v2, v3, d0, d1, d2, d3, d4, d5, d6, d7, d8, d9, m, rfl, hR, hS, hb1⟩
  obtain ⟨⟨q0, j0, rfl, -⟩, ⟨q1, j1, gs, rfl, -, -⟩, ⟨q2, j2, rfl, -⟩, ⟨q3, j3, rfl, -⟩⟩ := hR w1 (Out.refl _ _)
  have N1 := (hb1.block _ (by rw [HS0.out]; omega)).trans HN0.out
  have HN1 := Lib.hid N1
  have HB1 := Lib.hid (HB0.out.trans (hb1.mono HB0.out.size))
  have HR := Lib.hid hR
  have HS := Lib.hid hS
  have hz1 : w.heap.size < w1.heap.size := at_lt N1
  have a0 : w1.cell? ⟨w.heap.size, 0, none⟩ = some (.slice p0 n0 k0) := (at_cell N1 0).trans rfl
  have f0 := at_frozen N1 0
  have a1 : w1.cell? ⟨w.heap.size, 1, none⟩ = some (.slice p1 n1 k1) := (at_cell N1 1).trans rfl
  have f1 := at_frozen N1 1
  have a2 : w1.cell? ⟨w.heap.size, 2, none⟩ = some (.slice p2 n2 k2) := (at_cell N1 2).trans rfl
  have f2 := at_frozen N1 2
  have a3 : w1.cell? ⟨w.heap.size, 3, none⟩ = some (.slice p3 n3 k3) := (at_cell N1 3).trans rfl
  have f3 := at_frozen N1 3
  have a4 : w1.cell? ⟨w.heap.size, 4, none⟩ = some (.string ⟨b0.toArray⟩) := (at_cell N1 4).trans rfl
  have f4 := at_frozen N1 4
  have a5 : w1.cell? ⟨w.heap.size, 5, none⟩ = some (.string ⟨b1.toArray⟩) := (at_cell N1 5).trans rfl
  have f5 := at_frozen N1 5
  have a6 : w1.cell? ⟨w.heap.size, 6, none⟩ = some (.string ⟨b2.toArray⟩) := (at_cell N1 6).trans rfl
  have f6 := at_frozen N1 6
  have a7 : w1.cell? ⟨w.heap.size, 7, none⟩ = some (.string ⟨b3.toArray⟩) := (at_cell N1 7).trans rfl
  have f7 := at_frozen N1 7
  have a8 : w1.cell? ⟨w.heap.size, 8, none⟩ = some (.string ⟨b4.toArray⟩) := (at_cell N1 8).trans rfl
  have f8 := at_frozen N1 8
  have a9 : w1.cell? ⟨w.heap.size, 9, none⟩ = some (.string ⟨b5.toArray⟩) := (at_cell N1 9).trans rfl
  have f9 := at_frozen N1 9
  have a10 : w1.cell? ⟨w.heap.size, 10, none⟩ = some (.string ⟨b6.toArray⟩) := (at_cell N1 10).trans rfl
  have f10 := at_frozen N1 10
  have a11 : w1.cell? ⟨w.heap.size, 11, none⟩ = some (.string ⟨b7.toArray⟩) := (at_cell N1 11).trans rfl
  have f11 := at_frozen N1 11
  have a12 : w1.cell? ⟨w.heap.size, 12, none⟩ = some (.string ⟨b8.toArray⟩) := (at_cell N1 12).trans rfl
  have f12 := at_frozen N1 12
  have a13 : w1.cell? ⟨w.heap.size, 13, none⟩ = some (.string ⟨b9.toArray⟩) := (at_cell N1 13).trans rfl
  have f13 := at_frozen N1 13
  clear N1 hb1 hR hS HFC
  unfold confV
  go_upto_region 2 with (go_at_call 7; first | (refine (HC1.out _).mono ?_; rintro e w' ⟨rfl, rfl⟩) | (refine (HC2.out _).mono ?_; rintro e w' ⟨rfl, rfl⟩))
  clear a0 f0 a1 f1 a2 f2 a3 f3 a4 f4 a5 f5 a6 f6 a7 f7 a8 f8 a9 f9 a10 f10 a11 f11 a12 f12 a13 f13
  have NY := set14_row (y0 := .slice q0 m.cons.length j0) (y1 := .slice q1 m.grps.length j1) (y2 := .slice q2 m.usrs.length j2) (y3 := .slice q3 m.accs.length j3) (y4 := .string ⟨d0.toArray⟩) (y5 := .string ⟨d1.toArray⟩) (y6 := .string ⟨d2.toArray⟩) (y7 := .string ⟨d3.toArray⟩) (y8 := .string ⟨d4.toArray⟩) (y9 := .string ⟨d5.toArray⟩) (y10 := .string ⟨d6.toArray⟩) (y11 := .string ⟨d7.toArray⟩) (y12 := .string ⟨d8.toArray⟩) (y13 := .string ⟨d9.toArray⟩) HN1.out
  have OY := set14_out w1 w.heap.size (.slice q0 m.cons.length j0) (.slice q1 m.grps.length j1) (.slice q2 m.usrs.length j2) (.slice q3 m.accs.length j3) (.string ⟨d0.toArray⟩) (.string ⟨d1.toArray⟩) (.string ⟨d2.toArray⟩) (.string ⟨d3.toArray⟩) (.string ⟨d4.toArray⟩) (.string ⟨d5.toArray⟩) (.string ⟨d6.toArray⟩) (.string ⟨d7.toArray⟩) (.string ⟨d8.toArray⟩) (.string ⟨d9.toArray⟩)
  generalize ((((((((((((((w1.setCell ⟨w.heap.size, 0, none⟩ (.slice q0 m.cons.length j0)).setCell ⟨w.heap.size, 1, none⟩ (.slice q1 m.grps.length j1)).setCell ⟨w.heap.size, 2, none⟩ (.slice q2 m.usrs.length j2)).setCell ⟨w.heap.size, 3, none⟩ (.slice q3 m.accs.length j3)).setCell ⟨w.heap.size, 4, none⟩ (.string ⟨d0.toArray⟩)).setCell ⟨w.heap.size, 5, none⟩ (.string ⟨d1.toArray⟩)).setCell ⟨w.heap.size, 6, none⟩ (.string ⟨d2.toArray⟩)).setCell ⟨w.heap.size, 7, none⟩ (.string ⟨d3.toArray⟩)).setCell ⟨w.heap.size, 8, none⟩ (.string ⟨d4.toArray⟩)).setCell ⟨w.heap.size, 9, none⟩ (.string ⟨d5.toArray⟩)).setCell ⟨w.heap.size, 10, none⟩ (.string ⟨d6.toArray⟩)).setCell ⟨w.heap.size, 11, none⟩ (.string ⟨d7.toArray⟩)).setCell ⟨w.heap.size, 12, none⟩ (.string ⟨d8.toArray⟩)).setCell ⟨w.heap.size, 13, none⟩ (.string ⟨d9.toArray⟩)) = Y at NY OY ⊢
  have HY : Hid (Bxd Y w.heap.size (.slice q0 m.cons.length j0) (.slice q1 m.grps.length j1) (.slice q2 m.usrs.length j2) (.slice q3 m.accs.length j3) d0 d1 d2 d3 d4 d5 d6 d7 d8 d9 m) := Lib.hid ⟨NY, HR.out Y (OY.mono fun k _ e => by rw [HS0.out]; omega), HS.out⟩
  have HBY := Lib.hid (HB1.out.trans (OY.below (by omega) fun k e => by omega))
  have hzY : w.heap.size < Y.heap.size := at_lt NY
  clear NY OY hzY
  obtain ⟨G1, hG1⟩ : ∃ G1, (grpM m q').1 = G1 := ⟨_, rfl⟩
  obtain ⟨gc, hgc⟩ : ∃ gc, (grpM m q').2 = gc := ⟨_, rfl⟩
  obtain ⟨pi, hpi⟩ : ∃ pi, (pickM m u' q').1 = pi := ⟨_, rfl⟩
  obtain ⟨pc, hpc⟩ : ∃ pc, (pickM m u' q').2 = pc := ⟨_, rfl⟩
  have HPK := Lib.hid (pick_ok m u' q')
  rw [hpi, hpc] at HPK
  have EG1 := Lib.hid hG1
  have EGC := Lib.hid hgc
  have EPI := Lib.hid hpi
  have EPC := Lib.hid hpc
  clear hG1 hgc hpi hpc
  have y0 : Y.cell? ⟨w.heap.size, 0, none⟩ = some (.slice q0 m.cons.length j0) := (at_cell HY.out.at_ 0).trans rfl
  have y1 : Y.cell? ⟨w.heap.size, 1, none⟩ = some (.slice q1 m.grps.length j1) := (at_cell HY.out.at_ 1).trans rfl
  have y2 : Y.cell? ⟨w.heap.size, 2, none⟩ = some (.slice q2 m.usrs.length j2) := (at_cell HY.out.at_ 2).trans rfl
  have y3 : Y.cell? ⟨w.heap.size, 3, none⟩ = some (.slice q3 m.accs.length j3) := (at_cell HY.out.at_ 3).trans rfl
  have y4 : Y.cell? ⟨w.heap.size, 4, none⟩ = some (.string ⟨d0.toArray⟩) := (at_cell HY.out.at_ 4).trans rfl
  have y5 : Y.cell? ⟨w.heap.size, 5, none⟩ = some (.string ⟨d1.toArray⟩) := (at_cell HY.out.at_ 5).trans rfl
  have y6 : Y.cell? ⟨w.heap.size, 6, none⟩ = some (.string ⟨d2.toArray⟩) := (at_cell HY.out.at_ 6).trans rfl
  have y7 : Y.cell? ⟨w.heap.size, 7, none⟩ = some (.string ⟨d3.toArray⟩) := (at_cell HY.out.at_ 7).trans rfl
  have y8 : Y.cell? ⟨w.heap.size, 8, none⟩ = some (.string ⟨d4.toArray⟩) := (at_cell HY.out.at_ 8).trans rfl
  have y9 : Y.cell? ⟨w.heap.size, 9, none⟩ = some (.string ⟨d5.toArray⟩) := (at_cell HY.out.at_ 9).trans rfl
  have y10 : Y.cell? ⟨w.heap.size, 10, none⟩ = some (.string ⟨d6.toArray⟩) := (at_cell HY.out.at_ 10).trans rfl
  have y11 : Y.cell? ⟨w.heap.size, 11, none⟩ = some (.string ⟨d7.toArray⟩) := (at_cell HY.out.at_ 11).trans rfl
  have y12 : Y.cell? ⟨w.heap.size, 12, none⟩ = some (.string ⟨d8.toArray⟩) := (at_cell HY.out.at_ 12).trans rfl
  have y13 : Y.cell? ⟨w.heap.size, 13, none⟩ = some (.string ⟨d9.toArray⟩) := (at_cell HY.out.at_ 13).trans rfl
  have HCT := Lib.hid (Group_cf HY.out.few d0 d1 d2 d3 d4 d5 d6 d7 d8 d9 HY.out.rd q')
  unfold GrPost confV at HCT
  rw [EGC.out] at HCT
  go_wp2_with fail
  refine HCT.out.mono ?_
  rintro e w2 ⟨v1, rfl, ho, hb2⟩
  rw [EG1.out] at ho
  have V12 : Hid ((rdK G1).sat w2 v1) := Lib.hid (by obtain ⟨q9, d9_, e9, r9⟩ := own_rd ho; exact ⟨q9, d9_, e9, r9⟩)
  clear ho
  have HY2 : Hid (Bxd w2 w.heap.size (.slice q0 m.cons.length j0) (.slice q1 m.grps.length j1) (.slice q2 m.usrs.length j2) (.slice q3 m.accs.length j3) d0 d1 d2 d3 d4 d5 d6 d7 d8 d9 m) := Lib.hid ⟨(hb2.block _ (at_lt HY.out.at_)).trans HY.out.at_, HY.out.rd.below hb2, HY.out.few⟩
  have HBY2 := Lib.hid (HBY.out.trans (hb2.mono HBY.out.size))
  clear y0 y1 y2 y3 y4 y5 y6 y7 y8 y9 y10 y11 y12 y13
  clear hb2 HCT HY HBY
  have HY := HY2
  have HBY := HBY2
  clear HY2 HBY2
  generalize w2 = Y at *
  have y0 : Y.cell? ⟨w.heap.size, 0, none⟩ = some (.slice q0 m.cons.length j0) := (at_cell HY.out.at_ 0).trans rfl
  have y1 : Y.cell? ⟨w.heap.size, 1, none⟩ = some (.slice q1 m.grps.length j1) := (at_cell HY.out.at_ 1).trans rfl
  have y2 : Y.cell? ⟨w.heap.size, 2, none⟩ = some (.slice q2 m.usrs.length j2) := (at_cell HY.out.at_ 2).trans rfl
  have y3 : Y.cell? ⟨w.heap.size, 3, none⟩ = some (.slice q3 m.accs.length j3) := (at_cell HY.out.at_ 3).trans rfl
  have y4 : Y.cell? ⟨w.heap.size, 4, none⟩ = some (.string ⟨d0.toArray⟩) := (at_cell HY.out.at_ 4).trans rfl
  have y5 : Y.cell? ⟨w.heap.size, 5, none⟩ = some (.string ⟨d1.toArray⟩) := (at_cell HY.out.at_ 5).trans rfl
  have y6 : Y.cell? ⟨w.heap.size, 6, none⟩ = some (.string ⟨d2.toArray⟩) := (at_cell HY.out.at_ 6).trans rfl
  have y7 : Y.cell? ⟨w.heap.size, 7, none⟩ = some (.string ⟨d3.toArray⟩) := (at_cell HY.out.at_ 7).trans rfl
  have y8 : Y.cell? ⟨w.heap.size, 8, none⟩ = some (.string ⟨d4.toArray⟩) := (at_cell HY.out.at_ 8).trans rfl
  have y9 : Y.cell? ⟨w.heap.size, 9, none⟩ = some (.string ⟨d5.toArray⟩) := (at_cell HY.out.at_ 9).trans rfl
  have y10 : Y.cell? ⟨w.heap.size, 10, none⟩ = some (.string ⟨d6.toArray⟩) := (at_cell HY.out.at_ 10).trans rfl
  have y11 : Y.cell? ⟨w.heap.size, 11, none⟩ = some (.string ⟨d7.toArray⟩) := (at_cell HY.out.at_ 11).trans rfl
  have y12 : Y.cell? ⟨w.heap.size, 12, none⟩ = some (.string ⟨d8.toArray⟩) := (at_cell HY.out.at_ 12).trans rfl
  have y13 : Y.cell? ⟨w.heap.size, 13, none⟩ = some (.string ⟨d9.toArray⟩) := (at_cell HY.out.at_ 13).trans rfl
  have HCT := Lib.hid (rGroup_cf HY.out.few d0 d1 d2 d3 d4 d5 d6 d7 d8 d9 HY.out.rd q')
  unfold GrPost confV at HCT
  rw [EGC.out] at HCT
  go_wp2_with fail
  refine HCT.out.mono ?_
  rintro e w2 ⟨v2, rfl, ho, hb2⟩
  rw [EG1.out] at ho
  have V22 : Hid ((rdK G1).sat w2 v2) := Lib.hid (by obtain ⟨q9, d9_, e9, r9⟩ := own_rd ho; exact ⟨q9, d9_, e9, r9⟩)
  clear ho
  have V13 : Hid ((rdK G1).sat w2 v1) := Lib.hid ((rdK G1).mono _ _ _ hb2 V12.out)
  clear V12
  have V12 := V13
  clear V13
  have HY2 : Hid (Bxd w2 w.heap.size (.slice q0 m.cons.length j0) (.slice q1 m.grps.length j1) (.slice q2 m.usrs.length j2) (.slice q3 m.accs.length j3) d0 d1 d2 d3 d4 d5 d6 d7 d8 d9 m) := Lib.hid ⟨(hb2.block _ (at_lt HY.out.at_)).trans HY.out.at_, HY.out.rd.below hb2, HY.out.few⟩
  have HBY2 := Lib.hid (HBY.out.trans (hb2.mono HBY.out.size))
  clear y0 y1 y2 y3 y4 y5 y6 y7 y8 y9 y10 y11 y12 y13
  clear hb2 HCT HY HBY
  have HY := HY2
  have HBY := HBY2
  clear HY2 HBY2
  generalize w2 = Y at *
  have y0 : Y.cell? ⟨w.heap.size, 0, none⟩ = some (.slice q0 m.cons.length j0) := (at_cell HY.out.at_ 0).trans rfl
  have y1 : Y.cell? ⟨w.heap.size, 1, none⟩ = some (.slice q1 m.grps.length j1) := (at_cell HY.out.at_ 1).trans rfl
  have y2 : Y.cell? ⟨w.heap.size, 2, none⟩ = some (.slice q2 m.usrs.length j2) := (at_cell HY.out.at_ 2).trans rfl
  have y3 : Y.cell? ⟨w.heap.size, 3, none⟩ = some (.slice q3 m.accs.length j3) := (at_cell HY.out.at_ 3).trans rfl
  have y4 : Y.cell? ⟨w.heap.size, 4, none⟩ = some (.string ⟨d0.toArray⟩) := (at_cell HY.out.at_ 4).trans rfl
  have y5 : Y.cell? ⟨w.heap.size, 5, none⟩ = some (.string ⟨d1.toArray⟩) := (at_cell HY.out.at_ 5).trans rfl
  have y6 : Y.cell? ⟨w.heap.size, 6, none⟩ = some (.string ⟨d2.toArray⟩) := (at_cell HY.out.at_ 6).trans rfl
  have y7 : Y.cell? ⟨w.heap.size, 7, none⟩ = some (.string ⟨d3.toArray⟩) := (at_cell HY.out.at_ 7).trans rfl
  have y8 : Y.cell? ⟨w.heap.size, 8, none⟩ = some (.string ⟨d4.toArray⟩) := (at_cell HY.out.at_ 8).trans rfl
  have y9 : Y.cell? ⟨w.heap.size, 9, none⟩ = some (.string ⟨d5.toArray⟩) := (at_cell HY.out.at_ 9).trans rfl
  have y10 : Y.cell? ⟨w.heap.size, 10, none⟩ = some (.string ⟨d6.toArray⟩) := (at_cell HY.out.at_ 10).trans rfl
  have y11 : Y.cell? ⟨w.heap.size, 11, none⟩ = some (.string ⟨d7.toArray⟩) := (at_cell HY.out.at_ 11).trans rfl
  have y12 : Y.cell? ⟨w.heap.size, 12, none⟩ = some (.string ⟨d8.toArray⟩) := (at_cell HY.out.at_ 12).trans rfl
  have y13 : Y.cell? ⟨w.heap.size, 13, none⟩ = some (.string ⟨d9.toArray⟩) := (at_cell HY.out.at_ 13).trans rfl
  have HCT := Lib.hid (Pick_cf HY.out.few d0 d1 d2 d3 d4 d5 d6 d7 d8 d9 HY.out.rd u' q' hul)
  unfold confV at HCT
  rw [EPI.out, EPC.out] at HCT
  go_wp2_with fail
  refine HCT.out.mono ?_
  rintro e w2 ⟨rfl, hb2⟩
  have V13 : Hid ((rdK G1).sat w2 v1) := Lib.hid ((rdK G1).mono _ _ _ hb2 V12.out)
  clear V12
  have V12 := V13
  clear V13
  have V23 : Hid ((rdK G1).sat w2 v2) := Lib.hid ((rdK G1).mono _ _ _ hb2 V22.out)
  clear V22
  have V22 := V23
  clear V23
  have HY2 : Hid (Bxd w2 w.heap.size (.slice q0 m.cons.length j0) (.slice q1 m.grps.length j1) (.slice q2 m.usrs.length j2) (.slice q3 m.accs.length j3) d0 d1 d2 d3 d4 d5 d6 d7 d8 d9 m) := Lib.hid ⟨(hb2.block _ (at_lt HY.out.at_)).trans HY.out.at_, HY.out.rd.below hb2, HY.out.few⟩
  have HBY2 := Lib.hid (HBY.out.trans (hb2.mono HBY.out.size))
  clear y0 y1 y2 y3 y4 y5 y6 y7 y8 y9 y10 y11 y12 y13
  clear hb2 HCT HY HBY
  have HY := HY2
  have HBY := HBY2
  clear HY2 HBY2
  generalize w2 = Y at *
  have y0 : Y.cell? ⟨w.heap.size, 0, none⟩ = some (.slice q0 m.cons.length j0) := (at_cell HY.out.at_ 0).trans rfl
  have y1 : Y.cell? ⟨w.heap.size, 1, none⟩ = some (.slice q1 m.grps.length j1) := (at_cell HY.out.at_ 1).trans rfl
  have y2 : Y.cell? ⟨w.heap.size, 2, none⟩ = some (.slice q2 m.usrs.length j2) := (at_cell HY.out.at_ 2).trans rfl
  have y3 : Y.cell? ⟨w.heap.size, 3, none⟩ = some (.slice q3 m.accs.length j3) := (at_cell HY.out.at_ 3).trans rfl
  have y4 : Y.cell? ⟨w.heap.size, 4, none⟩ = some (.string ⟨d0.toArray⟩) := (at_cell HY.out.at_ 4).trans rfl
  have y5 : Y.cell? ⟨w.heap.size, 5, none⟩ = some (.string ⟨d1.toArray⟩) := (at_cell HY.out.at_ 5).trans rfl
  have y6 : Y.cell? ⟨w.heap.size, 6, none⟩ = some (.string ⟨d2.toArray⟩) := (at_cell HY.out.at_ 6).trans rfl
  have y7 : Y.cell? ⟨w.heap.size, 7, none⟩ = some (.string ⟨d3.toArray⟩) := (at_cell HY.out.at_ 7).trans rfl
  have y8 : Y.cell? ⟨w.heap.size, 8, none⟩ = some (.string ⟨d4.toArray⟩) := (at_cell HY.out.at_ 8).trans rfl
  have y9 : Y.cell? ⟨w.heap.size, 9, none⟩ = some (.string ⟨d5.toArray⟩) := (at_cell HY.out.at_ 9).trans rfl
  have y10 : Y.cell? ⟨w.heap.size, 10, none⟩ = some (.string ⟨d6.toArray⟩) := (at_cell HY.out.at_ 10).trans rfl
  have y11 : Y.cell? ⟨w.heap.size, 11, none⟩ = some (.string ⟨d7.toArray⟩) := (at_cell HY.out.at_ 11).trans rfl
  have y12 : Y.cell? ⟨w.heap.size, 12, none⟩ = some (.string ⟨d8.toArray⟩) := (at_cell HY.out.at_ 12).trans rfl
  have y13 : Y.cell? ⟨w.heap.size, 13, none⟩ = some (.string ⟨d9.toArray⟩) := (at_cell HY.out.at_ 13).trans rfl
  have HCT := Lib.hid (rPick_cf HY.out.few d0 d1 d2 d3 d4 d5 d6 d7 d8 d9 HY.out.rd u' q' hul)
  unfold confV at HCT
  rw [EPI.out, EPC.out] at HCT
  go_wp2_with fail
  refine HCT.out.mono ?_
  rintro e w2 ⟨rfl, hb2⟩
  have V13 : Hid ((rdK G1).sat w2 v1) := Lib.hid ((rdK G1).mono _ _ _ hb2 V12.out)
  clear V12
  have V12 := V13
  clear V13
  have V23 : Hid ((rdK G1).sat w2 v2) := Lib.hid ((rdK G1).mono _ _ _ hb2 V22.out)
  clear V22
  have V22 := V23
  clear V23
  have HY2 : Hid (Bxd w2 w.heap.size (.slice q0 m.cons.length j0) (.slice q1 m.grps.length j1) (.slice q2 m.usrs.length j2) (.slice q3 m.accs.length j3) d0 d1 d2 d3 d4 d5 d6 d7 d8 d9 m) := Lib.hid ⟨(hb2.block _ (at_lt HY.out.at_)).trans HY.out.at_, HY.out.rd.below hb2, HY.out.few⟩
  have HBY2 := Lib.hid (HBY.out.trans (hb2.mono HBY.out.size))
  clear y0 y1 y2 y3 y4 y5 y6 y7 y8 y9 y10 y11 y12 y13
  clear hb2 HCT HY HBY
  have HY := HY2
  have HBY := HBY2
  clear HY2 HBY2
  generalize w2 = Y at *
  go_wp2_with fail
  refine Reg.wp_sat (by kernel_rfl) [some 47, some 48, some 49, some 50, some 51, some 52, some 53, some 54, some 55, some 56, some 57, some 58, some 59, some 60, some 61, some 62, some 63, some 64, some 65, some 66, some 67, some 68, some 69, some 70, some 71, some 72, some 73, some 74, some 75, some 76] [Reg.Kn.val (v1), Reg.Kn.val (v2), Reg.Kn.bl true, Reg.Kn.bl false, Reg.Kn.bl false, Reg.Kn.val (.int .i64 gc), Reg.Kn.val (.int .i64 gc), Reg.Kn.bl false, Reg.Kn.bl false, Reg.Kn.bl false, Reg.Kn.val (.int .i64 pi), Reg.Kn.val (.int .i64 pi), Reg.Kn.bl false, Reg.Kn.bl false, Reg.Kn.bl false, Reg.Kn.val (.int .i64 pc), Reg.Kn.val (.int .i64 pc), Reg.Kn.bl false, Reg.Kn.bl false, Reg.Kn.bl false, Reg.Kn.val (.agg #[.slice q0 m.cons.length j0, .slice q1 m.grps.length j1, .slice q2 m.usrs.length j2, .slice q3 m.accs.length j3, .string ⟨d0.toArray⟩, .string ⟨d1.toArray⟩, .string ⟨d2.toArray⟩, .string ⟨d3.toArray⟩, .string ⟨d4.toArray⟩, .string ⟨d5.toArray⟩, .string ⟨d6.toArray⟩, .string ⟨d7.toArray⟩, .string ⟨d8.toArray⟩, .string ⟨d9.toArray⟩]), Reg.Kn.val (.string ⟨q'.toArray⟩), rdK (fitM m q'), Reg.Kn.val (.agg #[.slice q0 m.cons.length j0, .slice q1 m.grps.length j1, .slice q2 m.usrs.length j2, .slice q3 m.accs.length j3, .string ⟨d0.toArray⟩, .string ⟨d1.toArray⟩, .string ⟨d2.toArray⟩, .string ⟨d3.toArray⟩, .string ⟨d4.toArray⟩, .string ⟨d5.toArray⟩, .string ⟨d6.toArray⟩, .string ⟨d7.toArray⟩, .string ⟨d8.toArray⟩, .string ⟨d9.toArray⟩]), Reg.Kn.val (.string ⟨q'.toArray⟩), txK q', rdK (fitM m q'), Reg.Kn.bl true, Reg.Kn.bl false, Reg.Kn.bl false] (List.replicate 30 true) [(47, 0), (48, 1), (49, 2), (50, 3), (51, 4), (52, 5), (53, 6), (54, 7), (55, 8), (56, 9), (57, 10), (58, 11), (59, 12), (60, 13), (61, 14), (62, 15), (63, 16), (64, 17), (65, 18), (66, 19), (67, 20), (68, 21), (69, 22), (70, 23), (71, 24), (72, 25), (73, 26), (74, 27), (75, 28), (76, 29)] (by kernel_rfl) (by kernel_rfl) (by kernel_rfl) (by decide) (by kernel_rfl) ?_ ?_
  · intro ii op a' w' ho hwd hdp hot hb
    have hr := Below.refl w'.heap.size w'
    have N1 := (hb.block _ (at_lt HY.out.at_)).trans HY.out.at_
    have hR := HY.out.rd.below hb
    match ii, ho, hwd, hdp, hot with
    | 0, ho, hwd, hdp, hot =>
      obtain rfl := Option.some.inj ho
      have e7 : a'.tmps[7]? = some (v1) := (hot 7 ⟨by kernel_rfl⟩).trans rfl
      exact wp_move 7 _ rfl e7 ⟨_, rfl, rfl, hr⟩
    | 1, ho, hwd, hdp, hot =>
      obtain rfl := Option.some.inj ho
      have e9 : a'.tmps[9]? = some (v2) := (hot 9 ⟨by kernel_rfl⟩).trans rfl
      exact wp_move 9 _ rfl e9 ⟨_, rfl, rfl, hr⟩
    | 2, ho, hwd, hdp, hot =>
      obtain rfl := Option.some.inj ho
      have e47 : a'.tmps[47]? = some (v1) := by obtain ⟨_, e, h⟩ := hdp 0 (Reg.mem_of (by kernel_rfl)) _ rfl; exact e.trans (congrArg some h)
      have e48 : a'.tmps[48]? = some (v2) := by obtain ⟨_, e, h⟩ := hdp 1 (Reg.mem_of (by kernel_rfl)) _ rfl; exact e.trans (congrArg some h)
      exact wp_call2_wheelhouseref16Same 47 48 _ _ _ _ rfl e47 e48 ((rd_same ((rdK G1).mono _ _ _ hb V12.out) ((rdK G1).mono _ _ _ hb V22.out)).mono (by rintro e w2 ⟨rfl, hb2⟩; exact ⟨_, rfl, rfl, hb2⟩)) fun v w2 hk hb2 => ⟨_, rfl, hk, hb2⟩
    | 3, ho, hwd, hdp, hot =>
      obtain rfl := Option.some.inj ho
      have e49 : a'.tmps[49]? = some (.bool true) := by obtain ⟨_, e, h⟩ := hdp 2 (Reg.mem_of (by kernel_rfl)) _ rfl; exact e.trans (congrArg some h)
      exact wp_not 49 _ _ rfl e49 rfl ⟨_, rfl, rfl, hr⟩
    | 4, ho, hwd, hdp, hot =>
      obtain rfl := Option.some.inj ho
      have e50 : a'.tmps[50]? = some (.bool false) := by obtain ⟨_, e, h⟩ := hdp 3 (Reg.mem_of (by kernel_rfl)) _ rfl; exact e.trans (congrArg some h)
      exact wp_move 50 _ rfl e50 ⟨_, rfl, rfl, hr⟩
    | 5, ho, hwd, hdp, hot =>
      obtain rfl := Option.some.inj ho
      have e8 : a'.tmps[8]? = some (.int .i64 gc) := (hot 8 ⟨by kernel_rfl⟩).trans rfl
      exact wp_move 8 _ rfl e8 ⟨_, rfl, rfl, hr⟩
    | 6, ho, hwd, hdp, hot =>
      obtain rfl := Option.some.inj ho
      have e10 : a'.tmps[10]? = some (.int .i64 gc) := (hot 10 ⟨by kernel_rfl⟩).trans rfl
      exact wp_move 10 _ rfl e10 ⟨_, rfl, rfl, hr⟩
    | 7, ho, hwd, hdp, hot =>
      obtain rfl := Option.some.inj ho
      have e52 : a'.tmps[52]? = some (.int .i64 gc) := by obtain ⟨_, e, h⟩ := hdp 5 (Reg.mem_of (by kernel_rfl)) _ rfl; exact e.trans (congrArg some h)
      have e53 : a'.tmps[53]? = some (.int .i64 gc) := by obtain ⟨_, e, h⟩ := hdp 6 (Reg.mem_of (by kernel_rfl)) _ rfl; exact e.trans (congrArg some h)
      exact wp_neq_apiCode 52 53 _ _ _ rfl e52 e53 (by simp) ⟨_, rfl, rfl, hr⟩
    | 8, ho, hwd, hdp, hot =>
      obtain rfl := Option.some.inj ho
      have e51 : a'.tmps[51]? = some (.bool false) := by obtain ⟨_, e, h⟩ := hdp 4 (Reg.mem_of (by kernel_rfl)) _ rfl; exact e.trans (congrArg some h)
      have e54 : a'.tmps[54]? = some (.bool false) := by obtain ⟨_, e, h⟩ := hdp 7 (Reg.mem_of (by kernel_rfl)) _ rfl; exact e.trans (congrArg some h)
      exact wp_pickFct 51 54 _ _ rfl e51 e54 ⟨_, rfl, rfl, hr⟩
    | 9, ho, hwd, hdp, hot =>
      obtain rfl := Option.some.inj ho
      have e55 : a'.tmps[55]? = some (.bool false) := by obtain ⟨_, e, h⟩ := hdp 8 (Reg.mem_of (by kernel_rfl)) _ rfl; exact e.trans (congrArg some h)
      exact wp_move 55 _ rfl e55 ⟨_, rfl, rfl, hr⟩
    | 10, ho, hwd, hdp, hot =>
      obtain rfl := Option.some.inj ho
      have e11 : a'.tmps[11]? = some (.int .i64 pi) := (hot 11 ⟨by kernel_rfl⟩).trans rfl
      exact wp_move 11 _ rfl e11 ⟨_, rfl, rfl, hr⟩
    | 11, ho, hwd, hdp, hot =>
      obtain rfl := Option.some.inj ho
      have e13 : a'.tmps[13]? = some (.int .i64 pi) := (hot 13 ⟨by kernel_rfl⟩).trans rfl
      exact wp_move 13 _ rfl e13 ⟨_, rfl, rfl, hr⟩
    | 12, ho, hwd, hdp, hot =>
      obtain rfl := Option.some.inj ho
      have e57 : a'.tmps[57]? = some (.int .i64 pi) := by obtain ⟨_, e, h⟩ := hdp 10 (Reg.mem_of (by kernel_rfl)) _ rfl; exact e.trans (congrArg some h)
      have e58 : a'.tmps[58]? = some (.int .i64 pi) := by obtain ⟨_, e, h⟩ := hdp 11 (Reg.mem_of (by kernel_rfl)) _ rfl; exact e.trans (congrArg some h)
      exact wp_neq_int 57 58 _ _ _ rfl e57 e58 (by simp) ⟨_, rfl, rfl, hr⟩
    | 13, ho, hwd, hdp, hot =>
      obtain rfl := Option.some.inj ho
      have e56 : a'.tmps[56]? = some (.bool false) := by obtain ⟨_, e, h⟩ := hdp 9 (Reg.mem_of (by kernel_rfl)) _ rfl; exact e.trans (congrArg some h)
      have e59 : a'.tmps[59]? = some (.bool false) := by obtain ⟨_, e, h⟩ := hdp 12 (Reg.mem_of (by kernel_rfl)) _ rfl; exact e.trans (congrArg some h)
      exact wp_pickFct 56 59 _ _ rfl e56 e59 ⟨_, rfl, rfl, hr⟩
    | 14, ho, hwd, hdp, hot =>
      obtain rfl := Option.some.inj ho
      have e60 : a'.tmps[60]? = some (.bool false) := by obtain ⟨_, e, h⟩ := hdp 13 (Reg.mem_of (by kernel_rfl)) _ rfl; exact e.trans (congrArg some h)
      exact wp_move 60 _ rfl e60 ⟨_, rfl, rfl, hr⟩
    | 15, ho, hwd, hdp, hot =>
      obtain rfl := Option.some.inj ho
      have e12 : a'.tmps[12]? = some (.int .i64 pc) := (hot 12 ⟨by kernel_rfl⟩).trans rfl
      exact wp_move 12 _ rfl e12 ⟨_, rfl, rfl, hr⟩
    | 16, ho, hwd, hdp, hot =>
      obtain rfl := Option.some.inj ho
      have e14 : a'.tmps[14]? = some (.int .i64 pc) := (hot 14 ⟨by kernel_rfl⟩).trans rfl
      exact wp_move 14 _ rfl e14 ⟨_, rfl, rfl, hr⟩
    | 17, ho, hwd, hdp, hot =>
      obtain rfl := Option.some.inj ho
      have e62 : a'.tmps[62]? = some (.int .i64 pc) := by obtain ⟨_, e, h⟩ := hdp 15 (Reg.mem_of (by kernel_rfl)) _ rfl; exact e.trans (congrArg some h)
      have e63 : a'.tmps[63]? = some (.int .i64 pc) := by obtain ⟨_, e, h⟩ := hdp 16 (Reg.mem_of (by kernel_rfl)) _ rfl; exact e.trans (congrArg some h)
      exact wp_neq_apiCode 62 63 _ _ _ rfl e62 e63 (by simp) ⟨_, rfl, rfl, hr⟩
    | 18, ho, hwd, hdp, hot =>
      obtain rfl := Option.some.inj ho
      have e61 : a'.tmps[61]? = some (.bool false) := by obtain ⟨_, e, h⟩ := hdp 14 (Reg.mem_of (by kernel_rfl)) _ rfl; exact e.trans (congrArg some h)
      have e64 : a'.tmps[64]? = some (.bool false) := by obtain ⟨_, e, h⟩ := hdp 17 (Reg.mem_of (by kernel_rfl)) _ rfl; exact e.trans (congrArg some h)
      exact wp_pickFct 61 64 _ _ rfl e61 e64 ⟨_, rfl, rfl, hr⟩
    | 19, ho, hwd, hdp, hot =>
      obtain rfl := Option.some.inj ho
      have e65 : a'.tmps[65]? = some (.bool false) := by obtain ⟨_, e, h⟩ := hdp 18 (Reg.mem_of (by kernel_rfl)) _ rfl; exact e.trans (congrArg some h)
      exact wp_move 65 _ rfl e65 ⟨_, rfl, rfl, hr⟩
    | 20, ho, hwd, hdp, hot =>
      obtain rfl := Option.some.inj ho
      have e3 : a'.tmps[3]? = some (.pointer (some ⟨w.heap.size, 0, none⟩)) := (hot 3 ⟨by kernel_rfl⟩).trans rfl
      exact wp_ldConf 3 _ _ _ _ _ _ _ _ _ _ _ _ _ _ _ rfl e3 N1 ⟨_, rfl, rfl, hr⟩
    | 21, ho, hwd, hdp, hot =>
      obtain rfl := Option.some.inj ho
      have e2 : a'.tmps[2]? = some (.string ⟨q'.toArray⟩) := (hot 2 ⟨by kernel_rfl⟩).trans rfl
      exact wp_move 2 _ rfl e2 ⟨_, rfl, rfl, hr⟩
    | 22, ho, hwd, hdp, hot =>
      obtain rfl := Option.some.inj ho
      have e67 : a'.tmps[67]? = some (.agg #[.slice q0 m.cons.length j0, .slice q1 m.grps.length j1, .slice q2 m.usrs.length j2, .slice q3 m.accs.length j3, .string ⟨d0.toArray⟩, .string ⟨d1.toArray⟩, .string ⟨d2.toArray⟩, .string ⟨d3.toArray⟩, .string ⟨d4.toArray⟩, .string ⟨d5.toArray⟩, .string ⟨d6.toArray⟩, .string ⟨d7.toArray⟩, .string ⟨d8.toArray⟩, .string ⟨d9.toArray⟩]) := by obtain ⟨_, e, h⟩ := hdp 20 (Reg.mem_of (by kernel_rfl)) _ rfl; exact e.trans (congrArg some h)
      have e68 : a'.tmps[68]? = some (.string ⟨q'.toArray⟩) := by obtain ⟨_, e, h⟩ := hdp 21 (Reg.mem_of (by kernel_rfl)) _ rfl; exact e.trans (congrArg some h)
      exact wp_call2_rightsFit 67 68 _ _ _ _ rfl e67 e68 ((Fit_cf HY.out.few d0 d1 d2 d3 d4 d5 d6 d7 d8 d9 hR q').mono (fun e w2 hh => pl_rd hh)) fun v w2 hk hb2 => ⟨_, rfl, hk, hb2⟩
    | 23, ho, hwd, hdp, hot =>
      obtain rfl := Option.some.inj ho
      have e3 : a'.tmps[3]? = some (.pointer (some ⟨w.heap.size, 0, none⟩)) := (hot 3 ⟨by kernel_rfl⟩).trans rfl
      exact wp_ldConf 3 _ _ _ _ _ _ _ _ _ _ _ _ _ _ _ rfl e3 N1 ⟨_, rfl, rfl, hr⟩
    | 24, ho, hwd, hdp, hot =>
      obtain rfl := Option.some.inj ho
      have e2 : a'.tmps[2]? = some (.string ⟨q'.toArray⟩) := (hot 2 ⟨by kernel_rfl⟩).trans rfl
      exact wp_move 2 _ rfl e2 ⟨_, rfl, rfl, hr⟩
    | 25, ho, hwd, hdp, hot =>
      obtain rfl := Option.some.inj ho
      have e71 : a'.tmps[71]? = some (.string ⟨q'.toArray⟩) := by obtain ⟨_, e, h⟩ := hdp 24 (Reg.mem_of (by kernel_rfl)) _ rfl; exact e.trans (congrArg some h)
      exact bs_str 71 _ rfl e71 ⟨_, rfl, tx_new w' q', (Below.refl _ _).alloc (Nat.le_refl _) _⟩
    | 26, ho, hwd, hdp, hot =>
      obtain rfl := Option.some.inj ho
      have e70 : a'.tmps[70]? = some (.agg #[.slice q0 m.cons.length j0, .slice q1 m.grps.length j1, .slice q2 m.usrs.length j2, .slice q3 m.accs.length j3, .string ⟨d0.toArray⟩, .string ⟨d1.toArray⟩, .string ⟨d2.toArray⟩, .string ⟨d3.toArray⟩, .string ⟨d4.toArray⟩, .string ⟨d5.toArray⟩, .string ⟨d6.toArray⟩, .string ⟨d7.toArray⟩, .string ⟨d8.toArray⟩, .string ⟨d9.toArray⟩]) := by obtain ⟨_, e, h⟩ := hdp 23 (Reg.mem_of (by kernel_rfl)) _ rfl; exact e.trans (congrArg some h)
      obtain ⟨v72, e72, s72⟩ := hdp 25 (Reg.mem_of (by kernel_rfl)) _ rfl
      obtain ⟨g9, rfl, ht9⟩ := s72
      exact wp_call2_wheelhouseref16Fit 70 72 _ _ _ _ rfl e70 e72 ((rFit_cf HY.out.few d0 d1 d2 d3 d4 d5 d6 d7 d8 d9 hR [q'] (fun p hp => by rw [List.mem_singleton.1 hp]; exact hql) _ 1 1 rfl ht9).mono (fun e w2 hh => by rw [fits_one] at hh; exact pl_rd hh)) fun v w2 hk hb2 => ⟨_, rfl, hk, hb2⟩
    | 27, ho, hwd, hdp, hot =>
      obtain rfl := Option.some.inj ho
      obtain ⟨v69, e69, s69⟩ := hdp 22 (Reg.mem_of (by kernel_rfl)) _ rfl
      obtain ⟨v73, e73, s73⟩ := hdp 26 (Reg.mem_of (by kernel_rfl)) _ rfl
      exact wp_call2_wheelhouseref16Same 69 73 _ _ _ _ rfl e69 e73 ((rd_same s69 s73).mono (by rintro e w2 ⟨rfl, hb2⟩; exact ⟨_, rfl, rfl, hb2⟩)) fun v w2 hk hb2 => ⟨_, rfl, hk, hb2⟩
    | 28, ho, hwd, hdp, hot =>
      obtain rfl := Option.some.inj ho
      have e74 : a'.tmps[74]? = some (.bool true) := by obtain ⟨_, e, h⟩ := hdp 27 (Reg.mem_of (by kernel_rfl)) _ rfl; exact e.trans (congrArg some h)
      exact wp_not 74 _ _ rfl e74 rfl ⟨_, rfl, rfl, hr⟩
    | 29, ho, hwd, hdp, hot =>
      obtain rfl := Option.some.inj ho
      have e66 : a'.tmps[66]? = some (.bool false) := by obtain ⟨_, e, h⟩ := hdp 19 (Reg.mem_of (by kernel_rfl)) _ rfl; exact e.trans (congrArg some h)
      have e75 : a'.tmps[75]? = some (.bool false) := by obtain ⟨_, e, h⟩ := hdp 28 (Reg.mem_of (by kernel_rfl)) _ rfl; exact e.trans (congrArg some h)
      exact wp_pickFct 66 75 _ _ rfl e66 e75 ⟨_, rfl, rfl, hr⟩
    | ii + 30, ho, _, _, _ => exact absurd ho (by simp)
  · intro us w' hul hus hb
    obtain ⟨z0, z1, z2, z3, z4, z5, z6, z7, z8, z9, z10, z11, z12, z13, z14, z15, z16, z17, z18, z19, z20, z21, z22, z23, z24, z25, z26, z27, z28, z29, rfl⟩ : ∃ z0 z1 z2 z3 z4 z5 z6 z7 z8 z9 z10 z11 z12 z13 z14 z15 z16 z17 z18 z19 z20 z21 z22 z23 z24 z25 z26 z27 z28 z29, us = [z0, z1, z2, z3, z4, z5, z6, z7, z8, z9, z10, z11, z12, z13, z14, z15, z16, z17, z18, z19, z20, z21, z22, z23, z24, z25, z26, z27, z28, z29] := by
      clear hus
      match us, hul with
      | [z0, z1, z2, z3, z4, z5, z6, z7, z8, z9, z10, z11, z12, z13, z14, z15, z16, z17, z18, z19, z20, z21, z22, z23, z24, z25, z26, z27, z28, z29], _ => exact ⟨z0, z1, z2, z3, z4, z5, z6, z7, z8, z9, z10, z11, z12, z13, z14, z15, z16, z17, z18, z19, z20, z21, z22, z23, z24, z25, z26, z27, z28, z29, rfl⟩
    have h76 : z29 = .bool false := hus 29 (76, 29) _ rfl rfl
    subst h76
    clear hus hul
    simp only [List.map, List.zip, List.zipWith, Reg.puts, Act.put, List.setIfInBounds_toArray, List.set_cons_succ, List.set_cons_zero]
    have HY2 : Hid (Bxd w' w.heap.size (.slice q0 m.cons.length j0) (.slice q1 m.grps.length j1) (.slice q2 m.usrs.length j2) (.slice q3 m.accs.length j3) d0 d1 d2 d3 d4 d5 d6 d7 d8 d9 m) := Lib.hid ⟨(hb.block _ (at_lt HY.out.at_)).trans HY.out.at_, HY.out.rd.below hb, HY.out.few⟩
    have HBY2 := Lib.hid (HBY.out.trans (hb.mono HBY.out.size))
    clear hb HY HBY V12 V22
    have HY := HY2
    have HBY := HBY2
    clear HY2 HBY2
    generalize w' = Y at *
    rcases HPK.out with ⟨hp1, hp2⟩ | ⟨hp1, k, hk, hp2, hse⟩
    · have hb1 : (pc != 0) = true := by simpa using hp1
      subst hp2
      clear hp1
      go_wp2_with fail
      refine (works_calls _).mono ?_
      rintro e w3 ⟨rfl, hb3⟩
      go_wp2_with fail
      go_ret
      exact ⟨rfl, HBY.out.trans (hb3.mono HBY.out.size)⟩
    · subst hp1 hp2
      obtain ⟨_, _, e0, r0⟩ := HY.out.rd.cons
      injection e0 with e1 e2 e3
      subst e1 e3
      obtain ⟨g, o, rfl, hg, -, hat⟩ := con_at r0 hk
      have c0 := hat.1
      have hlv : decide (1 ≤ lvlM m.accs u' m.cons[k].name) = true := hse
      have hxl : m.cons[k].name.length ≤ 65536 := Nat.le_trans (HY.out.few.cons _ (List.getElem_mem hk)) (by decide)
      generalize m.cons[k] = x at *
      clear hat r0 hse e2
      go_wp2_with fail
      refine Reg.wp_sat (by kernel_rfl) [some 84, some 85, some 86, some 87, some 88, some 89, some 90, some 91, some 92, some 93, some 94, some 95, some 96, some 97, some 98, some 99, some 100, some 101, some 102, some 103, some 104, some 105, some 106, some 6] [Reg.Kn.val (.int .i64 (k : Int)), Reg.Kn.bl true, Reg.Kn.bl true, Reg.Kn.val (.int .i64 (k : Int)), Reg.Kn.val (.pointer (some ⟨w.heap.size, 0 + 0, none⟩)), Reg.Kn.val (.slice (some ⟨g, o, none⟩) m.cons.length j0), Reg.Kn.val (.int .i64 (m.cons.length : Int)), Reg.Kn.bl true, Reg.Kn.bl true, Reg.Kn.bl true, Reg.Kn.val (.agg #[.slice (some ⟨g, o, none⟩) m.cons.length j0, .slice q1 m.grps.length j1, .slice q2 m.usrs.length j2, .slice q3 m.accs.length j3, .string ⟨d0.toArray⟩, .string ⟨d1.toArray⟩, .string ⟨d2.toArray⟩, .string ⟨d3.toArray⟩, .string ⟨d4.toArray⟩, .string ⟨d5.toArray⟩, .string ⟨d6.toArray⟩, .string ⟨d7.toArray⟩, .string ⟨d8.toArray⟩, .string ⟨d9.toArray⟩]), Reg.Kn.val (.string ⟨u'.toArray⟩), Reg.Kn.val (.pointer (some ⟨w.heap.size, 0 + 0, none⟩)), Reg.Kn.val (.slice (some ⟨g, o, none⟩) m.cons.length j0), Reg.Kn.val (.int .i64 (k : Int)), Reg.Kn.val (.pointer (some ⟨g, o + k * 10, none⟩)), Reg.Kn.val (.pointer (some ⟨g, o + k * 10 + 0, none⟩)), Reg.Kn.val (.string ⟨x.name.toArray⟩), Reg.Kn.bl true, Reg.Kn.bl true, Reg.Kn.bl true, Reg.Kn.bl true, Reg.Kn.bl true, Reg.Kn.bl true] (List.replicate 24 true) [(84, 0), (85, 1), (86, 2), (87, 3), (88, 4), (89, 5), (90, 6), (91, 7), (92, 8), (93, 9), (94, 10), (95, 11), (96, 12), (97, 13), (98, 14), (99, 15), (100, 16), (101, 17), (102, 18), (103, 19), (104, 20), (105, 21), (106, 22), (6, 23)] (by kernel_rfl) (by kernel_rfl) (by kernel_rfl) (by decide) (by kernel_rfl) ?_ ?_
      · intro ii op a' w' ho hwd hdp hot hb
        have hr := Below.refl w'.heap.size w'
        have N1 := (hb.block _ (at_lt HY.out.at_)).trans HY.out.at_
        have hR := HY.out.rd.below hb
        match ii, ho, hwd, hdp, hot with
        | 0, ho, hwd, hdp, hot =>
          obtain rfl := Option.some.inj ho
          have e11 : a'.tmps[11]? = some (.int .i64 (k : Int)) := (hot 11 ⟨by kernel_rfl⟩).trans rfl
          exact wp_move 11 _ rfl e11 ⟨_, rfl, rfl, hr⟩
        | 1, ho, hwd, hdp, hot =>
          obtain rfl := Option.some.inj ho
          have e84 : a'.tmps[84]? = some (.int .i64 (k : Int)) := by obtain ⟨_, e, h⟩ := hdp 0 (Reg.mem_of (by kernel_rfl)) _ rfl; exact e.trans (congrArg some h)
          exact wp_geq_intc 84 _ _ _ rfl e84 (by simp) ⟨_, rfl, rfl, hr⟩
        | 2, ho, hwd, hdp, hot =>
          obtain rfl := Option.some.inj ho
          have e85 : a'.tmps[85]? = some (.bool true) := by obtain ⟨_, e, h⟩ := hdp 1 (Reg.mem_of (by kernel_rfl)) _ rfl; exact e.trans (congrArg some h)
          exact wp_move 85 _ rfl e85 ⟨_, rfl, rfl, hr⟩
        | 3, ho, hwd, hdp, hot =>
          obtain rfl := Option.some.inj ho
          have e11 : a'.tmps[11]? = some (.int .i64 (k : Int)) := (hot 11 ⟨by kernel_rfl⟩).trans rfl
          exact wp_move 11 _ rfl e11 ⟨_, rfl, rfl, hr⟩
        | 4, ho, hwd, hdp, hot =>
          obtain rfl := Option.some.inj ho
          have e3 : a'.tmps[3]? = some (.pointer (some ⟨w.heap.size, 0, none⟩)) := (hot 3 ⟨by kernel_rfl⟩).trans rfl
          exact wp_fa_apiConf_0 3 _ _ rfl e3 ⟨_, rfl, rfl, hr⟩
        | 5, ho, hwd, hdp, hot =>
          obtain rfl := Option.some.inj ho
          have e88 : a'.tmps[88]? = some (.pointer (some ⟨w.heap.size, 0 + 0, none⟩)) := by obtain ⟨_, e, h⟩ := hdp 4 (Reg.mem_of (by kernel_rfl)) _ rfl; exact e.trans (congrArg some h)
          exact wp_ld_slapiConsole 88 _ _ rfl e88 (at_cell N1 0) ⟨_, rfl, rfl, hr⟩
        | 6, ho, hwd, hdp, hot =>
          obtain rfl := Option.some.inj ho
          have e89 : a'.tmps[89]? = some (.slice (some ⟨g, o, none⟩) m.cons.length j0) := by obtain ⟨_, e, h⟩ := hdp 5 (Reg.mem_of (by kernel_rfl)) _ rfl; exact e.trans (congrArg some h)
          exact wp_len 89 _ _ _ _ rfl rfl e89 ⟨_, rfl, rfl, hr⟩
        | 7, ho, hwd, hdp, hot =>
          obtain rfl := Option.some.inj ho
          have e87 : a'.tmps[87]? = some (.int .i64 (k : Int)) := by obtain ⟨_, e, h⟩ := hdp 3 (Reg.mem_of (by kernel_rfl)) _ rfl; exact e.trans (congrArg some h)
          have e90 : a'.tmps[90]? = some (.int .i64 (m.cons.length : Int)) := by obtain ⟨_, e, h⟩ := hdp 6 (Reg.mem_of (by kernel_rfl)) _ rfl; exact e.trans (congrArg some h)
          exact wp_lss_int 87 90 _ _ _ rfl e87 e90 (by simp; omega) ⟨_, rfl, rfl, hr⟩
        | 8, ho, hwd, hdp, hot =>
          obtain rfl := Option.some.inj ho
          have e86 : a'.tmps[86]? = some (.bool true) := by obtain ⟨_, e, h⟩ := hdp 2 (Reg.mem_of (by kernel_rfl)) _ rfl; exact e.trans (congrArg some h)
          have e91 : a'.tmps[91]? = some (.bool true) := by obtain ⟨_, e, h⟩ := hdp 7 (Reg.mem_of (by kernel_rfl)) _ rfl; exact e.trans (congrArg some h)
          exact wp_pickTtc 86 91 _ _ rfl e86 e91 ⟨_, rfl, rfl, hr⟩
        | 9, ho, hwd, hdp, hot =>
          obtain rfl := Option.some.inj ho
          have e92 : a'.tmps[92]? = some (.bool true) := by obtain ⟨_, e, h⟩ := hdp 8 (Reg.mem_of (by kernel_rfl)) _ rfl; exact e.trans (congrArg some h)
          exact wp_move 92 _ rfl e92 ⟨_, rfl, rfl, hr⟩
        | 10, ho, hwd, hdp, hot =>
          obtain rfl := Option.some.inj ho
          have e3 : a'.tmps[3]? = some (.pointer (some ⟨w.heap.size, 0, none⟩)) := (hot 3 ⟨by kernel_rfl⟩).trans rfl
          exact wp_ldConf 3 _ _ _ _ _ _ _ _ _ _ _ _ _ _ _ rfl e3 N1 ⟨_, rfl, rfl, hr⟩
        | 11, ho, hwd, hdp, hot =>
          obtain rfl := Option.some.inj ho
          have e1 : a'.tmps[1]? = some (.string ⟨u'.toArray⟩) := (hot 1 ⟨by kernel_rfl⟩).trans rfl
          exact wp_move 1 _ rfl e1 ⟨_, rfl, rfl, hr⟩
        | 12, ho, hwd, hdp, hot =>
          obtain rfl := Option.some.inj ho
          have e3 : a'.tmps[3]? = some (.pointer (some ⟨w.heap.size, 0, none⟩)) := (hot 3 ⟨by kernel_rfl⟩).trans rfl
          exact wp_fa_apiConf_0 3 _ _ rfl e3 ⟨_, rfl, rfl, hr⟩
        | 13, ho, hwd, hdp, hot =>
          obtain rfl := Option.some.inj ho
          have e96 : a'.tmps[96]? = some (.pointer (some ⟨w.heap.size, 0 + 0, none⟩)) := by obtain ⟨_, e, h⟩ := hdp 12 (Reg.mem_of (by kernel_rfl)) _ rfl; exact e.trans (congrArg some h)
          exact wp_ld_slapiConsole 96 _ _ rfl e96 (at_cell N1 0) ⟨_, rfl, rfl, hr⟩
        | 14, ho, hwd, hdp, hot =>
          obtain rfl := Option.some.inj ho
          have e11 : a'.tmps[11]? = some (.int .i64 (k : Int)) := (hot 11 ⟨by kernel_rfl⟩).trans rfl
          exact wp_move 11 _ rfl e11 ⟨_, rfl, rfl, hr⟩
        | 15, ho, hwd, hdp, hot =>
          obtain rfl := Option.some.inj ho
          have e97 : a'.tmps[97]? = some (.slice (some ⟨g, o, none⟩) m.cons.length j0) := by obtain ⟨_, e, h⟩ := hdp 13 (Reg.mem_of (by kernel_rfl)) _ rfl; exact e.trans (congrArg some h)
          have e98 : a'.tmps[98]? = some (.int .i64 (k : Int)) := by obtain ⟨_, e, h⟩ := hdp 14 (Reg.mem_of (by kernel_rfl)) _ rfl; exact e.trans (congrArg some h)
          exact wp_ix_slapiConsole 97 98 _ _ _ _ _ rfl e97 e98 hk ⟨_, rfl, rfl, hr⟩
        | 16, ho, hwd, hdp, hot =>
          obtain rfl := Option.some.inj ho
          have e99 : a'.tmps[99]? = some (.pointer (some ⟨g, o + k * 10, none⟩)) := by obtain ⟨_, e, h⟩ := hdp 15 (Reg.mem_of (by kernel_rfl)) _ rfl; exact e.trans (congrArg some h)
          exact wp_fa_apiConsole_0 99 _ _ rfl e99 ⟨_, rfl, rfl, hr⟩
        | 17, ho, hwd, hdp, hot =>
          obtain rfl := Option.some.inj ho
          have e100 : a'.tmps[100]? = some (.pointer (some ⟨g, o + k * 10 + 0, none⟩)) := by obtain ⟨_, e, h⟩ := hdp 16 (Reg.mem_of (by kernel_rfl)) _ rfl; exact e.trans (congrArg some h)
          exact wp_ld_string 100 _ _ rfl e100 ((hb.cell (p := ⟨g, o + k * 10, none⟩) hg).trans c0) ⟨_, rfl, rfl, hr⟩
        | 18, ho, hwd, hdp, hot =>
          obtain rfl := Option.some.inj ho
          have e94 : a'.tmps[94]? = some (.agg #[.slice (some ⟨g, o, none⟩) m.cons.length j0, .slice q1 m.grps.length j1, .slice q2 m.usrs.length j2, .slice q3 m.accs.length j3, .string ⟨d0.toArray⟩, .string ⟨d1.toArray⟩, .string ⟨d2.toArray⟩, .string ⟨d3.toArray⟩, .string ⟨d4.toArray⟩, .string ⟨d5.toArray⟩, .string ⟨d6.toArray⟩, .string ⟨d7.toArray⟩, .string ⟨d8.toArray⟩, .string ⟨d9.toArray⟩]) := by obtain ⟨_, e, h⟩ := hdp 10 (Reg.mem_of (by kernel_rfl)) _ rfl; exact e.trans (congrArg some h)
          have e95 : a'.tmps[95]? = some (.string ⟨u'.toArray⟩) := by obtain ⟨_, e, h⟩ := hdp 11 (Reg.mem_of (by kernel_rfl)) _ rfl; exact e.trans (congrArg some h)
          have e101 : a'.tmps[101]? = some (.string ⟨x.name.toArray⟩) := by obtain ⟨_, e, h⟩ := hdp 17 (Reg.mem_of (by kernel_rfl)) _ rfl; exact e.trans (congrArg some h)
          exact wp_call4c_rightsMay 94 95 101 _ _ _ _ _ _ rfl e94 e95 e101 ((May_cf HY.out.few d0 d1 d2 d3 d4 d5 d6 d7 d8 d9 hR u' x.name 1 hul hxl).mono (by rintro e w2 ⟨rfl, hb2⟩; exact ⟨_, rfl, by rw [hlv]; rfl, hb2⟩)) fun v w2 hk hb2 => ⟨_, rfl, hk, hb2⟩
        | 19, ho, hwd, hdp, hot =>
          obtain rfl := Option.some.inj ho
          have e93 : a'.tmps[93]? = some (.bool true) := by obtain ⟨_, e, h⟩ := hdp 9 (Reg.mem_of (by kernel_rfl)) _ rfl; exact e.trans (congrArg some h)
          have e102 : a'.tmps[102]? = some (.bool true) := by obtain ⟨_, e, h⟩ := hdp 18 (Reg.mem_of (by kernel_rfl)) _ rfl; exact e.trans (congrArg some h)
          exact wp_pickTtc 93 102 _ _ rfl e93 e102 ⟨_, rfl, rfl, hr⟩
        | 20, ho, hwd, hdp, hot =>
          obtain rfl := Option.some.inj ho
          have e103 : a'.tmps[103]? = some (.bool true) := by obtain ⟨_, e, h⟩ := hdp 19 (Reg.mem_of (by kernel_rfl)) _ rfl; exact e.trans (congrArg some h)
          exact wp_move 103 _ rfl e103 ⟨_, rfl, rfl, hr⟩
        | 21, ho, hwd, hdp, hot =>
          obtain rfl := Option.some.inj ho
          exact wp_call0_wheelhouselaw16works  _ _ rfl  ((works_calls w').mono (by rintro e w2 ⟨rfl, hb2⟩; exact ⟨_, rfl, rfl, hb2⟩)) fun v w2 hk hb2 => ⟨_, rfl, hk, hb2⟩
        | 22, ho, hwd, hdp, hot =>
          obtain rfl := Option.some.inj ho
          have e104 : a'.tmps[104]? = some (.bool true) := by obtain ⟨_, e, h⟩ := hdp 20 (Reg.mem_of (by kernel_rfl)) _ rfl; exact e.trans (congrArg some h)
          have e105 : a'.tmps[105]? = some (.bool true) := by obtain ⟨_, e, h⟩ := hdp 21 (Reg.mem_of (by kernel_rfl)) _ rfl; exact e.trans (congrArg some h)
          exact wp_pickTtc 104 105 _ _ rfl e104 e105 ⟨_, rfl, rfl, hr⟩
        | 23, ho, hwd, hdp, hot =>
          obtain rfl := Option.some.inj ho
          have e106 : a'.tmps[106]? = some (.bool true) := by obtain ⟨_, e, h⟩ := hdp 22 (Reg.mem_of (by kernel_rfl)) _ rfl; exact e.trans (congrArg some h)
          exact wp_assign 106 _ rfl e106 ⟨_, rfl, rfl, hr⟩
        | ii + 24, ho, _, _, _ => exact absurd ho (by simp)
      · intro us w' hul hus hb
        obtain ⟨z0, z1, z2, z3, z4, z5, z6, z7, z8, z9, z10, z11, z12, z13, z14, z15, z16, z17, z18, z19, z20, z21, z22, z23, rfl⟩ : ∃ z0 z1 z2 z3 z4 z5 z6 z7 z8 z9 z10 z11 z12 z13 z14 z15 z16 z17 z18 z19 z20 z21 z22 z23, us = [z0, z1, z2, z3, z4, z5, z6, z7, z8, z9, z10, z11, z12, z13, z14, z15, z16, z17, z18, z19, z20, z21, z22, z23] := by
          clear hus
          match us, hul with
          | [z0, z1, z2, z3, z4, z5, z6, z7, z8, z9, z10, z11, z12, z13, z14, z15, z16, z17, z18, z19, z20, z21, z22, z23], _ => exact ⟨z0, z1, z2, z3, z4, z5, z6, z7, z8, z9, z10, z11, z12, z13, z14, z15, z16, z17, z18, z19, z20, z21, z22, z23, rfl⟩
        have h6 : z23 = .bool true := hus 23 (6, 23) _ rfl rfl
        subst h6
        clear hus hul
        simp only [List.map, List.zip, List.zipWith, Reg.puts, Act.put, List.setIfInBounds_toArray, List.set_cons_succ, List.set_cons_zero]
        have HE := Lib.hid (HBY.out.trans (hb.mono HBY.out.size))
        clear hb
        go_wp2_with fail
        go_ret
        exact ⟨rfl, HE.out⟩
end Go.Proofs.Ytpbjmfchnihjeaa.Rgt
